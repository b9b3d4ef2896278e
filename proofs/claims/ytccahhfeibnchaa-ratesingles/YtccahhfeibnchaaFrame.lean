/-
  What the laws' frames share: a slice of integers that came in reads as a row of numbers, a slice of such slices as rows of them.
-/
import Derived.Test.YtccahhfeibnchaaAwake
import Derived.ProofKit
import Derived.OpenShut
import Derived.ShutString
import Derived.ChangeOld
import Derived.SizedLaws
import Derived.Deep.Matrix
namespace Go.Proofs.Ytccahhfeibnchaa
open Go.ChangeShapes Go.WideShapes Go.ChangeAt Go.RowKit

theorem ownKnobNone : ownKnob Try.prog.godebug = none := by kernel_rfl
theorem laidOutAll : laidOutB Try.prog = true := by kernel_rfl
theorem bytes3 : Try.prog.bytesOf 3 = 8 := by kernel_rfl

theorem wf_bd {n : Int} (h : (Lit.int .i64 n).wf = true) : -9223372036854775808 ≤ n ∧ n ≤ 9223372036854775807 := by
  have h1 : IntKind.i64.min = -9223372036854775808 := by decide
  have h2 : IntKind.i64.max = 9223372036854775807 := by decide
  simp only [Lit.wf, Bool.and_eq_true, decide_eq_true_eq, h1, h2] at h
  exact h

theorem block_lt {w : World} {a : Addr} {v : Value} (h : w.cell? a = some v) : a.block < w.heap.size := by
  rcases Nat.lt_or_ge a.block w.heap.size with k | k
  · exact k
  · simp [World.cell?, Array.getElem?_eq_none k] at h

theorem add_at (b off i : Nat) : (Addr.add ⟨b, off, none⟩ i : Addr) = ⟨b, off + i, none⟩ := by
  unfold Addr.add
  by_cases e : i = 0
  · subst e; rfl
  · rw [if_neg e]

/-- The numbers of a slice whose cells are known up to its capacity. -/
theorem row_of {w : World} {A : Option Addr} {n c : Nat} {zs : List Int} (hl : n ≤ c) (hm : c ≤ maxLen) (hz : zs.length = c) (hwz : ∀ m ∈ zs, (Lit.int .i64 m).wf = true) (h0 : A = none → c = 0)
    (hcell : ∀ a, A = some a → ∀ i, i < c → w.cell? (a.add i) = some (.int .i64 (zs.getD i 0))) : Row w w.heap.size A n (zs.take n) := by
  refine ⟨by simp; omega, by unfold maxLen at hm; omega, fun i => ?_, fun hn => ?_⟩
  · by_cases hi : i < (zs.take n).length
    · rw [List.getElem?_eq_getElem hi]
      exact wf_bd (hwz _ (List.mem_of_mem_take (List.getElem_mem hi)))
    · rw [List.getElem?_eq_none (Nat.le_of_not_lt hi)]; simp
  · cases A with
    | none => have := h0 rfl; omega
    | some a =>
      obtain ⟨b, off, spot⟩ := a
      have hc0 := hcell _ rfl 0 (by omega)
      have hspot : spot = none := by simpa [Addr.add] using World.cell?_spot hc0
      subst hspot
      refine ⟨b, off, rfl, by simpa [Addr.add] using block_lt hc0, fun i hi => ?_⟩
      have hc := hcell _ rfl i (by omega)
      rw [add_at] at hc
      rw [hc]
      simp [List.getD, hi]

/-- A slice of integers that came in: its numbers; its length is at most its capacity, which is within the reach. -/
def In (w : World) (A : Option Addr) (n c : Nat) (xs : List Int) : Prop := Row w w.heap.size A n xs ∧ n ≤ c ∧ c * 8 ≤ 140737488351232 ∧ (A = none → c = 0)

theorem row_in {H : Type} {enc : TypeId × Value → H} {W : World} {A : Option Addr} {n c : Nat} {d : DataW H} {p : List MemPlace}
    (h : DataW.Trod enc Try.prog W 0 (fun _ => true) true 22 (.slice A n c) d p) (hs : ∀ m ∈ d.weights Try.prog 22, m ≤ reachBytes) : ∃ xs, In W A n c xs := by
  obtain ⟨fuel, hf⟩ := h
  rcases open_ints Try.underlying22 Try.underlying3 (by kernel_rfl) hf with ⟨hcs, _⟩ | ⟨x, l, c, zs, hcs, _, hl, hm, hz, hx, hcell, hwz⟩
  · simp [Value.cells] at hcs
    obtain ⟨rfl, rfl, rfl⟩ := hcs
    exact ⟨[], ⟨rfl, by omega, fun i => by simp, fun k => absurd k (by omega)⟩, by omega, by omega, fun _ => rfl⟩
  · simp [Value.cells] at hcs
    obtain ⟨rfl, rfl, rfl⟩ := hcs
    have hz : zs.length = c := by simpa using hz
    simp only [Prod.mk.injEq] at hx
    obtain ⟨rfl, _⟩ := hx
    have hw := hs _ (by simp only [DataW.weights, Try.underlying22]; exact List.mem_cons_self ..)
    rw [bytes3] at hw
    simp only [lits, List.length_map, List.length_take, List.length_drop, reachBytes] at hw
    refine ⟨zs.take n, row_of hl hm hz hwz (by simp) (fun a ha i hi => ?_), hl, by omega, by simp⟩
    injection ha with ha
    subst ha
    exact hcell i (by omega)

/-- A slice of slices of integers that came in. -/
def Mat (w : World) (A : Option Addr) (n : Nat) : Prop :=
  n ≤ 9223372036854775807 ∧ ∀ i, i < n → ∃ b off a l c xs, A = some ⟨b, off, none⟩ ∧ b < w.heap.size ∧ w.cell? ⟨b, off + i, none⟩ = some (.slice a l c) ∧ In w a l c xs

theorem weightsAll_mem {H : Type} {P : Program} {e : TypeId} {d : DataW H} {n : Nat} (hn : n ∈ d.weights P e) : ∀ {ds : List (DataW H)}, d ∈ ds → n ∈ DataW.weightsAll P e ds
  | x :: r, h => by
    simp only [DataW.weightsAll, List.mem_append]
    rcases List.mem_cons.1 h with rfl | h
    · exact .inl hn
    · exact .inr (weightsAll_mem hn h)

theorem mat_in {H : Type} {enc : TypeId × Value → H} {W : World} {A : Option Addr} {n c : Nat} {d : DataW H} {p : List MemPlace}
    (h : DataW.Trod enc Try.prog W 0 (fun _ => true) true 33 (.slice A n c) d p) (hs : ∀ m ∈ d.weights Try.prog 33, m ≤ reachBytes) : Mat W A n := by
  obtain ⟨fuel, hf⟩ := h
  rcases Deep.open_int_rows Try.underlying33 Try.underlying22 Try.underlying3 (by kernel_rfl) (by kernel_rfl) hf with ⟨hcs, _⟩ | ⟨x, l, c, Aa, L, C, Z, hcs, _, hl, hm, hx, hr⟩
  · simp [Value.cells] at hcs
    obtain ⟨rfl, rfl, rfl⟩ := hcs
    exact ⟨by omega, fun i hi => absurd hi (by omega)⟩
  · simp [Value.cells] at hcs
    obtain ⟨rfl, rfl, rfl⟩ := hcs
    refine ⟨by unfold maxLen at hm; omega, fun i hi => ?_⟩
    obtain ⟨b, off, spot⟩ := x
    obtain ⟨hcell, h1, h2, h3, h4, h5, h6⟩ := hr i (by omega)
    obtain ⟨hc0, _⟩ := hr 0 (by omega)
    have hspot : spot = none := by simpa [Addr.add] using World.cell?_spot hc0
    subst hspot
    have hlt := block_lt hcell
    rw [add_at] at hcell hlt
    refine ⟨b, off, Aa i, L i, C i, (Z i).take (L i), rfl, hlt, hcell, row_of h1 h2 h3 h4 h5 (fun a ha => (h6 a ha).2), h1, ?_, h5⟩
    cases hA : Aa i with
    | none => have := h5 hA; omega
    | some a =>
      simp only [Prod.mk.injEq] at hx
      obtain ⟨rfl, _⟩ := hx
      have hw := hs ((lits (H := H) .i64 ((Z i).take (L i))).length * 8 + (lits (H := H) .i64 ((Z i).drop (L i))).length * 8) (by
        simp only [DataW.weights, Try.underlying33]
        refine List.mem_cons_of_mem _ (List.mem_append_left _ (weightsAll_mem (d := Deep.intRow .i64 (Aa i) (L i) (Z i)) ?_ (List.mem_map.2 ⟨i, List.mem_range.2 hi, rfl⟩)))
        rw [hA]
        simp only [Deep.intRow, DataW.weights, Try.underlying22, bytes3, ← Nat.add_mul]
        exact List.mem_cons_self ..)
      simp only [lits, List.length_map, List.length_take, List.length_drop, reachBytes] at hw
      omega
end Go.Proofs.Ytccahhfeibnchaa
