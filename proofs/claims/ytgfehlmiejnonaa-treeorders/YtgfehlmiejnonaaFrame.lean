/-
  What the laws' frames share: a slice of integers that came in reads as a row of numbers.
-/
import Derived.Test.YtgfehlmiejnonaaInts
import Derived.ProofKit
import Derived.OpenShut
import Derived.ShutString
import Derived.ChangeOld
import Derived.SizedLaws
set_option maxRecDepth 20000
namespace Go.Proofs.Ytgfehlmiejnonaa
open Go.ChangeShapes Go.WideShapes Go.ChangeAt Go.RowKit

theorem ownKnobNone : ownKnob Try.prog.godebug = none := by kernel_rfl

theorem laidOutAll : laidOutB Try.prog = true := by kernel_rfl

theorem bytes3 : Try.prog.bytesOf 3 = 8 := by kernel_rfl

theorem row_of {w : World} {A : Option Addr} {n c : Nat} {zs : List Int} (hl : n ≤ c) (hm : c ≤ maxLen) (hz : zs.length = c) (hwz : ∀ m ∈ zs, (Lit.int .i64 m).wf = true) (h0 : A = none → c = 0)
    (hcell : ∀ a, A = some a → ∀ i, i < c → w.cell? (a.add i) = some (.int .i64 (zs.getD i 0))) : Row w w.heap.size A n (zs.take n) := by
  refine ⟨by simp; omega, by unfold maxLen at hm; omega, fun i => ?_, fun hn => ?_⟩
  · by_cases hi : i < (zs.take n).length
    · rw [List.getElem?_eq_getElem hi]
      exact wf_bd (hwz _ (List.mem_of_mem_take (List.getElem_mem hi)))
    · rw [List.getElem?_eq_none (Nat.le_of_not_lt hi)]; simp
  · cases A with
    | none => have := h0 rfl; omega
    | some a =>
      obtain ⟨b, off, spot⟩ := a
      have hc0 := hcell _ rfl 0 (by omega)
      have hspot : spot = none := by simpa [Addr.add] using World.cell?_spot hc0
      subst hspot
      refine ⟨b, off, rfl, by simpa [Addr.add] using block_lt hc0, fun i hi => ?_⟩
      have hc := hcell _ rfl i (by omega)
      rw [add_at] at hc
      rw [hc]
      simp [List.getD, hi]

def In (w : World) (A : Option Addr) (n c : Nat) (xs : List Int) : Prop := Row w w.heap.size A n xs ∧ n ≤ c ∧ c * 8 ≤ 140737488351232 ∧ (A = none → c = 0)

theorem row_in {H : Type} {enc : TypeId × Value → H} {W : World} {A : Option Addr} {n c : Nat} {d : DataW H} {p : List MemPlace}
    (h : DataW.Trod enc Try.prog W 0 (fun _ => true) true 23 (.slice A n c) d p) (hs : ∀ m ∈ d.weights Try.prog 23, m ≤ reachBytes) : ∃ xs, In W A n c xs := by
  obtain ⟨fuel, hf⟩ := h
  rcases open_ints Try.underlying23 Try.underlying3 (by kernel_rfl) hf with ⟨hcs, _⟩ | ⟨x, l, c, zs, hcs, _, hl, hm, hz, hx, hcell, hwz⟩
  · simp [Value.cells] at hcs
    obtain ⟨rfl, rfl, rfl⟩ := hcs
    exact ⟨[], ⟨rfl, by omega, fun i => by simp, fun k => absurd k (by omega)⟩, by omega, by omega, fun _ => rfl⟩
  · simp [Value.cells] at hcs
    obtain ⟨rfl, rfl, rfl⟩ := hcs
    have hz : zs.length = c := by simpa using hz
    simp only [Prod.mk.injEq] at hx
    obtain ⟨rfl, _⟩ := hx
    have hw := hs _ (by simp only [DataW.weights, Try.underlying23]; exact List.mem_cons_self ..)
    rw [bytes3] at hw
    simp only [lits, List.length_map, List.length_take, List.length_drop, reachBytes] at hw
    refine ⟨zs.take n, row_of hl hm hz hwz (by simp) (fun a ha i hi => ?_), hl, by omega, by simp⟩
    injection ha with ha
    subst ha
    exact hcell i (by omega)

theorem weightsAll_mem {H : Type} {P : Program} {e : TypeId} {d : DataW H} {n : Nat} (hn : n ∈ d.weights P e) : ∀ {ds : List (DataW H)}, d ∈ ds → n ∈ DataW.weightsAll P e ds
  | x :: r, h => by
    simp only [DataW.weightsAll, List.mem_append]
    rcases List.mem_cons.1 h with rfl | h
    · exact .inl hn
    · exact .inr (weightsAll_mem hn h)

end Go.Proofs.Ytgfehlmiejnonaa
