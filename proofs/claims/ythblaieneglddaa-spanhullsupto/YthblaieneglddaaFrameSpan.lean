/-
  What the laws' frames share where spans come in: a slice of spans reads as a row of pairs of numbers; a span by value is two numbers.
-/
import Derived.Test.YthblaieneglddaaLawA
import Derived.Deep.SlicePairs
import Derived.Lib.SmallJoins
namespace Go.Proofs.Ythblaieneglddaa
open Go.ChangeShapes Go.WideShapes Go.ChangeAt Go.RowKit Go.Deep

theorem bytesSpan : Try.prog.bytesOf 23 = 16 := by kernel_rfl

theorem cellsSpan : Try.prog.cellsOf 23 = 2 := by kernel_rfl

theorem spans_in {H : Type} {enc : TypeId × Value → H} {W : World} {A : Option Addr} {n c : Nat} {d : DataW H} {p : List MemPlace}
    (h : DataW.Trod enc Try.prog W 0 (fun _ => true) true 31 (.slice A n c) d p) (hs : ∀ m ∈ d.weights Try.prog 31, m ≤ reachBytes) : ∃ xs, InS W A n c xs := by
  obtain ⟨fuel, hf⟩ := h
  rcases open_slice_pairs Try.underlying31 Try.underlying23 cellsSpan rfl rfl (by kernel_rfl) (by kernel_rfl) hf with ⟨hcs, _⟩ | ⟨a, len, cap, m, k, V0, V1, D0, D1, P0, P1, hcs, _, hl, hm, hmm, hx, hi⟩
  · simp [Value.cells] at hcs
    obtain ⟨rfl, rfl, rfl⟩ := hcs
    exact ⟨[], ⟨rfl, by omega, fun k => absurd k (by omega)⟩, by omega, by omega, fun _ => rfl⟩
  · simp [Value.cells] at hcs
    obtain ⟨rfl, rfl, rfl⟩ := hcs
    have hmc : m = c := by simpa using hmm
    subst hmc
    simp only [Prod.mk.injEq] at hx
    obtain ⟨rfl, _⟩ := hx
    have hw := hs _ (by simp only [DataW.weights, Try.underlying31]; exact List.mem_cons_self ..)
    rw [bytesSpan] at hw
    simp only [List.length_map, List.length_range, reachBytes] at hw
    have hsm : m * 16 ≤ 140737488351232 := by
      have e : n + (m - n) = m := by omega
      rw [e] at hw
      exact hw
    refine ⟨(List.range n).map fun i => (intOf (V0 i), intOf (V1 i)), ⟨by simp, by unfold maxLen at hm; omega, fun hn => ?_⟩, hl, hsm, by simp⟩
    obtain ⟨b, off, spot⟩ := a
    have hspot : spot = none := by simpa [Addr.add] using World.cell?_spot (hi 0 (by omega)).1
    subst hspot
    refine ⟨b, off, rfl, by simpa [Addr.add] using block_lt (hi 0 (by omega)).1, fun i hin j v hv => ?_⟩
    obtain ⟨h0, h1, t0, t1⟩ := hi i (by omega)
    obtain ⟨z0, e0, _, _⟩ := DataW.trod_int Try.underlying3 t0
    obtain ⟨z1, e1, _, _⟩ := DataW.trod_int Try.underlying3 t1
    simp only [List.cons.injEq, and_true] at e0 e1
    rw [add_at] at h0 h1
    rw [List.getElem?_map, List.getElem?_range hin] at hv
    simp only [Option.map_some, Option.getD_some] at hv
    rcases j with _ | _ | j
    · rw [e0] at h0 hv
      have : v = .int .i64 z0 := by simpa [spanE, intOf] using hv.symm
      rw [this]
      exact h0
    · rw [e1] at h1 hv
      have : v = .int .i64 z1 := by simpa [spanE, intOf] using hv.symm
      rw [this]
      exact h1
    · simp [spanE] at hv

theorem span_val {H : Type} {enc : TypeId × Value → H} {W : World} {base : Nat} {r : Reach} {v : Value} {d : DataW H} {p : List MemPlace} (hv : Value.okWide Try.prog W r base 23 v)
    (h : DataW.Trod enc Try.prog W 0 (fun _ => true) true 23 v d p) : ∃ a b : Int, v = .agg #[.int .i64 a, .int .i64 b] ∧ (-9223372036854775808 ≤ a ∧ a ≤ 9223372036854775807) ∧ (-9223372036854775808 ≤ b ∧ b ≤ 9223372036854775807) := by
  obtain ⟨v0, v1, y0, y1, m, hv, _, _, t0, t1⟩ := Go.Joins.open_agg2 Try.underlying23 (by kernel_rfl) cellsSpan hv h
  obtain ⟨z0, e0, _, w0⟩ := DataW.trod_int Try.underlying3 t0
  obtain ⟨z1, e1, _, w1⟩ := DataW.trod_int Try.underlying3 t1
  simp only [List.cons.injEq, and_true] at e0 e1
  subst e0 e1
  exact ⟨z0, z1, hv, wf_bd w0, wf_bd w1⟩

end Go.Proofs.Ythblaieneglddaa
