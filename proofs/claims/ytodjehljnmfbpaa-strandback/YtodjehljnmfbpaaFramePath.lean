/-
  What the laws' frames share where rows of paths come in.
-/
import Derived.Test.YtodjehljnmfbpaaBundleA
import Derived.Test.YtodjehljnmfbpaaFrameGraph
set_option maxRecDepth 20000
namespace Go.Proofs.Ytodjehljnmfbpaa
open Go.ChangeShapes Go.WideShapes Go.ChangeAt Go.RowKit Go.Deep

theorem ints_in {H : Type} {enc : TypeId × Value → H} {W : World} {fuel : Nat} {v : Value} {x : DataW H × List MemPlace}
    (hf : DataW.trod enc Try.prog W 0 (fun _ => true) true fuel 25 [v] = some x) (hs : ∀ m ∈ x.1.weights Try.prog 25, m ≤ reachBytes) : ∃ A n c xs, v = .slice A n c ∧ In W A n c xs := by
  rcases open_ints Try.underlying25 Try.underlying3 (by kernel_rfl) hf with ⟨hcs, _⟩ | ⟨a, l, c, zs, hcs, _, hl, hm, hz, hx, hcell, hwz⟩
  · simp only [List.cons.injEq, and_true] at hcs
    subst hcs
    exact ⟨none, 0, 0, [], rfl, ⟨rfl, by omega, fun i => by simp, fun k => absurd k (by omega)⟩, by omega, by omega, fun _ => rfl⟩
  · simp only [List.cons.injEq, and_true] at hcs
    subst hcs
    have hz : zs.length = c := by simpa using hz
    subst hx
    have hw := hs _ (by simp only [DataW.weights, Try.underlying25]; exact List.mem_cons_self ..)
    rw [bytes3] at hw
    simp only [lits, List.length_map, List.length_take, List.length_drop, reachBytes] at hw
    refine ⟨some a, l, c, zs.take l, rfl, row_of hl hm hz hwz (by simp) (fun b hb i hi => ?_), hl, by omega, by simp⟩
    injection hb with hb
    subst hb
    exact hcell i (by omega)

theorem bytesPath : Try.prog.bytesOf 48 = 32 := by kernel_rfl
theorem cellsPath : Try.prog.cellsOf 48 = 2 := by kernel_rfl

theorem paths_in {H : Type} {enc : TypeId × Value → H} {W : World} {A : Option Addr} {n c : Nat} {d : DataW H} {p : List MemPlace}
    (h : DataW.Trod enc Try.prog W 0 (fun _ => true) true 27 (.slice A n c) d p) (hs : ∀ m ∈ d.weights Try.prog 27, m ≤ reachBytes) : ∃ ps, InP W A n c ps := by
  obtain ⟨fuel, hf⟩ := h
  rcases open_slice_pairs Try.underlying27 Try.underlying48 cellsPath rfl rfl (by kernel_rfl) (by kernel_rfl) hf with ⟨hcs, _⟩ | ⟨a, len, cap, m, k, V0, V1, D0, D1, P0, P1, hcs, _, hl, hm, hmm, hx, hi⟩
  · simp [Value.cells] at hcs
    obtain ⟨rfl, rfl, rfl⟩ := hcs
    exact ⟨[], ⟨rfl, by omega, fun i => by simp [rt, at2, bd64], fun i hi => absurd hi (by omega)⟩, by omega, by omega, fun _ => rfl, fun i hi => absurd hi (by omega)⟩
  · simp [Value.cells] at hcs
    obtain ⟨rfl, rfl, rfl⟩ := hcs
    have hmc : m = c := by simpa using hmm
    subst hmc
    simp only [Prod.mk.injEq] at hx
    obtain ⟨rfl, _⟩ := hx
    have hw := hs _ (by simp only [DataW.weights, Try.underlying27]; exact List.mem_cons_self ..)
    rw [bytesPath] at hw
    simp only [List.length_map, List.length_range, reachBytes] at hw
    have e : n + (m - n) = m := by omega
    rw [e] at hw
    have each : ∀ i, i < n → ∃ q : Int × Option Addr × Nat × Nat × List Int, W.cell? (a.add (i * 2)) = some (.int .i64 q.1) ∧ bd64 q.1 ∧ W.cell? (a.add (i * 2 + 1)) = some (.slice q.2.1 q.2.2.1 q.2.2.2.1) ∧ In W q.2.1 q.2.2.1 q.2.2.2.1 q.2.2.2.2 := by
      intro i hin
      obtain ⟨h0, h1, t0, t1⟩ := hi i (by omega)
      obtain ⟨z, e0, _, w0⟩ := DataW.trod_int Try.underlying3 t0
      simp only [List.cons.injEq, and_true] at e0
      obtain ⟨X, q, d, xs, e1, hin1⟩ := ints_in t1 (fun r hr => hs r (by
        simp only [DataW.weights, Try.underlying27]
        refine List.mem_cons_of_mem _ (List.mem_append_left _ (weightsAll_mem (d := .agg [D0 i, D1 i]) ?_ (List.mem_map.2 ⟨i, List.mem_range.2 hin, rfl⟩)))
        simp only [DataW.weights, Try.underlying48, DataW.weightsEach, List.map_cons, List.map_nil, List.mem_append]
        exact .inr (.inl hr)))
      exact ⟨(z, X, q, d, xs), by rw [h0, e0], wf_bd w0, by rw [h1, e1], hin1⟩
    obtain ⟨q, hq⟩ := choose_lt each
    have hget : ∀ i, i < n → at2 ((List.range n).map fun i => ((q i).1, (q i).2.2.2.2)) i = ((q i).1, (q i).2.2.2.2) := fun i hin => by simp [at2, hin]
    refine ⟨(List.range n).map fun i => ((q i).1, (q i).2.2.2.2), ⟨by simp, by unfold maxLen at hm; omega, fun i => ?_, fun i hin => ?_⟩, hl, hw, by simp, fun i hin b off X r d hA hc => ?_⟩
    · by_cases hin : i < n
      · rw [rt, hget i hin]
        exact (hq i hin).2.1
      · rw [rt, at2, List.getElem?_eq_none (by simp; omega)]
        simp [bd64]
    · obtain ⟨c0, _, c1, hin2⟩ := hq i hin
      obtain ⟨b, off, spot⟩ := a
      have hspot : spot = none := by simpa [Addr.add] using World.cell?_spot (hq 0 (by omega)).1
      subst hspot
      have hlt := block_lt c0
      rw [add_at] at c0 c1 hlt
      refine ⟨b, off, (q i).2.1, (q i).2.2.1, (q i).2.2.2.1, rfl, hlt, ?_, ?_, ?_⟩
      · rw [rt, hget i hin]; exact c0
      · rw [Nat.add_assoc]; exact c1
      · rw [lk, hget i hin]; exact hin2.1
    · obtain ⟨_, _, c1, hin2⟩ := hq i hin
      injection hA with hA
      subst hA
      rw [add_at, ← Nat.add_assoc, hc] at c1
      injection c1 with c1
      injection c1 with e1 e2 e3
      subst e1 e2 e3
      exact ⟨hin2.2.1, hin2.2.2.1, hin2.2.2.2⟩

end Go.Proofs.Ytodjehljnmfbpaa
