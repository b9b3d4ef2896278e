/-
  What the laws' frames share where graphs come in: a slice of structs of numbers reads as a row; a graph by value is a number and such a row.
-/
import Derived.Test.YtgfehlmiejnonaaJC
import Derived.Test.YtgfehlmiejnonaaFrame
import Derived.Deep.SlicePairs
import Derived.Lib.SmallJoins
set_option maxRecDepth 20000
namespace Go.Proofs.Ytgfehlmiejnonaa
open Go.ChangeShapes Go.WideShapes Go.ChangeAt Go.RowKit Go.Deep

theorem list_ints : ∀ (cs : List Value), (∀ j, j < cs.length → ∃ z, cs[j]? = some (.int .i64 z) ∧ bd64 z) → ∃ l : List Int, cs = l.map (Value.int .i64) ∧ ∀ z ∈ l, bd64 z
  | [], _ => ⟨[], rfl, by simp⟩
  | c :: cs, h => by
    obtain ⟨z, hz, bz⟩ := h 0 (by simp)
    obtain ⟨l, hl, bl⟩ := list_ints cs (fun j hj => by simpa using h (j + 1) (by simpa using hj))
    simp only [List.getElem?_cons_zero, Option.some.injEq] at hz
    subst hz hl
    refine ⟨z :: l, rfl, fun y hy => ?_⟩
    rcases List.mem_cons.1 hy with rfl | hy
    · exact bz
    · exact bl y hy

theorem cellsInt : Try.prog.cellsOf 3 = 1 := by kernel_rfl

theorem elts_in {α : Type} (E : Elt α) (dec : List Int → α) (henc : ∀ l : List Int, l.length = E.size → E.enc (dec l) = l.map (Value.int .i64)) {fs : Array Field} (hs : Try.prog.underlying E.T = some (.struct fs))
    (hk : fs.size = E.size) (hf : ∀ (j : Nat) (f : Field), fs[j]? = some f → f.offset = j ∧ f.type = 3) (hC : Try.prog.cellsOf E.T = E.size) (hB : Try.prog.bytesOf E.T = E.bytes)
    {H : Type} {enc : TypeId × Value → H} {W : World} {fuel : Nat} {v : Value} {x : DataW H × List MemPlace}
    (h : DataW.trod enc Try.prog W 0 (fun _ => true) true fuel E.L [v] = some x) (hsz : ∀ m ∈ x.1.weights Try.prog E.L, m ≤ reachBytes) :
    ∃ A n c ls, v = .slice A n c ∧ Elts E W W.heap.size A n ls ∧ n ≤ c ∧ c * E.bytes ≤ 140737488351232 ∧ (A = none → c = 0) ∧ ∀ a ∈ ls, ∃ l, a = dec l ∧ l.length = E.size ∧ ∀ z ∈ l, bd64 z := by
  rcases open_slice E.und h with ⟨hcs, _⟩ | ⟨a, len, cap, m, k, D, Pl, hcs, _, hl, hm, hmm, hx, hi⟩
  · simp only [List.cons.injEq, and_true] at hcs
    subst hcs
    exact ⟨none, 0, 0, [], rfl, ⟨rfl, by omega, fun k => absurd k (by omega)⟩, by omega, by omega, fun _ => rfl, by simp⟩
  · simp only [List.cons.injEq, and_true] at hcs
    subst hcs
    have hmc : m = cap := by simpa using hmm
    subst hmc
    subst hx
    have hw := hsz _ (by simp only [DataW.weights, E.und]; exact List.mem_cons_self ..)
    rw [hB] at hw
    simp only [List.length_map, List.length_range, reachBytes] at hw
    have e : len + (m - len) = m := by omega
    rw [e] at hw
    have each : ∀ i, i < len → ∃ l : List Int, l.length = E.size ∧ (∀ z ∈ l, bd64 z) ∧ ∀ j, j < E.size → W.cell? ((a.add (i * E.size)).add j) = (l.map (Value.int .i64))[j]? := by
      intro i hil
      obtain ⟨cs', hc, ht⟩ := hi i (by omega)
      rw [hC] at hc
      obtain ⟨_, hcl, hat⟩ := World.cells?_some hc
      obtain ⟨ys, n', _, _, _, hyl, hfld⟩ := DataW.trod_struct hs ht
      obtain ⟨l, rfl, bl⟩ := list_ints cs' (fun j hj => by
        have hjf : j < fs.size := by omega
        obtain ⟨ho, hty⟩ := hf j fs[j] (Array.getElem?_eq_getElem hjf)
        have h1 := hfld j fs[j] (Array.getElem?_eq_getElem hjf)
        rw [ho, hty, cellsInt, List.drop_eq_getElem_cons hj] at h1
        have h2 : DataW.trod enc Try.prog W 0 (fun _ => true) true n' 3 [cs'[j]] = some (ys[j]'(by omega)) := by
          rw [← List.getElem?_eq_getElem (by omega)]
          exact h1
        obtain ⟨z, e0, _, w0⟩ := DataW.trod_int Try.underlying3 h2
        simp only [List.cons.injEq, and_true] at e0
        exact ⟨z, by rw [List.getElem?_eq_getElem hj, e0], wf_bd w0⟩)
      exact ⟨l, by simpa using hcl, bl, hat⟩
    obtain ⟨q, hq⟩ := choose_lt each
    refine ⟨some a, len, m, (List.range len).map fun i => dec (q i), rfl, ⟨by simp, by unfold maxLen at hm; omega, fun hn => ?_⟩, hl, hw, by simp, fun b hb => ?_⟩
    · obtain ⟨b, off, spot⟩ := a
      have hp := E.pos
      have c0 := (hq 0 hn).2.2 0 hp
      have h0 : 0 < (q 0).length := by rw [(hq 0 hn).1]; exact hp
      rw [List.getElem?_map, List.getElem?_eq_getElem h0] at c0
      have hspot : spot = none := by simpa [Addr.add] using World.cell?_spot c0
      subst hspot
      refine ⟨b, off, rfl, by simpa [Addr.add] using block_lt c0, fun i hin j v hv => ?_⟩
      have hj : j < E.size := by
        rcases Nat.lt_or_ge j E.size with k | k
        · exact k
        · rw [List.getElem?_eq_none (by rw [E.len]; exact k)] at hv; cases hv
      have c1 := (hq i hin).2.2 j hj
      rw [add_at, add_at] at c1
      rw [List.getElem?_map, List.getElem?_range hin] at hv
      simp only [Option.map_some, Option.getD_some] at hv
      rw [henc _ (hq i hin).1] at hv
      rw [← Nat.add_assoc, c1]
      exact hv
    · simp only [List.mem_map, List.mem_range] at hb
      obtain ⟨i, hi2, rfl⟩ := hb
      exact ⟨q i, rfl, (hq i hi2).1, (hq i hi2).2.1⟩

def decL (l : List Int) : Lk := (l.getD 0 0, l.getD 1 0, l.getD 2 0)

end Go.Proofs.Ytgfehlmiejnonaa
