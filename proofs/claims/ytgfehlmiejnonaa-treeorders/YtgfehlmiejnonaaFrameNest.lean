/-
  What the laws' frames share where structs that hold structs come in: a type whose cells are numbers, however it is made; a slice of it reads as a row.
-/
import Derived.Test.YtgfehlmiejnonaaFrameGraph
set_option maxRecDepth 20000
namespace Go.Proofs.Ytgfehlmiejnonaa
open Go.ChangeShapes Go.WideShapes Go.ChangeAt Go.RowKit Go.Deep

/-- Whatever is read at this type lies in so many cells, each a number. -/
def IntsAt (T : TypeId) (k : Nat) : Prop := ∀ {H : Type} {enc : TypeId × Value → H} {W : World} {fuel : Nat} {cs : List Value} {x : DataW H × List MemPlace}, cs.length = k → DataW.trod enc Try.prog W 0 (fun _ => true) true fuel T cs = some x → ∃ l : List Int, cs = l.map (Value.int .i64) ∧ ∀ z ∈ l, bd64 z

theorem ints_int : IntsAt 3 1 := by
  intro H enc W fuel cs x hl h
  obtain ⟨z, e0, _, w0⟩ := DataW.trod_int Try.underlying3 h
  exact ⟨[z], by rw [e0]; rfl, fun y hy => by rw [List.mem_singleton.1 hy]; exact wf_bd w0⟩

theorem ints_struct {T : TypeId} {k : Nat} {fs : Array Field} (hs : Try.prog.underlying T = some (.struct fs))
    (hcov : ∀ i, i < k → ∃ (j : Nat) (f : Field), fs[j]? = some f ∧ f.offset ≤ i ∧ i < f.offset + Try.prog.cellsOf f.type ∧ f.offset + Try.prog.cellsOf f.type ≤ k ∧ IntsAt f.type (Try.prog.cellsOf f.type)) : IntsAt T k := by
  intro H enc W fuel cs x hl h
  obtain ⟨ys, n', _, _, _, hyl, hfld⟩ := DataW.trod_struct hs h
  refine list_ints cs fun i hi => ?_
  obtain ⟨j, f, hj, h1, h2, h3, hI⟩ := hcov i (by omega)
  have hjl : j < fs.size := by
    rcases Nat.lt_or_ge j fs.size with q | q
    · exact q
    · rw [Array.getElem?_eq_none q] at hj; cases hj
  have hf := hfld j f hj
  rw [List.getElem?_eq_getElem (by omega)] at hf
  obtain ⟨l, e, b⟩ := hI (by rw [List.length_take, List.length_drop]; omega) hf
  have e1 : ((cs.drop f.offset).take (Try.prog.cellsOf f.type))[i - f.offset]? = cs[i]? := by
    rw [List.getElem?_take_of_lt (by omega), List.getElem?_drop]
    congr 1
    omega
  rw [e, List.getElem?_map, List.getElem?_eq_getElem (by
    have := congrArg List.length e
    simp only [List.length_take, List.length_drop, List.length_map] at this
    omega)] at e1
  exact ⟨_, e1.symm, b _ (List.getElem_mem _)⟩

theorem elts_nest {α : Type} (E : Elt α) (dec : List Int → α) (henc : ∀ l : List Int, l.length = E.size → E.enc (dec l) = l.map (Value.int .i64)) (hI : IntsAt E.T E.size) (hC : Try.prog.cellsOf E.T = E.size) (hB : Try.prog.bytesOf E.T = E.bytes)
    {H : Type} {enc : TypeId × Value → H} {W : World} {fuel : Nat} {v : Value} {x : DataW H × List MemPlace}
    (h : DataW.trod enc Try.prog W 0 (fun _ => true) true fuel E.L [v] = some x) (hsz : ∀ m ∈ x.1.weights Try.prog E.L, m ≤ reachBytes) :
    ∃ A n c ls, v = .slice A n c ∧ Elts E W W.heap.size A n ls ∧ n ≤ c ∧ c * E.bytes ≤ 140737488351232 ∧ (A = none → c = 0) ∧ ∀ a ∈ ls, ∃ l, a = dec l ∧ l.length = E.size ∧ ∀ z ∈ l, bd64 z := by
  rcases open_slice E.und h with ⟨hcs, _⟩ | ⟨a, len, cap, m, k, D, Pl, hcs, _, hl, hm, hmm, hx, hi⟩
  · simp only [List.cons.injEq, and_true] at hcs
    subst hcs
    exact ⟨none, 0, 0, [], rfl, ⟨rfl, by omega, fun k => absurd k (by omega)⟩, by omega, by omega, fun _ => rfl, by simp⟩
  · simp only [List.cons.injEq, and_true] at hcs
    subst hcs
    have hmc : m = cap := by simpa using hmm
    subst hmc
    subst hx
    have hw := hsz _ (by simp only [DataW.weights, E.und]; exact List.mem_cons_self ..)
    rw [hB] at hw
    simp only [List.length_map, List.length_range, reachBytes] at hw
    have e : len + (m - len) = m := by omega
    rw [e] at hw
    have each : ∀ i, i < len → ∃ l : List Int, l.length = E.size ∧ (∀ z ∈ l, bd64 z) ∧ ∀ j, j < E.size → W.cell? ((a.add (i * E.size)).add j) = (l.map (Value.int .i64))[j]? := by
      intro i hil
      obtain ⟨cs', hc, ht⟩ := hi i (by omega)
      rw [hC] at hc
      obtain ⟨_, hcl, hat⟩ := World.cells?_some hc
      obtain ⟨l, rfl, bl⟩ := hI hcl ht
      exact ⟨l, by simpa using hcl, bl, hat⟩
    obtain ⟨q, hq⟩ := choose_lt each
    refine ⟨some a, len, m, (List.range len).map fun i => dec (q i), rfl, ⟨by simp, by unfold maxLen at hm; omega, fun hn => ?_⟩, hl, hw, by simp, fun b hb => ?_⟩
    · obtain ⟨b, off, spot⟩ := a
      have hp := E.pos
      have c0 := (hq 0 hn).2.2 0 hp
      have h0 : 0 < (q 0).length := by rw [(hq 0 hn).1]; exact hp
      rw [List.getElem?_map, List.getElem?_eq_getElem h0] at c0
      have hspot : spot = none := by simpa [Addr.add] using World.cell?_spot c0
      subst hspot
      refine ⟨b, off, rfl, by simpa [Addr.add] using block_lt c0, fun i hin j v hv => ?_⟩
      have hj : j < E.size := by
        rcases Nat.lt_or_ge j E.size with k | k
        · exact k
        · rw [List.getElem?_eq_none (by rw [E.len]; exact k)] at hv; cases hv
      have c1 := (hq i hin).2.2 j hj
      rw [add_at, add_at] at c1
      rw [List.getElem?_map, List.getElem?_range hin] at hv
      simp only [Option.map_some, Option.getD_some] at hv
      rw [henc _ (hq i hin).1] at hv
      rw [← Nat.add_assoc, c1]
      exact hv
    · simp only [List.mem_map, List.mem_range] at hb
      obtain ⟨i, hi2, rfl⟩ := hb
      exact ⟨q i, rfl, (hq i hi2).1, (hq i hi2).2.1⟩

end Go.Proofs.Ytgfehlmiejnonaa
