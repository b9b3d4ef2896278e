/-
  What the laws' frames share where graphs come in: a slice of structs of numbers reads as a row; a graph by value is a number and such a row.
-/
import Derived.Test.YtlpohlcmjnlbhaaJC
import Derived.Test.YtlpohlcmjnlbhaaFrame
import Derived.Deep.SlicePairs
import Derived.Lib.SmallJoins
set_option maxRecDepth 20000
namespace Go.Proofs.Ytlpohlcmjnlbhaa
open Go.ChangeShapes Go.WideShapes Go.ChangeAt Go.RowKit Go.Deep

theorem list_ints : ∀ (cs : List Value), (∀ j, j < cs.length → ∃ z, cs[j]? = some (.int .i64 z) ∧ bd64 z) → ∃ l : List Int, cs = l.map (Value.int .i64) ∧ ∀ z ∈ l, bd64 z
  | [], _ => ⟨[], rfl, by simp⟩
  | c :: cs, h => by
    obtain ⟨z, hz, bz⟩ := h 0 (by simp)
    obtain ⟨l, hl, bl⟩ := list_ints cs (fun j hj => by simpa using h (j + 1) (by simpa using hj))
    simp only [List.getElem?_cons_zero, Option.some.injEq] at hz
    subst hz hl
    refine ⟨z :: l, rfl, fun y hy => ?_⟩
    rcases List.mem_cons.1 hy with rfl | hy
    · exact bz
    · exact bl y hy

theorem cellsInt : Try.prog.cellsOf 3 = 1 := by kernel_rfl

theorem elts_in {α : Type} (E : Elt α) (dec : List Int → α) (henc : ∀ l : List Int, l.length = E.size → E.enc (dec l) = l.map (Value.int .i64)) {fs : Array Field} (hs : Try.prog.underlying E.T = some (.struct fs))
    (hk : fs.size = E.size) (hf : ∀ (j : Nat) (f : Field), fs[j]? = some f → f.offset = j ∧ f.type = 3) (hC : Try.prog.cellsOf E.T = E.size) (hB : Try.prog.bytesOf E.T = E.bytes)
    {H : Type} {enc : TypeId × Value → H} {W : World} {fuel : Nat} {v : Value} {x : DataW H × List MemPlace}
    (h : DataW.trod enc Try.prog W 0 (fun _ => true) true fuel E.L [v] = some x) (hsz : ∀ m ∈ x.1.weights Try.prog E.L, m ≤ reachBytes) :
    ∃ A n c ls, v = .slice A n c ∧ Elts E W W.heap.size A n ls ∧ n ≤ c ∧ c * E.bytes ≤ 140737488351232 ∧ (A = none → c = 0) ∧ ∀ a ∈ ls, ∃ l, a = dec l ∧ l.length = E.size ∧ ∀ z ∈ l, bd64 z := by
  rcases open_slice E.und h with ⟨hcs, _⟩ | ⟨a, len, cap, m, k, D, Pl, hcs, _, hl, hm, hmm, hx, hi⟩
  · simp only [List.cons.injEq, and_true] at hcs
    subst hcs
    exact ⟨none, 0, 0, [], rfl, ⟨rfl, by omega, fun k => absurd k (by omega)⟩, by omega, by omega, fun _ => rfl, by simp⟩
  · simp only [List.cons.injEq, and_true] at hcs
    subst hcs
    have hmc : m = cap := by simpa using hmm
    subst hmc
    subst hx
    have hw := hsz _ (by simp only [DataW.weights, E.und]; exact List.mem_cons_self ..)
    rw [hB] at hw
    simp only [List.length_map, List.length_range, reachBytes] at hw
    have e : len + (m - len) = m := by omega
    rw [e] at hw
    have each : ∀ i, i < len → ∃ l : List Int, l.length = E.size ∧ (∀ z ∈ l, bd64 z) ∧ ∀ j, j < E.size → W.cell? ((a.add (i * E.size)).add j) = (l.map (Value.int .i64))[j]? := by
      intro i hil
      obtain ⟨cs', hc, ht⟩ := hi i (by omega)
      rw [hC] at hc
      obtain ⟨_, hcl, hat⟩ := World.cells?_some hc
      obtain ⟨ys, n', _, _, _, hyl, hfld⟩ := DataW.trod_struct hs ht
      obtain ⟨l, rfl, bl⟩ := list_ints cs' (fun j hj => by
        have hjf : j < fs.size := by omega
        obtain ⟨ho, hty⟩ := hf j fs[j] (Array.getElem?_eq_getElem hjf)
        have h1 := hfld j fs[j] (Array.getElem?_eq_getElem hjf)
        rw [ho, hty, cellsInt, List.drop_eq_getElem_cons hj] at h1
        have h2 : DataW.trod enc Try.prog W 0 (fun _ => true) true n' 3 [cs'[j]] = some (ys[j]'(by omega)) := by
          rw [← List.getElem?_eq_getElem (by omega)]
          exact h1
        obtain ⟨z, e0, _, w0⟩ := DataW.trod_int Try.underlying3 h2
        simp only [List.cons.injEq, and_true] at e0
        exact ⟨z, by rw [List.getElem?_eq_getElem hj, e0], wf_bd w0⟩)
      exact ⟨l, by simpa using hcl, bl, hat⟩
    obtain ⟨q, hq⟩ := choose_lt each
    refine ⟨some a, len, m, (List.range len).map fun i => dec (q i), rfl, ⟨by simp, by unfold maxLen at hm; omega, fun hn => ?_⟩, hl, hw, by simp, fun b hb => ?_⟩
    · obtain ⟨b, off, spot⟩ := a
      have hp := E.pos
      have c0 := (hq 0 hn).2.2 0 hp
      have h0 : 0 < (q 0).length := by rw [(hq 0 hn).1]; exact hp
      rw [List.getElem?_map, List.getElem?_eq_getElem h0] at c0
      have hspot : spot = none := by simpa [Addr.add] using World.cell?_spot c0
      subst hspot
      refine ⟨b, off, rfl, by simpa [Addr.add] using block_lt c0, fun i hin j v hv => ?_⟩
      have hj : j < E.size := by
        rcases Nat.lt_or_ge j E.size with k | k
        · exact k
        · rw [List.getElem?_eq_none (by rw [E.len]; exact k)] at hv; cases hv
      have c1 := (hq i hin).2.2 j hj
      rw [add_at, add_at] at c1
      rw [List.getElem?_map, List.getElem?_range hin] at hv
      simp only [Option.map_some, Option.getD_some] at hv
      rw [henc _ (hq i hin).1] at hv
      rw [← Nat.add_assoc, c1]
      exact hv
    · simp only [List.mem_map, List.mem_range] at hb
      obtain ⟨i, hi2, rfl⟩ := hb
      exact ⟨q i, rfl, (hq i hi2).1, (hq i hi2).2.1⟩

theorem bytesLink : Try.prog.bytesOf 57 = 24 := by kernel_rfl
theorem cellsLink : Try.prog.cellsOf 57 = 3 := by kernel_rfl
theorem cellsGraph : Try.prog.cellsOf 24 = 2 := by kernel_rfl

def decL (l : List Int) : Lk := (l.getD 0 0, l.getD 1 0, l.getD 2 0)

theorem decL_enc : ∀ l : List Int, l.length = linkE.size → linkE.enc (decL l) = l.map (Value.int .i64)
  | [_, _, _], _ => rfl

theorem decL_ok : ∀ l : List Int, l.length = linkE.size → (∀ z ∈ l, bd64 z) → bd64 (decL l).1 ∧ bd64 (decL l).2.1 ∧ bd64 (decL l).2.2
  | [a, b, c], _, h => ⟨h a (by simp), h b (by simp), h c (by simp)⟩

theorem links_in {H : Type} {enc : TypeId × Value → H} {W : World} {fuel : Nat} {v : Value} {x : DataW H × List MemPlace}
    (h : DataW.trod enc Try.prog W 0 (fun _ => true) true fuel 22 [v] = some x) (hsz : ∀ m ∈ x.1.weights Try.prog 22, m ≤ reachBytes) :
    ∃ A n c ls, v = .slice A n c ∧ InG W A n c ls := by
  obtain ⟨A, n, c, ls, hv, hr, hl, hc, hn, hok⟩ := elts_in linkE decL decL_enc Try.underlying57 rfl (fun j f hj => by
    rcases j with _ | _ | _ | j
    · simp at hj; subst hj; exact ⟨rfl, rfl⟩
    · simp at hj; subst hj; exact ⟨rfl, rfl⟩
    · simp at hj; subst hj; exact ⟨rfl, rfl⟩
    · simp at hj) cellsLink bytesLink h hsz
  refine ⟨A, n, c, ls, hv, ⟨hr, fun i => ?_⟩, hl, hc, hn⟩
  unfold at3
  by_cases hi : i < ls.length
  · rw [List.getElem?_eq_getElem hi]
    obtain ⟨l, e, h1, h2⟩ := hok _ (List.getElem_mem hi)
    simp only [Option.getD_some]
    rw [e]
    exact decL_ok l h1 h2
  · rw [List.getElem?_eq_none (by omega)]
    simp [bd64]

set_option maxRecDepth 20000 in
theorem graph_in {H : Type} {enc : TypeId × Value → H} {W : World} {base : Nat} {r : Reach} {v : Value} {d : DataW H} {p : List MemPlace} (hv : Value.okWide Try.prog W r base 24 v)
    (h : DataW.Trod enc Try.prog W 0 (fun _ => true) true 24 v d p) (hs : ∀ m ∈ d.weights Try.prog 24, m ≤ reachBytes) :
    ∃ V A n c ls, v = .agg #[.int .i64 V, .slice A n c] ∧ bd64 V ∧ InG W A n c ls := by
  obtain ⟨v0, v1, y0, y1, m, hv, hd, _, t0, t1⟩ := Go.Joins.open_agg2 Try.underlying24 (by kernel_rfl) cellsGraph hv h
  obtain ⟨z0, e0, _, w0⟩ := DataW.trod_int Try.underlying3 t0
  simp only [List.cons.injEq, and_true] at e0
  subst e0 hd
  obtain ⟨A, n, c, ls, rfl, hin⟩ := links_in t1 (fun q hq => hs q (by
    simp only [DataW.weights, Try.underlying24, DataW.weightsEach, List.map_cons, List.map_nil, List.mem_append]
    exact .inr (.inl hq)))
  exact ⟨z0, A, n, c, ls, hv, wf_bd w0, hin⟩

end Go.Proofs.Ytlpohlcmjnlbhaa
