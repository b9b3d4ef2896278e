/-
  What the laws' frames share where trees come in: rows of items and of nodes, an item, a span and a tree by value.
-/
import Derived.Test.YtgfehlmiejnonaaJD
import Derived.Test.YtgfehlmiejnonaaFrameNest
import Derived.Test.YtgfehlmiejnonaaFrameSpn
set_option maxRecDepth 20000
namespace Go.Proofs.Ytgfehlmiejnonaa
open Go.ChangeShapes Go.WideShapes Go.ChangeAt Go.RowKit Go.Deep

theorem cellsItem : Try.prog.cellsOf 50 = 3 := by kernel_rfl
theorem bytesItem : Try.prog.bytesOf 50 = 24 := by kernel_rfl
theorem cellsNode : Try.prog.cellsOf 64 = 7 := by kernel_rfl
theorem bytesNode : Try.prog.bytesOf 64 = 56 := by kernel_rfl
theorem cellsTree : Try.prog.cellsOf 25 = 3 := by kernel_rfl
theorem bytesI : Try.prog.bytesOf 3 = 8 := by kernel_rfl

theorem ints_item : IntsAt 50 3 := by
  refine ints_struct Try.underlying50 fun i hi => ?_
  by_cases q : i < 2
  · exact ⟨0, _, rfl, Nat.zero_le _, by show i < 0 + Try.prog.cellsOf 27; rw [cellsSpn]; omega, by show 0 + Try.prog.cellsOf 27 ≤ 3; rw [cellsSpn]; decide, by show IntsAt 27 (Try.prog.cellsOf 27); rw [cellsSpn]; exact ints_span⟩
  · exact ⟨1, _, rfl, by show 2 ≤ i; omega, by show i < 2 + Try.prog.cellsOf 3; rw [cellsInt]; omega, by show 2 + Try.prog.cellsOf 3 ≤ 3; rw [cellsInt]; decide, by show IntsAt 3 (Try.prog.cellsOf 3); rw [cellsInt]; exact ints_int⟩

theorem ints_node : IntsAt 64 7 := by
  refine ints_struct Try.underlying64 fun i hi => ?_
  by_cases q : i < 3
  · exact ⟨0, _, rfl, Nat.zero_le _, by show i < 0 + Try.prog.cellsOf 50; rw [cellsItem]; omega, by show 0 + Try.prog.cellsOf 50 ≤ 7; rw [cellsItem]; decide, by show IntsAt 50 (Try.prog.cellsOf 50); rw [cellsItem]; exact ints_item⟩
  · rcases (show i = 3 ∨ i = 4 ∨ i = 5 ∨ i = 6 by omega) with rfl | rfl | rfl | rfl
    · exact ⟨1, _, rfl, Nat.le_refl 3, by show 3 < 3 + Try.prog.cellsOf 3; rw [cellsInt]; decide, by show 3 + Try.prog.cellsOf 3 ≤ 7; rw [cellsInt]; decide, by show IntsAt 3 (Try.prog.cellsOf 3); rw [cellsInt]; exact ints_int⟩
    · exact ⟨2, _, rfl, Nat.le_refl 4, by show 4 < 4 + Try.prog.cellsOf 3; rw [cellsInt]; decide, by show 4 + Try.prog.cellsOf 3 ≤ 7; rw [cellsInt]; decide, by show IntsAt 3 (Try.prog.cellsOf 3); rw [cellsInt]; exact ints_int⟩
    · exact ⟨3, _, rfl, Nat.le_refl 5, by show 5 < 5 + Try.prog.cellsOf 3; rw [cellsInt]; decide, by show 5 + Try.prog.cellsOf 3 ≤ 7; rw [cellsInt]; decide, by show IntsAt 3 (Try.prog.cellsOf 3); rw [cellsInt]; exact ints_int⟩
    · exact ⟨4, _, rfl, Nat.le_refl 6, by show 6 < 6 + Try.prog.cellsOf 3; rw [cellsInt]; decide, by show 6 + Try.prog.cellsOf 3 ≤ 7; rw [cellsInt]; decide, by show IntsAt 3 (Try.prog.cellsOf 3); rw [cellsInt]; exact ints_int⟩

def decI (l : List Int) : It := (l.getD 0 0, l.getD 1 0, l.getD 2 0)
theorem decI_enc : ∀ l : List Int, l.length = itemE.size → itemE.enc (decI l) = l.map (Value.int .i64)
  | [_, _, _], _ => rfl
def decN (l : List Int) : Nd := ((l.getD 0 0, l.getD 1 0, l.getD 2 0), l.getD 3 0, l.getD 4 0, l.getD 5 0, l.getD 6 0)
theorem decN_enc : ∀ l : List Int, l.length = nodeE.size → nodeE.enc (decN l) = l.map (Value.int .i64)
  | [_, _, _, _, _, _, _], _ => rfl

theorem items_in {H : Type} {enc : TypeId × Value → H} {W : World} {fuel : Nat} {v : Value} {x : DataW H × List MemPlace}
    (h : DataW.trod enc Try.prog W 0 (fun _ => true) true fuel 29 [v] = some x) (hsz : ∀ m ∈ x.1.weights Try.prog 29, m ≤ reachBytes) : ∃ A n c xs, v = .slice A n c ∧ InI W A n c xs := by
  obtain ⟨A, n, c, ls, hv, hr, hl, hc, hn, _⟩ := elts_nest itemE decI decI_enc ints_item cellsItem bytesItem h hsz
  exact ⟨A, n, c, ls, hv, hr, hl, hc, hn⟩

theorem nodes_in {H : Type} {enc : TypeId × Value → H} {W : World} {fuel : Nat} {v : Value} {x : DataW H × List MemPlace}
    (h : DataW.trod enc Try.prog W 0 (fun _ => true) true fuel 22 [v] = some x) (hsz : ∀ m ∈ x.1.weights Try.prog 22, m ≤ reachBytes) : ∃ A n c ns, v = .slice A n c ∧ Elts nodeE W W.heap.size A n ns ∧ n ≤ c ∧ c * 56 ≤ 140737488351232 ∧ (A = none → c = 0) := by
  obtain ⟨A, n, c, ls, hv, hr, hl, hc, hn, _⟩ := elts_nest nodeE decN decN_enc ints_node cellsNode bytesNode h hsz
  exact ⟨A, n, c, ls, hv, hr, hl, hc, hn⟩

theorem item_in {H : Type} {enc : TypeId × Value → H} {W : World} {base : Nat} {r : Reach} {v : Value} {d : DataW H} {p : List MemPlace} (hv : Value.okWide Try.prog W r base 50 v)
    (h : DataW.Trod enc Try.prog W 0 (fun _ => true) true 50 v d p) : ∃ a b c, v = .agg #[.int .i64 a, .int .i64 b, .int .i64 c] ∧ bd64 a ∧ bd64 b ∧ bd64 c := by
  obtain ⟨cs, rfl, hsz⟩ := okWide_struct Try.underlying50 hv
  rw [cellsItem] at hsz
  obtain ⟨fuel, hf⟩ := h
  obtain ⟨cs⟩ := cs
  obtain ⟨l, e, b⟩ := ints_item (by simpa using hsz) (show DataW.trod enc Try.prog W 0 (fun _ => true) true fuel 50 cs = some _ from hf)
  subst e
  match l, hsz, b with
  | [x, y, z], _, b => exact ⟨x, y, z, rfl, b x (by simp), b y (by simp), b z (by simp)⟩

theorem ints_row {H : Type} {enc : TypeId × Value → H} {W : World} {fuel : Nat} {v : Value} {x : DataW H × List MemPlace}
    (hf : DataW.trod enc Try.prog W 0 (fun _ => true) true fuel 23 [v] = some x) (hs : ∀ m ∈ x.1.weights Try.prog 23, m ≤ reachBytes) : ∃ A n c xs, v = .slice A n c ∧ In W A n c xs := by
  rcases open_ints Try.underlying23 Try.underlying3 (by kernel_rfl) hf with ⟨hcs, _⟩ | ⟨a, l, c, zs, hcs, _, hl, hm, hz, hx, hcell, hwz⟩
  · simp only [List.cons.injEq, and_true] at hcs
    subst hcs
    exact ⟨none, 0, 0, [], rfl, ⟨rfl, by omega, fun i => by simp, fun k => absurd k (by omega)⟩, by omega, by omega, fun _ => rfl⟩
  · simp only [List.cons.injEq, and_true] at hcs
    subst hcs
    have hz : zs.length = c := by simpa using hz
    subst hx
    have hw := hs _ (by simp only [DataW.weights, Try.underlying23]; exact List.mem_cons_self ..)
    rw [bytesI] at hw
    simp only [lits, List.length_map, List.length_take, List.length_drop, reachBytes] at hw
    refine ⟨some a, l, c, zs.take l, rfl, row_of hl hm hz hwz (by simp) (fun b hb i hi => ?_), hl, by omega, by simp⟩
    injection hb with hb
    subst hb
    exact hcell i (by omega)

theorem tree_in {H : Type} {enc : TypeId × Value → H} {W : World} {base : Nat} {r : Reach} {v : Value} {d : DataW H} {p : List MemPlace} (hv : Value.okWide Try.prog W r base 25 v)
    (h : DataW.Trod enc Try.prog W 0 (fun _ => true) true 25 v d p) (hs : ∀ m ∈ d.weights Try.prog 25, m ≤ reachBytes) :
    ∃ A n c ns R FA fn fc free, v = .agg #[.slice A n c, .int .i64 R, .slice FA fn fc] ∧ InT W A n c ns FA fn fc free := by
  obtain ⟨v0, v1, v2, y0, y1, y2, m, hv, hd, _, t0, t1, t2⟩ := Go.Joins.open_agg3 Try.underlying25 (by kernel_rfl) cellsTree hv h
  obtain ⟨z1, e1, _, _⟩ := DataW.trod_int Try.underlying3 t1
  simp only [List.cons.injEq, and_true] at e1
  subst e1 hd
  obtain ⟨A, n, c, ns, rfl, hr, hl, hc, hn⟩ := nodes_in t0 (fun q hq => hs q (by
    simp only [DataW.weights, Try.underlying25, DataW.weightsEach, List.map_cons, List.map_nil, List.mem_append]
    exact .inl hq))
  obtain ⟨FA, fn, fc, free, rfl, hfr, hfl, hfc, hfn⟩ := ints_row t2 (fun q hq => hs q (by
    simp only [DataW.weights, Try.underlying25, DataW.weightsEach, List.map_cons, List.map_nil, List.mem_append]
    exact .inr (.inr (.inl hq))))
  exact ⟨A, n, c, ns, z1, FA, fn, fc, free, hv, ⟨hr, hfr⟩, hl, hc, hn, hfl, hfc, hfn⟩

end Go.Proofs.Ytgfehlmiejnonaa
