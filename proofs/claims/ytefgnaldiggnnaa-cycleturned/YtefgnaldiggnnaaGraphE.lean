/-
  What the laws of graphs lean on: Num, SpoilInts, CopyGraph, SameGraph.
-/
import Derived.Test.YtefgnaldiggnnaaGraphD
import Derived.Test.YtefgnaldiggnnaaHelpInts
set_option maxRecDepth 20000
namespace Go.Proofs.Ytefgnaldiggnnaa
open Go.RowKit

theorem Num0_any (x : Int) (w : World) : Calls Try.prog 12 #[.int .i64 x] w fun e w' => e = .returned (.int .i64 x) ∧ w = w' := by
  go_enter Try.func12, Try.ntmps12
  go_wp2
  go_ret
  exact ⟨rfl, rfl⟩

def SpoilIRel (w : World) (g n cap : Nat) (i : Value) (wr : World) : Prop :=
  ∃ k cur, k ≤ n ∧ i = .int .i64 (k : Nat) ∧ w.grownBy wr (some g) ∧ wr.heap[g]? = some (.cells cur 3 (0, 0)) ∧ cur.size = cap ∧ ∀ j, j < n → ∃ x, cur[j]? = some (.int .i64 x)

def SpoilIPost (w : World) (row : Option Nat) (e : Ending) (w' : World) : Prop := e = .returned (.tuple #[]) ∧ w.grownBy w' row

theorem spoil_set {cur : Array Value} {n k : Nat} {u : Int} (h : ∀ j, j < n → ∃ x, cur[j]? = some (.int .i64 x)) (hk : k < cur.size) :
    ∀ j, j < n → ∃ x, (cur.setIfInBounds k (.int .i64 u))[j]? = some (.int .i64 x) := by
  intro j hj
  by_cases e : k = j
  · subst e
    exact ⟨u, by simp [hk]⟩
  · obtain ⟨x, hx⟩ := h j hj
    exact ⟨x, by rw [Array.getElem?_setIfInBounds_ne e]; exact hx⟩

theorem block_put {w : World} {g i : Nat} {cur : Array Value} {T : TypeId} {fr : Nat × Nat} (h : w.heap[g]? = some (.cells cur T fr)) (u : Value) :
    (w.setCell ⟨g, i, none⟩ u).heap[g]? = some (.cells (cur.setIfInBounds i u) T fr) := by
  simp [World.setCell, Array.getElem?_modify, h]

theorem SpoilInts_any (v : Value) (n : Nat) (xs : List Int) (w : World) {base : Nat} (h : Mine w base v n xs) :
    Calls Try.prog 15 #[v] w (SpoilIPost w v.ownBlock) := by
  rcases h.2 with ⟨rfl, rfl⟩ | ⟨g, cap, cur, rfl, _, hh, hnc, hm, hsz, htk⟩
  · clear h
    go_enter Try.func15, Try.ntmps15
    go_wp2
    go_rounds 1
    go_end0
    exact ⟨rfl, World.grownBy.refl w _⟩
  · have hbig : n ≤ 9223372036854775807 := by unfold maxLen at hm; omega
    have hxl : xs.length = n := by have := h.1; simpa [ints] using this
    have hall : ∀ j, j < n → ∃ x, cur[j]? = some (.int .i64 x) := by
      intro j hj
      have e := ints_get xs j (by omega)
      rw [← htk, List.getElem?_take_of_lt (by omega), Array.getElem?_toList] at e
      exact ⟨_, e⟩
    have HS : Hid (SpoilIRel w g n cap (.int .i64 0) w) := ⟨0, cur, Nat.zero_le _, rfl, World.grownBy.refl w _, hh, by omega, hall⟩
    clear h hh hsz hm htk hall
    go_enter Try.func15, Try.ntmps15
    go_wp2
    go_loopw [2] (fun i wr => SpoilIRel w g n cap i wr) (fun i _ => n - (intOf i).toNat)
    case atStart => exact HS.out
    case round =>
      clear HS
      obtain ⟨k, cur, hk, rfl, hg, hh, hsz, hall⟩ := hrel
      have G := Lib.hid hg
      clear hg
      by_cases hlt : k < n
      · obtain ⟨u0, c0, f0⟩ := block_get (i := k) hh (by omega)
        obtain ⟨x, hx⟩ := hall k hlt
        have e := cell_of_row wr g k cur 3 (0, 0) hh
        rw [e, hx] at c0
        injection c0 with c0
        subst c0
        rw [hx] at e
        have HH := Lib.hid hh
        have HA := Lib.hid hall
        have hsz2 := hsz
        clear hh hall
        have hr0 : -1000 < x.tmod 1000 ∧ x.tmod 1000 < 1000 := by
          have h1 := Int.tmod_lt_of_pos x (show (0 : Int) < 1000 by omega)
          have h2 := Int.lt_tmod_of_pos x (show (0 : Int) < 1000 by omega)
          omega
        have hw : IntKind.i64.wrap (-9 - x.tmod 1000) = -9 - x.tmod 1000 := IntWalk.i64_in _ (by omega)
        go_wp2
        go_roundw
        case rel => exact ⟨k + 1, _, by omega, by go_num, grown_set G.out _, block_put HH.out _, by simpa using hsz2, spoil_set HA.out (by omega)⟩
        case measure => simp [intOf]; omega
      · clear hh hall
        go_wp2
        go_end0
        exact ⟨rfl, G.out⟩

theorem step_appE {α : Type} (E : Elt α) {ops : Array Oper} {o : Oper} {a : Act} {w : World} {K : Act → World → Prop} {Q : Exit → Act → World → Prop} {F : Prop} (hgd : o.guard = none) (s x : Operand)
    (ho : o.op = .call { callee := .builtin .append, args := #[s, x], argTypes := #[E.L, E.L] }) (base : Nat) (v : Value) (n : Nat) (ys : List α) (hs : a.eval s = v) (hown : MineE E w base v n ys)
    {B : Nat} (A : Option Addr) (m c : Nat) (xs : List α) (hx : a.eval x = .slice A m c) (hr : Elts E w B A m xs) (hnil : A = none → c = 0) (hmax : n + m ≤ maxLen) (hbytes : (n + m) * E.bytes ≤ 140737488355328) (hbase : base ≤ w.heap.size)
    (h : ∀ v' w', MineE E w' base v' (n + m) (ys ++ xs) → w.grownBy w' v.ownBlock → K (a.put o.dst v') w') :
    if Region.wanted o (yielded ops a.tmps) = true then Oper.wp Try.prog o a w K Q else F := by
  have hw : Region.wanted o (yielded ops a.tmps) = true := by simp [Region.wanted, hgd]
  rw [if_pos hw]
  obtain ⟨v', w', hrun, h2, h3, h4⟩ := run_appE E w base o.type v n ys hown A m c xs hr hnil hmax hbytes hbase
  unfold Oper.wp execOp
  simp only [ho, resolve, invoke, builtin, Sem.run_bind, Sem.run_pure, Result.andThen_ok, List.map_toArray, List.map_cons, List.map_nil, hs, hx, hrun]
  exact h v' w' h2 h3

theorem results_graph {fn : Func} {t : Tmp} (h : fn.results = #[.cell t 24]) (tmps : Array Value) (w : World) {g : Nat} {x y : Value} (hp : tmps[t]?.getD undef = .pointer (some ⟨g, 0, none⟩))
   (c0 : w.cell? ⟨g, 0, none⟩ = some x) (c1 : w.cell? ⟨g, 1, none⟩ = some y) :
    (results fn tmps).run Try.prog w = .ok (.agg #[x, y]) w := by
  simp [results, h, hp, c0, c1, go_sem]

theorem post_graph {fn : Func} {t : Tmp} {R : Ending → World → Prop} {a : Act} {w : World} (h : fn.results = #[.cell t 24]) {g : Nat} {x y : Value} (hp : a.tmps[t]?.getD undef = .pointer (some ⟨g, 0, none⟩))
   (c0 : w.cell? ⟨g, 0, none⟩ = some x) (c1 : w.cell? ⟨g, 1, none⟩ = some y) (hd : a.defers = []) (hR : R (.returned (.agg #[x, y])) w) : bodyPost Try.prog fn R .ret a w :=
  bodyPost_ret (results_graph h a.tmps w hp c0 c1) hd hR

end Go.Proofs.Ytefgnaldiggnnaa
