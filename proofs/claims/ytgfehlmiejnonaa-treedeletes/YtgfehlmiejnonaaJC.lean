/-
  Rows of links; joins, and the reference's Vertex. Total and May. Out and In. The reference's GraphMay, Out, In, Total. Contracts of the helpers of the laws: copies of rows, rows lent with marked room behind them, rows compared. What the laws of graphs lean on: Num, SpoilInts, CopyGraph, SameGraph. CopyGraph, SameGraph. small, awake. The law Graphs, walked. The law GraphForms, walked. Rows of the call's own: cut short, beside each other, read. Rows of the call's own, made whole and written over.
-/
import Derived.Test.YtgfehlmiejnonaaGrow
import Derived.Test.YtgfehlmiejnonaaWithinA
import Derived.Test.YtgfehlmiejnonaaMeter
import Derived.Test.YtgfehlmiejnonaaFrame
import Derived.Deep.CutBlock

set_option maxRecDepth 20000
namespace Go.Proofs.Ytgfehlmiejnonaa
open Go.RowKit

def bd64 (x : Int) : Prop := -9223372036854775808 ≤ x ∧ x ≤ 9223372036854775807

theorem box1 {w w1 : World} {T : TypeId} (vs : List Value) (h : (w.alloc (.cells vs.toArray T)).grownBy w1 none) : w.grownBy w1 none ∧ Own w1 w.heap.size T vs :=
  ⟨grown_trans (grow0 w _) h, (Own.new w T vs).kept h⟩

theorem box2 {w w1 : World} {T U : TypeId} (vs us : List Value) (h : ((w.alloc (.cells vs.toArray T)).alloc (.cells us.toArray U)).grownBy w1 none) :
    w.grownBy w1 none ∧ Own w1 w.heap.size T vs ∧ Own w1 (w.heap.size + 1) U us := by
  obtain ⟨g, o⟩ := box1 us h
  obtain ⟨g', o'⟩ := box1 vs g
  have e : (w.alloc (.cells vs.toArray T)).heap.size = w.heap.size + 1 := by simp
  rw [e] at o
  exact ⟨g', o', o⟩

theorem Own.three {w : World} {g : Nat} {T : TypeId} {x y z : Value} (h : Own w g T [x, y, z]) : w.cell? ⟨g, 0, none⟩ = some x ∧ w.cell? ⟨g, 1, none⟩ = some y ∧ w.cell? ⟨g, 2, none⟩ = some z := ⟨h.cell 0, h.cell 1, h.cell 2⟩

end Go.Proofs.Ytgfehlmiejnonaa

set_option maxRecDepth 20000
namespace Go.Proofs.Ytgfehlmiejnonaa
open Go.RowKit

def totV (V : Int) (ls : List Lk) : Value := .tuple #[.int .i64 (totX V ls), .int .i64 (totE V ls)]

theorem ret_two {a b c d : Int} (h : c = a) (k : d = b) : Ending.returned (.tuple #[.int .i64 a, .int .i64 b]) = .returned (.tuple #[.int .i64 c, .int .i64 d]) := by rw [h, k]

theorem ret_fit {p q : Bool} {a b : Int} (h : q = p) (k : b = a) : Ending.returned (.tuple #[.bool p, .int .i64 a]) = .returned (.tuple #[.bool q, .int .i64 b]) := by rw [h, k]

theorem tot_none {V : Int} {ls : List Lk} (h : totalOf V ls = none) : totX V ls = 0 ∧ totE V ls = 400 := by simp [totX, totE, mayG, h]
theorem tot_some {V s : Int} {ls : List Lk} (h : totalOf V ls = some s) : totX V ls = s ∧ totE V ls = 0 := by simp [totX, totE, mayG, h]

theorem tot_form {V : Int} {ls : List Lk} {n : Nat} (hl : ls.length = n) (h : V < 2 ∨ 8 < V ∨ 16 < n) : totX V ls = 0 ∧ totE V ls = 400 := by
  refine tot_none ?_
  unfold totalOf
  rw [if_neg]
  simp only [formOk, decide_eq_true_eq]
  omega

theorem tot_go {V : Int} {ls : List Lk} {n : Nat} (hl : ls.length = n) (h0 : 2 ≤ V) (h1 : V ≤ 8) (h2 : n ≤ 16) : totalOf V ls = capsFrom V 0 ls := by
  unfold totalOf
  rw [if_pos]
  simp only [formOk, decide_eq_true_eq]
  omega

end Go.Proofs.Ytgfehlmiejnonaa

set_option maxRecDepth 20000
namespace Go.Proofs.Ytgfehlmiejnonaa
open Go.RowKit

def SelPost (w : World) (xs : List Int) (z : Int) (e : Ending) (w' : World) : Prop :=
  ∃ v, e = .returned (.tuple #[v, .int .i64 z]) ∧ Mine w' w.heap.size v xs.length xs ∧ w.grownBy w' none

theorem sel_yes_len {f : Lk → Int} {ls : List Lk} {v : Int} {k : Nat} (h : f (at3 ls k) = v) : (sel f ls v (k + 1)).length = (sel f ls v k).length + 1 := by
  rw [sel_yes h]; simp

theorem selOf_no {f : Lk → Int} {V : Int} {ls : List Lk} {x : Int} (h : goodB V ls x = false) : selOf f V ls x = [] ∧ selE V ls x = 400 := by simp [selOf, selE, h]
theorem selOf_yes {f : Lk → Int} {V : Int} {ls : List Lk} {x : Int} (h : goodB V ls x = true) : selOf f V ls x = sel f ls x ls.length ∧ selE V ls x = 0 := by simp [selOf, selE, h]

theorem ret_sel {v : Value} {a b : Int} (h : b = a) : Ending.returned (.tuple #[v, .int .i64 a]) = .returned (.tuple #[v, .int .i64 b]) := by rw [h]

theorem Mine.wide {w : World} {base b : Nat} {v : Value} {n : Nat} {xs : List Int} (h : Mine w base v n xs) (hb : b ≤ base) : Mine w b v n xs := by
  obtain ⟨h1, h2⟩ := h
  refine ⟨h1, ?_⟩
  rcases h2 with h | ⟨g, cap, cur, hv, hg, r⟩
  · exact .inl h
  · exact .inr ⟨g, cap, cur, hv, by omega, r⟩

theorem Mine.apart {w : World} {base : Nat} {v : Value} {n : Nat} {xs : List Int} (h : Mine w (base + 1) v n xs) : v.ownBlock ≠ some base := by
  intro e
  have := h.own_ge base e
  omega

end Go.Proofs.Ytgfehlmiejnonaa

set_option maxRecDepth 20000
namespace Go.Proofs.Ytgfehlmiejnonaa
open Go.RowKit

theorem may_none {V : Int} {ls : List Lk} (h : totalOf V ls = none) : mayG V ls = false := by simp [mayG, h]
theorem may_some {V s : Int} {ls : List Lk} (h : totalOf V ls = some s) : mayG V ls = true := by simp [mayG, h]
theorem may_form {V : Int} {ls : List Lk} {n : Nat} (hl : ls.length = n) (h : V < 2 ∨ 8 < V ∨ 16 < n) : mayG V ls = false := by
  have := (tot_form hl h).2
  cases hm : mayG V ls
  · rfl
  · simp [totE, hm] at this

end Go.Proofs.Ytgfehlmiejnonaa

set_option maxRecDepth 20000
namespace Go.Proofs.Ytgfehlmiejnonaa
open Go.RowKit

def CopyPost (w : World) (n : Nat) (xs : List Int) (e : Ending) (w' : World) : Prop :=
  ∃ v, e = .returned v ∧ Mine w' w.heap.size v n xs ∧ Below w.heap.size w w'

theorem CopyInts_any (A : Option Addr) (n c : Nat) (xs : List Int) (w : World) {B : Nat} (h : Row w B A n xs) (hB : B ≤ w.heap.size) (hnil : A = none → c = 0) (hr : n * 8 ≤ 140737488355328) :
    Calls Try.prog 34 #[.slice A n c] w (CopyPost w n xs) := by
  have HR := Lib.hid h
  have HNIL := Lib.hid hnil
  have HMINE := Lib.hid (Mine.lit (w := w) (base := w.heap.size) [] 0 rfl rfl rfl (Nat.le_refl _) (by simp))
  clear h hnil
  go_enter Try.func34, Try.ntmps34
  go_wp2_with (first | (at_builtin; refine wpList_app _ rfl _ _ rfl w.heap.size _ 0 [] rfl HMINE.out (B := B) A n c xs rfl ?_ HNIL.out (by omega) (by simp) ?_))
  · exact HR.out.keep fun p hp => World.cell?_alloc_lt _ _ _ (by omega)
  intro v1 w2 hmine hg _
  have hm2 : Mine w2 w.heap.size v1 n xs := by simpa using hmine
  have HM2 := Lib.hid hm2
  have HB2 := Lib.hid (below_step ((Below.refl w.heap.size w).alloc (Nat.le_refl _) (.cells #[] 3)) (by simp) hg (Nat.le_refl _))
  clear hmine hg hm2
  go_wp2
  go_ret
  exact ⟨_, rfl, HM2.out, HB2.out⟩

def LendPost (w : World) (n : Nat) (xs : List Int) (e : Ending) (w' : World) : Prop :=
  ∃ g c, e = .returned (.slice (some ⟨g, 0, none⟩) n c) ∧ n + 2 ≤ c ∧ Row w' w'.heap.size (some ⟨g, 0, none⟩) (n + 2) (xs ++ [-7777, -8888]) ∧ Below w.heap.size w w'

theorem marked_ok (xs : List Int) (h : ∀ i : Nat, -9223372036854775808 ≤ xs[i]?.getD 0 ∧ xs[i]?.getD 0 ≤ 9223372036854775807) :
    ∀ i : Nat, -9223372036854775808 ≤ (xs ++ [-7777, -8888])[i]?.getD 0 ∧ (xs ++ [-7777, -8888])[i]?.getD 0 ≤ 9223372036854775807 := by
  intro i
  rcases Nat.lt_or_ge i xs.length with hi | hi
  · rw [List.getElem?_append_left hi]; exact h i
  · rw [List.getElem?_append_right hi]
    rcases i - xs.length with _ | _ | j <;> simp

def sameB (xs ys : List Int) : Bool := decide (xs = ys)

theorem same_no (xs ys : List Int) (k : Nat) (h : xs[k]?.getD 0 ≠ ys[k]?.getD 0) : sameB xs ys = false := by
  simp only [sameB, decide_eq_false_iff_not]
  rintro rfl
  exact h rfl

theorem same_len (xs ys : List Int) (h : xs.length ≠ ys.length) : sameB xs ys = false := by
  simp only [sameB, decide_eq_false_iff_not]
  rintro rfl
  exact h rfl

theorem same_yes (xs ys : List Int) (hl : xs.length = ys.length) (h : ∀ i, i < xs.length → xs[i]?.getD 0 = ys[i]?.getD 0) : sameB xs ys = true := by
  simp only [sameB, decide_eq_true_eq]
  refine List.ext_getElem hl fun i h1 h2 => ?_
  have := h i h1
  rw [List.getElem?_eq_getElem h1, List.getElem?_eq_getElem h2] at this
  simpa using this

def SamePost (w : World) (q : Bool) (e : Ending) (w' : World) : Prop := e = .returned (.bool q) ∧ ∃ j, w' = w.drewN j

def SameRel (w : World) (n : Nat) (xs ys : List Int) (i : Value) (wr : World) : Prop :=
  ∃ k j : Nat, k ≤ n ∧ i = .int .i64 k ∧ wr = w.drewN j ∧ ∀ i, i < k → xs[i]?.getD 0 = ys[i]?.getD 0

theorem SameInts_any (A : Option Addr) (n c : Nat) (xs : List Int) (A' : Option Addr) (n' c' : Nat) (ys : List Int) (w : World) {B B' : Nat} (h : Row w B A n xs) (h' : Row w B' A' n' ys) :
    Calls Try.prog 45 #[.slice A n c, .slice A' n' c'] w (SamePost w (sameB xs ys)) := by
  have hn := h.small
  have hn' := h'.small
  have HR := Lib.hid h
  have HR' := Lib.hid h'
  clear h h'
  by_cases hne : n = n'
  · subst hne
    go_enter Try.func45, Try.ntmps45
    go_wp2
    go_loopw [5] (fun i wr => SameRel w n xs ys i wr) (fun i _ => n - (intOf i).toNat)
    case atStart => exact ⟨0, 0, Nat.zero_le _, rfl, rfl, fun i hi => absurd hi (by omega)⟩
    case round =>
      obtain ⟨k, j, hk, rfl, rfl, hall⟩ := hrel
      have HALL := Lib.hid hall
      clear hall
      by_cases hlt : k < n
      · obtain ⟨b, off, hA, _, hcell⟩ := HR.out.at_ (by omega)
        obtain ⟨b', off', hA', _, hcell'⟩ := HR'.out.at_ (by omega)
        subst hA hA'
        have hc := hcell k hlt
        have hc' := hcell' k hlt
        have HN := Lib.hid (same_no xs ys k)
        have HX : Hid (xs[k]?.getD 0 = ys[k]?.getD 0 → ∀ i, i < k + 1 → xs[i]?.getD 0 = ys[i]?.getD 0) := fun hx i hi => by
          rcases Nat.lt_or_ge i k with h | h
          · exact HALL.out i h
          · obtain rfl : i = k := by omega
            exact hx
        clear hcell hcell'
        generalize xs[k]?.getD 0 = x at *
        generalize ys[k]?.getD 0 = y at *
        by_cases hxy : x = y
        · have HX2 := Lib.hid (HX.out hxy)
          clear HX HN
          subst hxy
          go_wp2
          go_quiet (fail)
          go_wp2
          go_roundw
          case rel => exact ⟨k + 1, _, by omega, by go_num, rfl, HX2.out⟩
          case measure => simp [intOf]; omega
        · have hb : (x != y) = true := by simp [hxy]
          go_wp2
          go_quiet (fail)
          go_wp2
          go_ret
          exact ⟨ret_bool (HN.out hxy), _, World.drewN_drewN _ _ _⟩
      · go_wp2
        go_ret
        exact ⟨ret_bool (same_yes xs ys (by rw [HR.out.len, HR'.out.len]) (fun i hi => HALL.out i (by rw [HR.out.len] at hi; omega))), j, rfl⟩
  · have hb : ((n : Int) != (n' : Int)) = true := by simp; omega
    go_enter Try.func45, Try.ntmps45
    go_wp2
    go_ret
    exact ⟨ret_bool (same_len xs ys (by rw [HR.out.len, HR'.out.len]; exact hne)), 0, rfl⟩

theorem SameInts0_any (A : Option Addr) (n c : Nat) (xs : List Int) (A' : Option Addr) (n' c' : Nat) (ys : List Int) (w : World) {B B' : Nat} (h : Row w B A n xs) (h' : Row w B' A' n' ys) :
    Calls Try.prog 22 #[.slice A n c, .slice A' n' c'] w (SamePost w (sameB xs ys)) := by
  have HR := Lib.hid h
  have HR' := Lib.hid h'
  clear h h'
  go_enter Try.func22, Try.ntmps22
  go_wp2_with fail
  refine (SameInts_any A n c xs A' n' c' ys _ HR.out HR'.out).mono ?_
  rintro e w1 ⟨rfl, j, rfl⟩
  go_wp2
  go_ret
  exact ⟨rfl, j, rfl⟩

theorem mark_get (xs : List Int) (n : Nat) (h : xs.length = n) : (xs ++ [-7777, -8888])[n]?.getD 0 = -7777 ∧ (xs ++ [-7777, -8888])[n + 1]?.getD 0 = -8888 := by
  subst h
  simp

end Go.Proofs.Ytgfehlmiejnonaa

set_option maxRecDepth 20000
namespace Go.Proofs.Ytgfehlmiejnonaa
open Go.RowKit

theorem Num0_any (x : Int) (w : World) : Calls Try.prog 17 #[.int .i64 x] w fun e w' => e = .returned (.int .i64 x) ∧ w = w' := by
  go_enter Try.func17, Try.ntmps17
  go_wp2
  go_ret
  exact ⟨rfl, rfl⟩

def SpoilIRel (w : World) (g n cap : Nat) (i : Value) (wr : World) : Prop :=
  ∃ k cur, k ≤ n ∧ i = .int .i64 (k : Nat) ∧ w.grownBy wr (some g) ∧ wr.heap[g]? = some (.cells cur 3 (0, 0)) ∧ cur.size = cap ∧ ∀ j, j < n → ∃ x, cur[j]? = some (.int .i64 x)

def SpoilIPost (w : World) (row : Option Nat) (e : Ending) (w' : World) : Prop := e = .returned (.tuple #[]) ∧ w.grownBy w' row

theorem spoil_set {cur : Array Value} {n k : Nat} {u : Int} (h : ∀ j, j < n → ∃ x, cur[j]? = some (.int .i64 x)) (hk : k < cur.size) :
    ∀ j, j < n → ∃ x, (cur.setIfInBounds k (.int .i64 u))[j]? = some (.int .i64 x) := by
  intro j hj
  by_cases e : k = j
  · subst e
    exact ⟨u, by simp [hk]⟩
  · obtain ⟨x, hx⟩ := h j hj
    exact ⟨x, by rw [Array.getElem?_setIfInBounds_ne e]; exact hx⟩

theorem block_put {w : World} {g i : Nat} {cur : Array Value} {T : TypeId} {fr : Nat × Nat} (h : w.heap[g]? = some (.cells cur T fr)) (u : Value) :
    (w.setCell ⟨g, i, none⟩ u).heap[g]? = some (.cells (cur.setIfInBounds i u) T fr) := by
  simp [World.setCell, Array.getElem?_modify, h]

theorem SpoilInts_any (v : Value) (n : Nat) (xs : List Int) (w : World) {base : Nat} (h : Mine w base v n xs) :
    Calls Try.prog 51 #[v] w (SpoilIPost w v.ownBlock) := by
  rcases h.2 with ⟨rfl, rfl⟩ | ⟨g, cap, cur, rfl, _, hh, hnc, hm, hsz, htk⟩
  · clear h
    go_enter Try.func51, Try.ntmps51
    go_wp2
    go_rounds 1
    go_end0
    exact ⟨rfl, World.grownBy.refl w _⟩
  · have hbig : n ≤ 9223372036854775807 := by unfold maxLen at hm; omega
    have hxl : xs.length = n := by have := h.1; simpa [ints] using this
    have hall : ∀ j, j < n → ∃ x, cur[j]? = some (.int .i64 x) := by
      intro j hj
      have e := ints_get xs j (by omega)
      rw [← htk, List.getElem?_take_of_lt (by omega), Array.getElem?_toList] at e
      exact ⟨_, e⟩
    have HS : Hid (SpoilIRel w g n cap (.int .i64 0) w) := ⟨0, cur, Nat.zero_le _, rfl, World.grownBy.refl w _, hh, by omega, hall⟩
    clear h hh hsz hm htk hall
    go_enter Try.func51, Try.ntmps51
    go_wp2
    go_loopw [2] (fun i wr => SpoilIRel w g n cap i wr) (fun i _ => n - (intOf i).toNat)
    case atStart => exact HS.out
    case round =>
      clear HS
      obtain ⟨k, cur, hk, rfl, hg, hh, hsz, hall⟩ := hrel
      have G := Lib.hid hg
      clear hg
      by_cases hlt : k < n
      · obtain ⟨u0, c0, f0⟩ := block_get (i := k) hh (by omega)
        obtain ⟨x, hx⟩ := hall k hlt
        have e := cell_of_row wr g k cur 3 (0, 0) hh
        rw [e, hx] at c0
        injection c0 with c0
        subst c0
        rw [hx] at e
        have HH := Lib.hid hh
        have HA := Lib.hid hall
        have hsz2 := hsz
        clear hh hall
        have hr0 : -1000 < x.tmod 1000 ∧ x.tmod 1000 < 1000 := by
          have h1 := Int.tmod_lt_of_pos x (show (0 : Int) < 1000 by omega)
          have h2 := Int.lt_tmod_of_pos x (show (0 : Int) < 1000 by omega)
          omega
        have hw : IntKind.i64.wrap (-9 - x.tmod 1000) = -9 - x.tmod 1000 := IntWalk.i64_in _ (by omega)
        go_wp2
        go_roundw
        case rel => exact ⟨k + 1, _, by omega, by go_num, grown_set G.out _, block_put HH.out _, by simpa using hsz2, spoil_set HA.out (by omega)⟩
        case measure => simp [intOf]; omega
      · clear hh hall
        go_wp2
        go_end0
        exact ⟨rfl, G.out⟩

theorem step_appE {α : Type} (E : Elt α) {ops : Array Oper} {o : Oper} {a : Act} {w : World} {K : Act → World → Prop} {Q : Exit → Act → World → Prop} {F : Prop} (hgd : o.guard = none) (s x : Operand)
    (ho : o.op = .call { callee := .builtin .append, args := #[s, x], argTypes := #[E.L, E.L] }) (base : Nat) (v : Value) (n : Nat) (ys : List α) (hs : a.eval s = v) (hown : MineE E w base v n ys)
    {B : Nat} (A : Option Addr) (m c : Nat) (xs : List α) (hx : a.eval x = .slice A m c) (hr : Elts E w B A m xs) (hnil : A = none → c = 0) (hmax : n + m ≤ maxLen) (hbytes : (n + m) * E.bytes ≤ 140737488355328) (hbase : base ≤ w.heap.size)
    (h : ∀ v' w', MineE E w' base v' (n + m) (ys ++ xs) → w.grownBy w' v.ownBlock → K (a.put o.dst v') w') :
    if Region.wanted o (yielded ops a.tmps) = true then Oper.wp Try.prog o a w K Q else F := by
  have hw : Region.wanted o (yielded ops a.tmps) = true := by simp [Region.wanted, hgd]
  rw [if_pos hw]
  obtain ⟨v', w', hrun, h2, h3, h4⟩ := run_appE E w base o.type v n ys hown A m c xs hr hnil hmax hbytes hbase
  unfold Oper.wp execOp
  simp only [ho, resolve, invoke, builtin, Sem.run_bind, Sem.run_pure, Result.andThen_ok, List.map_toArray, List.map_cons, List.map_nil, hs, hx, hrun]
  exact h v' w' h2 h3

end Go.Proofs.Ytgfehlmiejnonaa

set_option maxRecDepth 20000
namespace Go.Proofs.Ytgfehlmiejnonaa
open Go.RowKit

theorem far {w w' : World} {row : Option Nat} {b i : Nat} {v : Value} (h : w.grownBy w' row) (hr : row ≠ some b) (k : w.cell? ⟨b, i, none⟩ = some v) : w'.cell? ⟨b, i, none⟩ = some v :=
  (grown_cell h (block_lt k) hr).trans k

end Go.Proofs.Ytgfehlmiejnonaa

set_option maxRecDepth 20000
namespace Go.Proofs.Ytgfehlmiejnonaa
open Go.RowKit

def smallL : List Lk := [(0, 1, 5), (1, 2, 4), (0, 2, 3)]

def bdB (x : Int) : Bool := decide (-9223372036854775808 ≤ x) && decide (x ≤ 9223372036854775807)
def okLs (ls : List Lk) : Bool := ls.all fun l => bdB l.1 && bdB l.2.1 && bdB l.2.2

theorem bdB_ok {x : Int} (h : bdB x = true) : bd64 x := by
  simp only [bdB, Bool.and_eq_true, decide_eq_true_eq] at h
  exact h

theorem okLs_ok {ls : List Lk} (h : okLs ls = true) (i : Nat) : bd64 (at3 ls i).1 ∧ bd64 (at3 ls i).2.1 ∧ bd64 (at3 ls i).2.2 := by
  unfold at3
  by_cases hi : i < ls.length
  · rw [List.getElem?_eq_getElem hi]
    have := List.all_eq_true.1 h _ (List.getElem_mem hi)
    simp only [Bool.and_eq_true] at this
    exact ⟨bdB_ok this.1.1, bdB_ok this.1.2, bdB_ok this.2⟩
  · rw [List.getElem?_eq_none (by omega)]
    simp [bd64]

theorem Own.elts {α : Type} {E : Elt α} {w : World} {g : Nat} (xs : List α) (n : Nat) (hn : n = xs.length) (hl : xs.length ≤ 1000) (h : Own w g E.T (E.flat xs)) : Elts E w (g + 1) (some ⟨g, 0, none⟩) n xs := by
  subst hn
  refine ⟨rfl, by omega, fun _ => ⟨g, 0, rfl, by omega, fun i hi j v hv => ?_⟩⟩
  have hj : j < E.size := by
    rcases Nat.lt_or_ge j E.size with k | k
    · exact k
    · rw [List.getElem?_eq_none (by rw [E.len]; exact k)] at hv; cases hv
  rw [Nat.zero_add, h.cell, E.flat_get xs i j hj]
  rw [List.getElem?_eq_getElem hi] at hv ⊢
  exact hv

def smallV : List Value := [.int .i64 0, .int .i64 1, .int .i64 5, .int .i64 1, .int .i64 2, .int .i64 4, .int .i64 0, .int .i64 2, .int .i64 3]

theorem out_small : selOf (fun l => l.1) 3 smallL 0 = [0, 2] ∧ selE 3 smallL 0 = 0 := by decide
theorem in_small : selOf (fun l => l.2.1) 3 smallL 2 = [1, 2] ∧ selE 3 smallL 2 = 0 := by decide
theorem out_small3 : selE 3 smallL 3 = 400 := by decide
theorem tot_small : totX 3 smallL = 12 ∧ totE 3 smallL = 0 ∧ mayG 3 smallL = true ∧ mayG 0 [] = false := by decide

theorem ok_of {xs : List Int} (h : xs.all bdB = true) (i : Nat) : -9223372036854775808 ≤ xs[i]?.getD 0 ∧ xs[i]?.getD 0 ≤ 9223372036854775807 := by
  by_cases hi : i < xs.length
  · rw [List.getElem?_eq_getElem hi]
    exact bdB_ok (List.all_eq_true.1 h _ (List.getElem_mem hi))
  · rw [List.getElem?_eq_none (by omega)]
    simp

end Go.Proofs.Ytgfehlmiejnonaa

set_option maxRecDepth 20000
namespace Go.Proofs.Ytgfehlmiejnonaa
open Go.RowKit

theorem held4 {w w1 : World} {k k1 : Nat} {x0 x1 x2 x3 : Value} (g : w.grownBy w1 none) (h : (fun w' : World => w'.cell? ⟨k, 0, none⟩ = some x0 ∧ w'.cell? ⟨k, 1, none⟩ = some x1 ∧ w'.cell? ⟨k1, 0, none⟩ = some x2 ∧ w'.cell? ⟨k1, 1, none⟩ = some x3) w) :
    (fun w' : World => w'.cell? ⟨k, 0, none⟩ = some x0 ∧ w'.cell? ⟨k, 1, none⟩ = some x1 ∧ w'.cell? ⟨k1, 0, none⟩ = some x2 ∧ w'.cell? ⟨k1, 1, none⟩ = some x3) w1 :=
  ⟨kept g h.1, kept g h.2.1, kept g h.2.2.1, kept g h.2.2.2⟩

theorem Mine.own_lt {w : World} {base : Nat} {v : Value} {n : Nat} {xs : List Int} (h : Mine w base v n xs) : ∀ k, v.ownBlock = some k → k < w.heap.size := by
  intro k hk
  rcases h.2 with ⟨rfl, _⟩ | ⟨g, cap, cur, rfl, hb, hh, _⟩
  · simp [Value.ownBlock] at hk
  · simp only [Value.ownBlock, Option.some.injEq] at hk
    subst hk
    exact (Array.getElem?_eq_some_iff.1 hh).1

theorem Mine.kept' {w w' : World} {base : Nat} {v : Value} {n : Nat} {xs : List Int} {row : Option Nat} (h : Mine w base v n xs) (k : w.grownBy w' row) (hne : ∀ g, v.ownBlock = some g → row ≠ some g) : Mine w' base v n xs := by
  obtain ⟨h1, h2⟩ := h
  refine ⟨h1, ?_⟩
  rcases h2 with h | ⟨g, cap, cur, hv, hg, hh, r⟩
  · exact .inl h
  · exact .inr ⟨g, cap, cur, hv, hg, (k.block g (Array.getElem?_eq_some_iff.1 hh).1 (fun e => hne g (by rw [hv]; rfl) e.symm)).trans hh, r⟩

theorem same_says {f : FuncId} {args : Array Value} {w : World} {q : Bool} (h : Calls Try.prog f args w (SamePost w q)) : Calls Try.prog f args w (Says w (.bool q)) :=
  h.mono fun _ _ ⟨he, j, hw⟩ => ⟨he, hw ▸ grown_drewN (World.grownBy.refl w none) j⟩

theorem num_says (x : Int) (w : World) : Calls Try.prog 17 #[.int .i64 x] w (Says w (.int .i64 x)) :=
  (Num0_any x w).mono fun _ _ ⟨he, hw⟩ => ⟨he, hw ▸ World.grownBy.refl w none⟩

theorem grown_more {a b c : World} {row : Option Nat} (h : a.grownBy b none) (k : b.grownBy c row) : a.grownBy c row :=
  ⟨k.os.trans h.os, k.tape.trans h.tape, k.output.trans h.output, Nat.le_trans h.size k.size, fun i hi hne => (k.block i (Nat.lt_of_lt_of_le hi h.size) hne).trans (h.block i hi (by simp))⟩

theorem sameB_refl (xs : List Int) : sameB xs xs = true := by simp [sameB]

end Go.Proofs.Ytgfehlmiejnonaa

set_option maxRecDepth 20000
namespace Go.Proofs.Ytgfehlmiejnonaa
open Go.RowKit

theorem Own.put {w : World} {g i : Nat} {T : TypeId} {vs : List Value} (h : Own w g T vs) (u : Value) : Own (w.setCell ⟨g, i, none⟩ u) g T (vs.set i u) := by
  unfold Own at h ⊢
  simp [World.setCell, Array.getElem?_modify, h]

theorem Own.mineE {α : Type} {E : Elt α} {w : World} {g base : Nat} (xs : List α) (n : Nat) (hn : n = xs.length) (hl : xs.length ≤ 1000) (hb : base ≤ g) (h : Own w g E.T (E.flat xs)) : MineE E w base (.slice (some ⟨g, 0, none⟩) n n) n xs := by
  subst hn
  refine ⟨E.flat_len xs, .inr ⟨g, xs.length, (E.flat xs).toArray, rfl, hb, h, Nat.le_refl _, by unfold maxLen; omega, by simp [E.flat_len], ?_⟩⟩
  rw [List.take_of_length_le (by simp [E.flat_len])]

def lenAt (wr : World) (b : Nat) : Nat := match wr.cell? ⟨b, 1, none⟩ with | some (.slice _ n _) => n | _ => 0

def manyL (n : Nat) : List Lk := smallL ++ List.replicate (n - 3) (2, 0, 0)

theorem many_next {n : Nat} (h : 3 ≤ n) : manyL n ++ [(2, 0, 0)] = manyL (n + 1) := by
  have e : n + 1 - 3 = (n - 3) + 1 := by omega
  rw [manyL, manyL, e, List.replicate_succ', List.append_assoc]

end Go.Proofs.Ytgfehlmiejnonaa

set_option maxRecDepth 20000
namespace Go.Proofs.Ytgfehlmiejnonaa
open Go.RowKit

def nilS : Value := .slice none 0 0

def okI (xs : List Int) : Prop := ∀ i : Nat, -9223372036854775808 ≤ xs[i]?.getD 0 ∧ xs[i]?.getD 0 ≤ 9223372036854775807
theorem okI_of {xs : List Int} (h : xs.all bdB = true) : okI xs := fun i => ok_of h i
theorem not_same {a : Int} : (a != a) = false := by simp

def Apart (a b : Value) : Prop := ∀ g, a.ownBlock = some g → b.ownBlock ≠ some g

theorem Mine.sl {w : World} {base : Nat} {v : Value} {n : Nat} {xs : List Int} (h : Mine w base v n xs) : ∃ A c, v = .slice A n c ∧ (A = none → c = 0) := by
  rcases h.2 with ⟨rfl, rfl⟩ | ⟨g, cap, cur, rfl, _⟩
  · exact ⟨none, 0, rfl, fun _ => rfl⟩
  · exact ⟨some ⟨g, 0, none⟩, cap, rfl, by simp⟩

theorem Mine.len {w : World} {base : Nat} {v : Value} {n : Nat} {xs : List Int} (h : Mine w base v n xs) : xs.length = n := by
  have := h.1
  rw [ints_len] at this
  omega

theorem Mine.rowN {w : World} {base : Nat} {v : Value} {n : Nat} {xs : List Int} (h : Mine w base v n xs) (hok : okI xs) :
    ∃ A c, v = .slice A n c ∧ n ≤ c ∧ (A = none → c = 0) ∧ Row w w.heap.size A n xs := by
  obtain ⟨A, c, hv, hc, hr⟩ := h.row hok
  obtain ⟨A', c', hv', hn⟩ := h.sl
  rw [hv] at hv'
  injection hv' with e1 e2 e3
  subst e1 e3
  exact ⟨A, c, hv, hc, hn, hr⟩

theorem Mine.rowAt {w : World} {base : Nat} {A : Option Addr} {n c : Nat} {xs : List Int} (h : Mine w base (.slice A n c) n xs) (hok : okI xs) : Row w w.heap.size A n xs := by
  obtain ⟨A', c', hv, _, hr⟩ := h.row hok
  injection hv with e1 e2 e3
  subst e1
  exact hr

theorem Mine.take {w : World} {base : Nat} {A : Option Addr} {n c k : Nat} {xs : List Int} (h : Mine w base (.slice A n c) n xs) (hk : k ≤ n) : Mine w base (.slice A k c) k (xs.take k) := by
  have hl := h.len
  obtain ⟨_, h2⟩ := h
  refine ⟨by rw [ints_len, List.length_take]; omega, ?_⟩
  rcases h2 with ⟨e, rfl⟩ | ⟨g, cap, cur, e, hb, hh, hnc, hm, hsz, htk⟩
  · obtain rfl : k = 0 := by omega
    exact .inl ⟨e, rfl⟩
  · injection e with e1 e2 e3
    subst e1 e3
    refine .inr ⟨g, c, cur, rfl, hb, hh, by omega, hm, hsz, ?_⟩
    have : ints (xs.take k) = (ints xs).take k := by simp [ints, List.map_take]
    rw [this, ← htk, List.take_take, Nat.min_eq_left (by omega)]
    simp

theorem Mine.cut {w : World} {base : Nat} {A : Option Addr} {n c k : Nat} {xs ys : List Int} (h : Mine w base (.slice A n c) n xs) (hk : k ≤ n) (e : ys = xs.take k) : Mine w base (.slice A k c) k ys := e ▸ h.take hk

theorem Mine.put {w : World} {p i : Nat} {u v : Value} {n : Nat} {xs : List Int} (h : Mine w (p + 1) v n xs) : Mine (w.setCell ⟨p, i, none⟩ u) (p + 1) v n xs :=
  h.kept' (grown_set (World.grownBy.refl w (some p)) u) (fun g hg e => by have := h.own_ge g hg; injection e with e; omega)

theorem Mine.drewN {w : World} {base : Nat} {v : Value} {n : Nat} {xs : List Int} (h : Mine w base v n xs) (k : Nat) : Mine (w.drewN k) base v n xs := h.kept (grown_drewN (World.grownBy.refl w none) k)

theorem apart_nil (v : Value) : Apart nilS v ∧ Apart v nilS := by
  constructor
  · intro g hg; simp [nilS, Value.ownBlock] at hg
  · intro g _ hg; simp [nilS, Value.ownBlock] at hg

theorem apart_new {w : World} {x x' y : Value} (h : Apart x y) (hl : ∀ g, y.ownBlock = some g → g < w.heap.size) (k : x'.ownBlock = x.ownBlock ∨ x'.ownBlock = some w.heap.size) : Apart x' y := by
  intro g hg e
  rcases k with k | k
  · exact h g (k ▸ hg) e
  · have := hl g e
    rw [k] at hg
    injection hg with hg
    omega

theorem apart_symm {x y : Value} (h : Apart x y) : Apart y x := fun g hg e => h g e hg

theorem apart_cut {A A' : Option Addr} {n n' c c' k k' : Nat} (h : Apart (.slice A n c) (.slice A' n' c')) : Apart (.slice A k c) (.slice A' k' c') := by
  intro g hg e
  refine h g ?_ ?_
  · cases A with
    | none => simp [Value.ownBlock] at hg
    | some a => exact hg
  · cases A' with
    | none => simp [Value.ownBlock] at e
    | some a => exact e

/-- Two rows of the call's own, apart. -/
structure Duo (w : World) (base : Nat) (x y : Value) (s o : List Int) : Prop where
  S : Mine w base x s.length s
  O : Mine w base y o.length o
  so : Apart x y

theorem Duo.kept {w w' : World} {base : Nat} {x y : Value} {s o : List Int} (t : Duo w base x y s o) (k : w.grownBy w' none) : Duo w' base x y s o := ⟨t.S.kept k, t.O.kept k, t.so⟩

theorem Duo.stepS {w w' : World} {base : Nat} {x x' y : Value} {s s' o : List Int} (t : Duo w base x y s o) (m : Mine w' base x' s'.length s') (k : w.grownBy w' x.ownBlock) (c : x'.ownBlock = x.ownBlock ∨ x'.ownBlock = some w.heap.size) : Duo w' base x' y s' o :=
  ⟨m, t.O.kept' k (fun g hg e => t.so g e hg), apart_new t.so t.O.own_lt c⟩

theorem Duo.stepO {w w' : World} {base : Nat} {x y y' : Value} {s o o' : List Int} (t : Duo w base x y s o) (m : Mine w' base y' o'.length o') (k : w.grownBy w' y.ownBlock) (c : y'.ownBlock = y.ownBlock ∨ y'.ownBlock = some w.heap.size) : Duo w' base x y' s o' :=
  ⟨t.S.kept' k (fun g hg e => t.so g hg e), m, apart_symm (apart_new (apart_symm t.so) t.S.own_lt c)⟩

theorem Row.cellAt {w : World} {B b off n : Nat} {xs : List Int} (h : Row w B (some ⟨b, off, none⟩) n xs) {i : Nat} (hi : i < n) : w.cell? ⟨b, off + i, none⟩ = some (.int .i64 (xs[i]?.getD 0)) := by
  obtain ⟨b', off', hA, _, hc⟩ := h.at_ (by omega)
  injection hA with hA
  injection hA with e1 e2
  subst e1 e2
  exact hc i hi

theorem step_app4 {ops : Array Oper} {o : Oper} {a : Act} {w : World} {K : Act → World → Prop} {Q : Exit → Act → World → Prop} {E : Prop} (hgd : o.guard = none) (s x : Operand)
    (ho : o.op = .call { callee := .builtin .append, args := #[s, x], argTypes := #[23, 23] }) (base : Nat) (v : Value) (n : Nat) (ys : List Int) (hs : a.eval s = v) (hown : Mine w base v n ys)
    {B : Nat} (A : Option Addr) (m c : Nat) (xs : List Int) (hx : a.eval x = .slice A m c) (hr : Row w B A m xs) (hnil : A = none → c = 0) (hbytes : (n + m) * 8 ≤ 140737488355328) (hbase : base ≤ w.heap.size)
    (h : ∀ v' w', Mine w' base v' (n + m) (ys ++ xs) → w.grownBy w' v.ownBlock → (v'.ownBlock = v.ownBlock ∨ v'.ownBlock = some w.heap.size) → K (a.put o.dst v') w') :
    if Region.wanted o (yielded ops a.tmps) = true then Oper.wp Try.prog o a w K Q else E := by
  have hw : Region.wanted o (yielded ops a.tmps) = true := by simp [Region.wanted, hgd]
  rw [if_pos hw]
  obtain ⟨v', w', hrun, h2, h3, h4⟩ := run_app w base o.type v n ys hown A m c xs hr hnil hbytes hbase
  unfold Oper.wp execOp
  simp only [ho, resolve, invoke, builtin, Sem.run_bind, Sem.run_pure, Result.andThen_ok, List.map_toArray, List.map_cons, List.map_nil, hs, hx, hrun]
  exact h v' w' h2 h3 h4

theorem Row.unmark {w : World} {B : Nat} {A : Option Addr} {n : Nat} {xs : List Int} (h : Row w B A (n + 2) (xs ++ [-7777, -8888])) (hx : xs.length = n) : Row w B A n xs := by
  have := h.head (k := n) (by omega)
  rw [List.take_left' hx] at this
  exact this

end Go.Proofs.Ytgfehlmiejnonaa

set_option maxRecDepth 20000
namespace Go.Proofs.Ytgfehlmiejnonaa
open Go.RowKit

theorem Own.of_made {w : World} {base g n : Nat} {T : TypeId} {xs : List Value} (h : w.ownsRow base T 1 (.slice (some ⟨g, 0, none⟩) n n) n xs) : Own w g T xs := by
  rcases h.2 with ⟨hv, _⟩ | ⟨g', cap, cur, hv, _, hh, _, _, hsz, htk⟩
  · cases hv
  · injection hv with e1 e2 e3
    injection e1 with e1
    injection e1 with e1 _
    subst e1 e3
    have : cur.toList.take (n * 1) = cur.toList := List.take_of_length_le (by simp [hsz])
    rw [this] at htk
    unfold Own
    rw [← htk]
    exact hh

theorem ints_zero (n : Nat) : List.replicate n (Value.int .i64 0) = ints (List.replicate n 0) := by simp [ints]

theorem Own.mine {w : World} {base g n : Nat} {ms : List Int} (h : Own w g 3 (ints ms)) (hb : base ≤ g) (hl : ms.length = n) (hn : n ≤ 1000) : Mine w base (.slice (some ⟨g, 0, none⟩) n n) n ms := by
  refine ⟨by rw [ints_len]; omega, .inr ⟨g, n, (ints ms).toArray, rfl, hb, h, Nat.le_refl _, by unfold maxLen; omega, by simp [ints_len, hl], ?_⟩⟩
  exact List.take_of_length_le (by simp [ints_len, hl])

theorem Own.setAt {w : World} {g : Nat} {T : TypeId} {vs : List Value} (h : Own w g T vs) (i : Nat) (u : Value) : Own (w.setCell ⟨g, i, none⟩ u) g T (vs.set i u) := by
  unfold Own at h ⊢
  simp [World.setCell, Array.getElem?_modify, h]

theorem ints_set (ms : List Int) (i : Nat) (x : Int) : (ints ms).set i (.int .i64 x) = ints (ms.set i x) := by simp [ints, List.map_set]

/-- A number of a row of the call's own, written over. -/
theorem Mine.set {w : World} {base g n cap : Nat} {xs : List Int} (h : Mine w base (.slice (some ⟨g, 0, none⟩) n cap) n xs) (i : Nat) (x : Int) (hi : i < n) : Mine (w.setCell ⟨g, i, none⟩ (.int .i64 x)) base (.slice (some ⟨g, 0, none⟩) n cap) n (xs.set i x) := by
  have hl := h.len
  obtain ⟨_, h2⟩ := h
  refine ⟨by rw [ints_len, List.length_set]; omega, ?_⟩
  rcases h2 with ⟨e, rfl⟩ | ⟨g', cap', cur, e, hb, hh, hnc, hm, hsz, htk⟩
  · omega
  · injection e with e1 e2 e3
    have e1 := Option.some.inj e1
    injection e1 with e1
    subst e1 e3
    refine .inr ⟨g, cap, cur.setIfInBounds i (.int .i64 x), rfl, hb, block_put hh _, hnc, hm, by simpa using hsz, ?_⟩
    have : ints (xs.set i x) = (ints xs).set i (.int .i64 x) := by simp [ints, List.map_set]
    rw [this, ← htk, Array.toList_setIfInBounds, List.take_set]

theorem Mine.frozen {w : World} {base g n cap : Nat} {xs : List Int} (h : Mine w base (.slice (some ⟨g, 0, none⟩) n cap) n xs) (i : Nat) : w.frozen? ⟨g, i, none⟩ = false := by
  rcases h.2 with ⟨e, rfl⟩ | ⟨g', cap', cur, e, hb, hh, _⟩
  · cases e
  · injection e with e1 e2 e3
    have e1 := Option.some.inj e1
    injection e1 with e1
    subst e1
    simp [World.frozen?, hh]

end Go.Proofs.Ytgfehlmiejnonaa
