/-
  Rows of integers of the call's own: laid as literals, appended to. No condition.
-/
import Derived.Test.YtgfehlmiejnonaaMem
import Derived.Maps.AppendAt
import Derived.OwnWalk
set_option maxRecDepth 20000
namespace Go.Proofs.Ytgfehlmiejnonaa
open Go.RowKit

theorem Row.new {w : World} (xs : List Int) (hl : xs.length ≤ 1000) (hok : ∀ x ∈ xs, -9223372036854775808 ≤ x ∧ x ≤ 9223372036854775807) :
    Row (w.alloc (.cells (xs.map (Value.int .i64)).toArray 3)) (w.heap.size + 1) (some ⟨w.heap.size, 0, none⟩) xs.length xs := by
  refine ⟨rfl, by omega, fun i => ?_, fun _ => ⟨w.heap.size, 0, rfl, by omega, fun i hi => ?_⟩⟩
  · by_cases h : i < xs.length
    · simp only [List.getElem?_eq_getElem h, Option.getD_some]
      exact hok _ (List.getElem_mem h)
    · simp only [List.getElem?_eq_none (Nat.le_of_not_lt h), Option.getD_none]
      omega
  · have h := (Own.new w 3 (xs.map (Value.int .i64))).cell i
    rw [Nat.zero_add]
    refine h.trans ?_
    simp [hi]

theorem Row.newAt {w : World} {g n : Nat} {vs : Array Value} (xs : List Int) (hg : g = w.heap.size) (hn : n = xs.length) (hv : vs = (xs.map (Value.int .i64)).toArray) (hl : xs.length ≤ 1000) (hok : ∀ x ∈ xs, -9223372036854775808 ≤ x ∧ x ≤ 9223372036854775807) :
    Row (w.alloc (.cells vs 3)) (g + 1) (some ⟨g, 0, none⟩) n xs := by
  subst hg hn hv
  exact Row.new xs hl hok

theorem Row.one {w : World} (x : Int) (hx : -9223372036854775808 ≤ x ∧ x ≤ 9223372036854775807) :
    Row (w.alloc (.cells #[.int .i64 x] 3)) (w.heap.size + 1) (some ⟨w.heap.size, 0, none⟩) 1 [x] := by
  refine ⟨rfl, by omega, fun i => ?_, fun _ => ⟨w.heap.size, 0, rfl, by omega, fun i hi => ?_⟩⟩
  · rcases i with _ | i <;> simp <;> omega
  · have h := (Own.new w 3 [.int .i64 x]).cell i
    rw [Nat.zero_add]
    refine h.trans ?_
    rcases i with _ | i
    · rfl
    · omega

theorem Row.two {w : World} (x y : Int) (hx : -9223372036854775808 ≤ x ∧ x ≤ 9223372036854775807) (hy : -9223372036854775808 ≤ y ∧ y ≤ 9223372036854775807) :
    Row (w.alloc (.cells #[.int .i64 x, .int .i64 y] 3)) (w.heap.size + 1) (some ⟨w.heap.size, 0, none⟩) 2 [x, y] := by
  refine ⟨rfl, by omega, fun i => ?_, fun _ => ⟨w.heap.size, 0, rfl, by omega, fun i hi => ?_⟩⟩
  · rcases i with _ | _ | i <;> simp <;> omega
  · have h := (Own.new w 3 [.int .i64 x, .int .i64 y]).cell i
    rw [Nat.zero_add]
    refine h.trans ?_
    rcases i with _ | _ | i
    · rfl
    · rfl
    · omega

def ints (xs : List Int) : List Value := xs.map (Value.int .i64)

theorem ints_app (a b : List Int) : ints (a ++ b) = ints a ++ ints b := List.map_append

theorem ints_len (xs : List Int) : (ints xs).length = xs.length := by simp [ints]

theorem ints_one (xs : List Int) : ∀ u ∈ ints xs, u.oneCell' = true := by
  intro u hu
  obtain ⟨x, _, rfl⟩ := List.mem_map.1 hu
  rfl

theorem ints_get (xs : List Int) (i : Nat) (h : i < xs.length) : (ints xs)[i]? = some (.int .i64 (xs[i]?.getD 0)) := by
  simp [ints, h]

theorem info3 : (Try.prog.info? 3).map (fun i => (i.zero, i.size, i.bytes)) = some (some (.int .i64 0), 1, 8) := by kernel_rfl

def Mine (w : World) (base : Nat) (v : Value) (n : Nat) (xs : List Int) : Prop := w.ownsRow base 3 1 v n (ints xs)

theorem Mine.lit {w : World} {base g : Nat} {vs : Array Value} (xs : List Int) (n : Nat) (hg : g = w.heap.size) (hv : vs = (ints xs).toArray) (hn : n = xs.length) (hb : base ≤ w.heap.size) (hl : xs.length ≤ 1000) :
    Mine (w.alloc (.cells vs 3)) base (.slice (some ⟨g, 0, none⟩) n n) n xs := by
  subst hg hv hn
  have h := World.ownsRow_lit (base := base) (e := 3) (size := 1) w (ints xs).toArray xs.length hb (by unfold maxLen; omega) (by simp [ints])
  simpa [Mine] using h

theorem run_app (w : World) (base ty : Nat) (v : Value) (n : Nat) (ys : List Int) (hown : Mine w base v n ys) {B : Nat} (A : Option Addr) (m c : Nat) (xs : List Int) (hr : Row w B A m xs)
    (hnil : A = none → c = 0) (hbytes : (n + m) * 8 ≤ 140737488355328) (hbase : base ≤ w.heap.size) :
    ∃ v' w', (Builtin.append_ #[23, 23] ty #[v, .slice A m c]).run Try.prog w = .ok v' w' ∧ Mine w' base v' (n + m) (ys ++ xs) ∧ w.grownBy w' v.ownBlock ∧ (v'.ownBlock = v.ownBlock ∨ v'.ownBlock = some w.heap.size) := by
  obtain ⟨i0, hi, hz0, hz1, hz2⟩ := info_parts info3
  cases A with
  | none =>
    obtain rfl : c = 0 := hnil rfl
    have hm : m = 0 := by
      rcases Nat.eq_zero_or_pos m with h0 | h0
      · exact h0
      · obtain ⟨b, off, h, _⟩ := hr.at_ h0
        cases h
    subst hm
    have hx : xs = [] := List.eq_nil_of_length_eq_zero hr.len
    subst hx
    exact ⟨v, w, run_append_owned_none (P := Try.prog) w base 23 ty 3 i0 1 Try.underlying23 hi v n (ints ys) hown, by simpa [Mine] using hown, World.grownBy.refl w _, .inl rfl⟩
  | some ad =>
    have hcells : ∀ j u, (ints xs)[j]? = some u → w.cell? (ad.add j) = some u := by
      intro j u hu
      have hj : j < xs.length := by
        rcases Nat.lt_or_ge j xs.length with h | h
        · exact h
        · rw [List.getElem?_eq_none (by rw [ints_len]; exact h)] at hu; cases hu
      obtain ⟨b, off, h, _, hc⟩ := hr.at_ (by have := hr.len; omega)
      have h := Option.some.inj h
      subst h
      rw [ints_get xs j hj] at hu
      rw [add_at, hc j (by have := hr.len; omega)]
      exact hu
    obtain ⟨v', w', hrun, h2, h3, _, h5⟩ := run_append_own_at (P := Try.prog) w base 23 ty 3 i0 (.int .i64 0) 1 8 Try.underlying23 hi hz0 hz1 hz2 rfl (by decide) v n (ints ys) hown ad m c (ints xs)
      (by rw [ints_len, hr.len]; omega) hcells (ints_one xs) (by unfold maxLen; omega) hbytes hbase
    exact ⟨v', w', hrun, by unfold Mine; rw [ints_app]; exact h2, h3, h5⟩

theorem wpList_app {ops : Array Oper} {rest : List Oper} {o : Oper} {a : Act} {Q : Exit → Act → World → Prop} (w : World) (hgd : o.guard = none) (s x : Operand)
    (ho : o.op = .call { callee := .builtin .append, args := #[s, x], argTypes := #[23, 23] }) (base : Nat) (v : Value) (n : Nat) (ys : List Int) (hs : a.eval s = v) (hown : Mine w base v n ys)
    {B : Nat} (A : Option Addr) (m c : Nat) (xs : List Int) (hx : a.eval x = .slice A m c) (hr : Row w B A m xs) (hnil : A = none → c = 0) (hbytes : (n + m) * 8 ≤ 140737488355328) (hbase : base ≤ w.heap.size)
    (h : ∀ v' w', Mine w' base v' (n + m) (ys ++ xs) → w.grownBy w' v.ownBlock → (v'.ownBlock = v.ownBlock ∨ v'.ownBlock = some w.heap.size) → wpList Try.prog ops Q rest (a.put o.dst v') w') : wpList Try.prog ops Q (o :: rest) a w := by
  refine wpList_plain hgd fun K hK => ?_
  obtain ⟨v', w', hrun, h2, h3, h4⟩ := run_app w base o.type v n ys hown A m c xs hr hnil hbytes hbase
  unfold Oper.wp execOp
  simp only [ho, resolve, invoke, builtin, Sem.run_bind, Sem.run_pure, Result.andThen_ok, List.map_toArray, List.map_cons, List.map_nil, hs, hx, hrun]
  exact hK _ _ (h v' w' h2 h3 h4)

theorem step_app {ops : Array Oper} {o : Oper} {a : Act} {w : World} {K : Act → World → Prop} {Q : Exit → Act → World → Prop} {E : Prop} (hgd : o.guard = none) (s x : Operand)
    (ho : o.op = .call { callee := .builtin .append, args := #[s, x], argTypes := #[23, 23] }) (base : Nat) (v : Value) (n : Nat) (ys : List Int) (hs : a.eval s = v) (hown : Mine w base v n ys)
    {B : Nat} (A : Option Addr) (m c : Nat) (xs : List Int) (hx : a.eval x = .slice A m c) (hr : Row w B A m xs) (hnil : A = none → c = 0) (hbytes : (n + m) * 8 ≤ 140737488355328) (hbase : base ≤ w.heap.size)
    (h : ∀ v' w', Mine w' base v' (n + m) (ys ++ xs) → w.grownBy w' v.ownBlock → K (a.put o.dst v') w') :
    if Region.wanted o (yielded ops a.tmps) = true then Oper.wp Try.prog o a w K Q else E := by
  have hw : Region.wanted o (yielded ops a.tmps) = true := by simp [Region.wanted, hgd]
  rw [if_pos hw]
  obtain ⟨v', w', hrun, h2, h3, h4⟩ := run_app w base o.type v n ys hown A m c xs hr hnil hbytes hbase
  unfold Oper.wp execOp
  simp only [ho, resolve, invoke, builtin, Sem.run_bind, Sem.run_pure, Result.andThen_ok, List.map_toArray, List.map_cons, List.map_nil, hs, hx, hrun]
  exact h v' w' h2 h3

theorem Mine.row {w : World} {base : Nat} {v : Value} {n : Nat} {xs : List Int} (h : Mine w base v n xs) (hok : ∀ i : Nat, -9223372036854775808 ≤ xs[i]?.getD 0 ∧ xs[i]?.getD 0 ≤ 9223372036854775807) :
    ∃ A c, v = .slice A n c ∧ n ≤ c ∧ Row w w.heap.size A n xs := by
  obtain ⟨hl, h2⟩ := h
  rw [ints_len] at hl
  rcases h2 with ⟨rfl, rfl⟩ | ⟨g, cap, cur, rfl, _, hh, hnc, hm, hsz, htk⟩
  · exact ⟨none, 0, rfl, Nat.le_refl _, by omega, by omega, hok, fun k => absurd k (by omega)⟩
  · refine ⟨some ⟨g, 0, none⟩, cap, rfl, hnc, by omega, by unfold maxLen at hm; omega, hok, fun _ => ⟨g, 0, rfl, ?_, fun i hi => ?_⟩⟩
    · exact (Array.getElem?_eq_some_iff.1 hh).1
    · have := cell_of_row w g i cur 3 (0, 0) hh
      rw [Nat.zero_add, this, ← ints_get xs i (by omega), ← htk, List.getElem?_take_of_lt (by omega)]
      simp

theorem Mine.own_ge {w : World} {base : Nat} {v : Value} {n : Nat} {xs : List Int} (h : Mine w base v n xs) : ∀ k, v.ownBlock = some k → base ≤ k := by
  intro k hk
  rcases h.2 with ⟨rfl, _⟩ | ⟨g, cap, cur, rfl, hb, _⟩
  · simp [Value.ownBlock] at hk
  · simp only [Value.ownBlock, Option.some.injEq] at hk
    omega

theorem Mine.shape {w : World} {base : Nat} {v : Value} {n : Nat} {xs : List Int} (h : Mine w base v n xs) (hn : 0 < n) (hok : ∀ i : Nat, -9223372036854775808 ≤ xs[i]?.getD 0 ∧ xs[i]?.getD 0 ≤ 9223372036854775807) :
    ∃ g c, v = .slice (some ⟨g, 0, none⟩) n c ∧ n ≤ c ∧ base ≤ g ∧ Row w w.heap.size (some ⟨g, 0, none⟩) n xs := by
  obtain ⟨A, c, hv, hc, hr⟩ := h.row hok
  rcases h.2 with ⟨rfl, _⟩ | ⟨g, cap, cur, rfl, hb, _⟩
  · omega
  · injection hv with e1 e2 e3
    subst e1 e3
    exact ⟨g, cap, rfl, hc, hb, hr⟩

end Go.Proofs.Ytgfehlmiejnonaa
