/-
  Rows of the call's own: cut short, beside each other, read.
-/
import Derived.Test.YtefgnaldiggnnaaGraphLawB
set_option maxRecDepth 20000
namespace Go.Proofs.Ytefgnaldiggnnaa
open Go.RowKit

def nilS : Value := .slice none 0 0

def okI (xs : List Int) : Prop := ∀ i : Nat, -9223372036854775808 ≤ xs[i]?.getD 0 ∧ xs[i]?.getD 0 ≤ 9223372036854775807
theorem okI_of {xs : List Int} (h : xs.all bdB = true) : okI xs := fun i => ok_of h i
theorem not_same {a : Int} : (a != a) = false := by simp

def Apart (a b : Value) : Prop := ∀ g, a.ownBlock = some g → b.ownBlock ≠ some g

theorem Mine.sl {w : World} {base : Nat} {v : Value} {n : Nat} {xs : List Int} (h : Mine w base v n xs) : ∃ A c, v = .slice A n c ∧ (A = none → c = 0) := by
  rcases h.2 with ⟨rfl, rfl⟩ | ⟨g, cap, cur, rfl, _⟩
  · exact ⟨none, 0, rfl, fun _ => rfl⟩
  · exact ⟨some ⟨g, 0, none⟩, cap, rfl, by simp⟩

theorem Mine.len {w : World} {base : Nat} {v : Value} {n : Nat} {xs : List Int} (h : Mine w base v n xs) : xs.length = n := by
  have := h.1
  rw [ints_len] at this
  omega

theorem Mine.rowN {w : World} {base : Nat} {v : Value} {n : Nat} {xs : List Int} (h : Mine w base v n xs) (hok : okI xs) :
    ∃ A c, v = .slice A n c ∧ n ≤ c ∧ (A = none → c = 0) ∧ Row w w.heap.size A n xs := by
  obtain ⟨A, c, hv, hc, hr⟩ := h.row hok
  obtain ⟨A', c', hv', hn⟩ := h.sl
  rw [hv] at hv'
  injection hv' with e1 e2 e3
  subst e1 e3
  exact ⟨A, c, hv, hc, hn, hr⟩

theorem Mine.rowAt {w : World} {base : Nat} {A : Option Addr} {n c : Nat} {xs : List Int} (h : Mine w base (.slice A n c) n xs) (hok : okI xs) : Row w w.heap.size A n xs := by
  obtain ⟨A', c', hv, _, hr⟩ := h.row hok
  injection hv with e1 e2 e3
  subst e1
  exact hr

theorem Mine.take {w : World} {base : Nat} {A : Option Addr} {n c k : Nat} {xs : List Int} (h : Mine w base (.slice A n c) n xs) (hk : k ≤ n) : Mine w base (.slice A k c) k (xs.take k) := by
  have hl := h.len
  obtain ⟨_, h2⟩ := h
  refine ⟨by rw [ints_len, List.length_take]; omega, ?_⟩
  rcases h2 with ⟨e, rfl⟩ | ⟨g, cap, cur, e, hb, hh, hnc, hm, hsz, htk⟩
  · obtain rfl : k = 0 := by omega
    exact .inl ⟨e, rfl⟩
  · injection e with e1 e2 e3
    subst e1 e3
    refine .inr ⟨g, c, cur, rfl, hb, hh, by omega, hm, hsz, ?_⟩
    have : ints (xs.take k) = (ints xs).take k := by simp [ints, List.map_take]
    rw [this, ← htk, List.take_take, Nat.min_eq_left (by omega)]
    simp

theorem Mine.cut {w : World} {base : Nat} {A : Option Addr} {n c k : Nat} {xs ys : List Int} (h : Mine w base (.slice A n c) n xs) (hk : k ≤ n) (e : ys = xs.take k) : Mine w base (.slice A k c) k ys := e ▸ h.take hk

theorem Mine.put {w : World} {p i : Nat} {u v : Value} {n : Nat} {xs : List Int} (h : Mine w (p + 1) v n xs) : Mine (w.setCell ⟨p, i, none⟩ u) (p + 1) v n xs :=
  h.kept' (grown_set (World.grownBy.refl w (some p)) u) (fun g hg e => by have := h.own_ge g hg; injection e with e; omega)

theorem Mine.drewN {w : World} {base : Nat} {v : Value} {n : Nat} {xs : List Int} (h : Mine w base v n xs) (k : Nat) : Mine (w.drewN k) base v n xs := h.kept (grown_drewN (World.grownBy.refl w none) k)

theorem apart_nil (v : Value) : Apart nilS v ∧ Apart v nilS := by
  constructor
  · intro g hg; simp [nilS, Value.ownBlock] at hg
  · intro g _ hg; simp [nilS, Value.ownBlock] at hg

theorem apart_new {w : World} {x x' y : Value} (h : Apart x y) (hl : ∀ g, y.ownBlock = some g → g < w.heap.size) (k : x'.ownBlock = x.ownBlock ∨ x'.ownBlock = some w.heap.size) : Apart x' y := by
  intro g hg e
  rcases k with k | k
  · exact h g (k ▸ hg) e
  · have := hl g e
    rw [k] at hg
    injection hg with hg
    omega

theorem apart_symm {x y : Value} (h : Apart x y) : Apart y x := fun g hg e => h g e hg

theorem apart_cut {A A' : Option Addr} {n n' c c' k k' : Nat} (h : Apart (.slice A n c) (.slice A' n' c')) : Apart (.slice A k c) (.slice A' k' c') := by
  intro g hg e
  refine h g ?_ ?_
  · cases A with
    | none => simp [Value.ownBlock] at hg
    | some a => exact hg
  · cases A' with
    | none => simp [Value.ownBlock] at e
    | some a => exact e

/-- Two rows of the call's own, apart. -/
structure Duo (w : World) (base : Nat) (x y : Value) (s o : List Int) : Prop where
  S : Mine w base x s.length s
  O : Mine w base y o.length o
  so : Apart x y

theorem Duo.kept {w w' : World} {base : Nat} {x y : Value} {s o : List Int} (t : Duo w base x y s o) (k : w.grownBy w' none) : Duo w' base x y s o := ⟨t.S.kept k, t.O.kept k, t.so⟩

theorem Duo.stepS {w w' : World} {base : Nat} {x x' y : Value} {s s' o : List Int} (t : Duo w base x y s o) (m : Mine w' base x' s'.length s') (k : w.grownBy w' x.ownBlock) (c : x'.ownBlock = x.ownBlock ∨ x'.ownBlock = some w.heap.size) : Duo w' base x' y s' o :=
  ⟨m, t.O.kept' k (fun g hg e => t.so g e hg), apart_new t.so t.O.own_lt c⟩

theorem Duo.stepO {w w' : World} {base : Nat} {x y y' : Value} {s o o' : List Int} (t : Duo w base x y s o) (m : Mine w' base y' o'.length o') (k : w.grownBy w' y.ownBlock) (c : y'.ownBlock = y.ownBlock ∨ y'.ownBlock = some w.heap.size) : Duo w' base x y' s o' :=
  ⟨t.S.kept' k (fun g hg e => t.so g hg e), m, apart_symm (apart_new (apart_symm t.so) t.S.own_lt c)⟩

theorem Row.cellAt {w : World} {B b off n : Nat} {xs : List Int} (h : Row w B (some ⟨b, off, none⟩) n xs) {i : Nat} (hi : i < n) : w.cell? ⟨b, off + i, none⟩ = some (.int .i64 (xs[i]?.getD 0)) := by
  obtain ⟨b', off', hA, _, hc⟩ := h.at_ (by omega)
  injection hA with hA
  injection hA with e1 e2
  subst e1 e2
  exact hc i hi

theorem step_app4 {ops : Array Oper} {o : Oper} {a : Act} {w : World} {K : Act → World → Prop} {Q : Exit → Act → World → Prop} {E : Prop} (hgd : o.guard = none) (s x : Operand)
    (ho : o.op = .call { callee := .builtin .append, args := #[s, x], argTypes := #[25, 25] }) (base : Nat) (v : Value) (n : Nat) (ys : List Int) (hs : a.eval s = v) (hown : Mine w base v n ys)
    {B : Nat} (A : Option Addr) (m c : Nat) (xs : List Int) (hx : a.eval x = .slice A m c) (hr : Row w B A m xs) (hnil : A = none → c = 0) (hbytes : (n + m) * 8 ≤ 140737488355328) (hbase : base ≤ w.heap.size)
    (h : ∀ v' w', Mine w' base v' (n + m) (ys ++ xs) → w.grownBy w' v.ownBlock → (v'.ownBlock = v.ownBlock ∨ v'.ownBlock = some w.heap.size) → K (a.put o.dst v') w') :
    if Region.wanted o (yielded ops a.tmps) = true then Oper.wp Try.prog o a w K Q else E := by
  have hw : Region.wanted o (yielded ops a.tmps) = true := by simp [Region.wanted, hgd]
  rw [if_pos hw]
  obtain ⟨v', w', hrun, h2, h3, h4⟩ := run_app w base o.type v n ys hown A m c xs hr hnil hbytes hbase
  unfold Oper.wp execOp
  simp only [ho, resolve, invoke, builtin, Sem.run_bind, Sem.run_pure, Result.andThen_ok, List.map_toArray, List.map_cons, List.map_nil, hs, hx, hrun]
  exact h v' w' h2 h3 h4

theorem Row.unmark {w : World} {B : Nat} {A : Option Addr} {n : Nat} {xs : List Int} (h : Row w B A (n + 2) (xs ++ [-7777, -8888])) (hx : xs.length = n) : Row w B A n xs := by
  have := h.head (k := n) (by omega)
  rw [List.take_left' hx] at this
  exact this

end Go.Proofs.Ytefgnaldiggnnaa
