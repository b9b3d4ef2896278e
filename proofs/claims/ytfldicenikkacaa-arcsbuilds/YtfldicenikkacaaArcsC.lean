/-
  Three rows of the call's own in one struct; Build's ground.
-/
import Derived.Test.YtfldicenikkacaaArcsB
namespace Go.Proofs.Ytfldicenikkacaa
open Go.RowKit

def nilS : Value := .slice none 0 0

def Apart (a b : Value) : Prop := ∀ g, a.ownBlock = some g → b.ownBlock ≠ some g

structure Tri (w : World) (base : Nat) (x y z : Value) (s o h : List Int) : Prop where
  S : Mine w base x s.length s
  O : Mine w base y o.length o
  H : Mine w base z h.length h
  so : Apart x y
  sh : Apart x z
  oh : Apart y z

theorem Mine.sl {w : World} {base : Nat} {v : Value} {n : Nat} {xs : List Int} (h : Mine w base v n xs) : ∃ A c, v = .slice A n c ∧ (A = none → c = 0) := by
  rcases h.2 with ⟨rfl, rfl⟩ | ⟨g, cap, cur, rfl, _⟩
  · exact ⟨none, 0, rfl, fun _ => rfl⟩
  · exact ⟨some ⟨g, 0, none⟩, cap, rfl, by simp⟩

theorem Mine.rowN {w : World} {base : Nat} {v : Value} {n : Nat} {xs : List Int} (h : Mine w base v n xs) (hok : ∀ i : Nat, -9223372036854775808 ≤ xs[i]?.getD 0 ∧ xs[i]?.getD 0 ≤ 9223372036854775807) :
    ∃ A c, v = .slice A n c ∧ (A = none → c = 0) ∧ Row w w.heap.size A n xs := by
  obtain ⟨A, c, hv, _, hr⟩ := h.row hok
  obtain ⟨A', c', hv', hn⟩ := h.sl
  rw [hv] at hv'
  injection hv' with e1 e2 e3
  subst e1 e3
  exact ⟨A, c, hv, hn, hr⟩

theorem Mine.put {w : World} {p i : Nat} {u v : Value} {n : Nat} {xs : List Int} (h : Mine w (p + 1) v n xs) : Mine (w.setCell ⟨p, i, none⟩ u) (p + 1) v n xs :=
  h.kept' (grown_set (World.grownBy.refl w (some p)) u) (fun g hg e => by have := h.own_ge g hg; injection e with e; omega)

theorem Mine.drewN {w : World} {base : Nat} {v : Value} {n : Nat} {xs : List Int} (h : Mine w base v n xs) (k : Nat) : Mine (w.drewN k) base v n xs := h.kept (grown_drewN (World.grownBy.refl w none) k)

theorem apart_nil (v : Value) : Apart nilS v ∧ Apart v nilS := by
  constructor
  · intro g hg; simp [nilS, Value.ownBlock] at hg
  · intro g _ hg; simp [nilS, Value.ownBlock] at hg

theorem Tri.nil (w : World) (base : Nat) : Tri w base nilS nilS nilS [] [] [] :=
  ⟨Mine.nil _ _, Mine.nil _ _, Mine.nil _ _, (apart_nil _).1, (apart_nil _).1, (apart_nil _).1⟩

theorem Tri.kept {w w' : World} {base : Nat} {x y z : Value} {s o h : List Int} (t : Tri w base x y z s o h) (k : w.grownBy w' none) : Tri w' base x y z s o h :=
  ⟨t.S.kept k, t.O.kept k, t.H.kept k, t.so, t.sh, t.oh⟩

theorem Tri.wide {w : World} {base b : Nat} {x y z : Value} {s o h : List Int} (t : Tri w base x y z s o h) (k : b ≤ base) : Tri w b x y z s o h :=
  ⟨t.S.wide k, t.O.wide k, t.H.wide k, t.so, t.sh, t.oh⟩

theorem Tri.put {w : World} {p i : Nat} {u x y z : Value} {s o h : List Int} (t : Tri w (p + 1) x y z s o h) : Tri (w.setCell ⟨p, i, none⟩ u) (p + 1) x y z s o h :=
  ⟨t.S.put, t.O.put, t.H.put, t.so, t.sh, t.oh⟩

theorem Mine.putLow {w : World} {q i base : Nat} {u v : Value} {n : Nat} {xs : List Int} (h : Mine w base v n xs) (hq : q < base) : Mine (w.setCell ⟨q, i, none⟩ u) base v n xs :=
  h.kept' (grown_set (World.grownBy.refl w (some q)) u) (fun g hg e => by have := h.own_ge g hg; injection e with e; omega)

theorem Tri.putLow {w : World} {q i base : Nat} {u x y z : Value} {s o h : List Int} (t : Tri w base x y z s o h) (hq : q < base) : Tri (w.setCell ⟨q, i, none⟩ u) base x y z s o h :=
  ⟨t.S.putLow hq, t.O.putLow hq, t.H.putLow hq, t.so, t.sh, t.oh⟩

theorem Tri.store3 {w : World} {q base : Nat} {u v r x y z : Value} {s o h : List Int} (t : Tri w base x y z s o h) (hq : q < base) :
    Tri (((w.setCell ⟨q, 0, none⟩ u).setCell ⟨q, 1, none⟩ v).setCell ⟨q, 2, none⟩ r) base x y z s o h := ((t.putLow hq).putLow hq).putLow hq

theorem apart_new {w : World} {x x' y : Value} (h : Apart x y) (hl : ∀ g, y.ownBlock = some g → g < w.heap.size) (k : x'.ownBlock = x.ownBlock ∨ x'.ownBlock = some w.heap.size) : Apart x' y := by
  intro g hg e
  rcases k with k | k
  · exact h g (k ▸ hg) e
  · have := hl g e
    rw [k] at hg
    injection hg with hg
    omega

theorem apart_symm {x y : Value} (h : Apart x y) : Apart y x := fun g hg e => h g e hg

theorem Tri.stepS {w w' : World} {base : Nat} {x x' y z : Value} {s s' o h : List Int} (t : Tri w base x y z s o h) (m : Mine w' base x' s'.length s') (k : w.grownBy w' x.ownBlock) (c : x'.ownBlock = x.ownBlock ∨ x'.ownBlock = some w.heap.size) : Tri w' base x' y z s' o h :=
  ⟨m, t.O.kept' k (fun g hg e => t.so g e hg), t.H.kept' k (fun g hg e => t.sh g e hg), apart_new t.so t.O.own_lt c, apart_new t.sh t.H.own_lt c, t.oh⟩

theorem Tri.stepO {w w' : World} {base : Nat} {x y y' z : Value} {s o o' h : List Int} (t : Tri w base x y z s o h) (m : Mine w' base y' o'.length o') (k : w.grownBy w' y.ownBlock) (c : y'.ownBlock = y.ownBlock ∨ y'.ownBlock = some w.heap.size) : Tri w' base x y' z s o' h :=
  ⟨t.S.kept' k (fun g hg e => t.so g hg e), m, t.H.kept' k (fun g hg e => t.oh g e hg), apart_symm (apart_new (apart_symm t.so) t.S.own_lt c), t.sh, apart_new t.oh t.H.own_lt c⟩

theorem Tri.stepH {w w' : World} {base : Nat} {x y z z' : Value} {s o h h' : List Int} (t : Tri w base x y z s o h) (m : Mine w' base z' h'.length h') (k : w.grownBy w' z.ownBlock) (c : z'.ownBlock = z.ownBlock ∨ z'.ownBlock = some w.heap.size) : Tri w' base x y z' s o h' :=
  ⟨t.S.kept' k (fun g hg e => t.sh g hg e), t.O.kept' k (fun g hg e => t.oh g hg e), m, t.so, apart_symm (apart_new (apart_symm t.sh) t.S.own_lt c), apart_symm (apart_new (apart_symm t.oh) t.O.own_lt c)⟩

def ArcPost (w : World) (s o h : List Int) (z : Int) (e : Ending) (w' : World) : Prop :=
  ∃ x y t, e = .returned (.tuple #[.agg #[x, y, t], .int .i64 z]) ∧ Tri w' w.heap.size x y t s o h ∧ w.grownBy w' none

theorem results_arcs {fn : Func} {t u : Tmp} (h : fn.results = #[.cell t 48, .tmp u]) (tmps : Array Value) (w : World) {g : Nat} {x y z : Value} (hp : tmps[t]?.getD undef = .pointer (some ⟨g, 0, none⟩))
   (c0 : w.cell? ⟨g, 0, none⟩ = some x) (c1 : w.cell? ⟨g, 1, none⟩ = some y) (c2 : w.cell? ⟨g, 2, none⟩ = some z) :
    (results fn tmps).run Try.prog w = .ok (.tuple #[.agg #[x, y, z], tmps[u]?.getD undef]) w := by
  simp [results, h, hp, c0, c1, c2, go_sem]

theorem post_arcs {fn : Func} {t u : Tmp} {R : Ending → World → Prop} {a : Act} {w : World} (h : fn.results = #[.cell t 48, .tmp u]) {g : Nat} {x y z : Value} (hp : a.tmps[t]?.getD undef = .pointer (some ⟨g, 0, none⟩))
   (o : Own w g 48 [x, y, z]) (hd : a.defers = []) (hR : R (.returned (.tuple #[.agg #[x, y, z], a.tmps[u]?.getD undef])) w) : bodyPost Try.prog fn R .ret a w :=
  bodyPost_ret (results_arcs h a.tmps w hp o.three.1 o.three.2.1 o.three.2.2) hd hR

theorem Own.store3 {w : World} {g : Nat} {T : TypeId} {x y z : Value} (h : Own w g T [x, y, z]) (a b c : Value) :
    Own (((w.setCell ⟨g, 0, none⟩ a).setCell ⟨g, 1, none⟩ b).setCell ⟨g, 2, none⟩ c) g T [a, b, c] :=
  ((h.put (i := 0) a).put (i := 1) b).put (i := 2) c

theorem grown_store3 {a w : World} {g : Nat} (h : a.grownBy w none) (hg : a.heap.size ≤ g) (x y z : Value) :
    a.grownBy (((w.setCell ⟨g, 0, none⟩ x).setCell ⟨g, 1, none⟩ y).setCell ⟨g, 2, none⟩ z) none :=
  grown_new (grown_new (grown_new h hg x) hg y) hg z

theorem step_app4 {ops : Array Oper} {o : Oper} {a : Act} {w : World} {K : Act → World → Prop} {Q : Exit → Act → World → Prop} {E : Prop} (hgd : o.guard = none) (s x : Operand)
    (ho : o.op = .call { callee := .builtin .append, args := #[s, x], argTypes := #[26, 26] }) (base : Nat) (v : Value) (n : Nat) (ys : List Int) (hs : a.eval s = v) (hown : Mine w base v n ys)
    {B : Nat} (A : Option Addr) (m c : Nat) (xs : List Int) (hx : a.eval x = .slice A m c) (hr : Row w B A m xs) (hnil : A = none → c = 0) (hbytes : (n + m) * 8 ≤ 140737488355328) (hbase : base ≤ w.heap.size)
    (h : ∀ v' w', Mine w' base v' (n + m) (ys ++ xs) → w.grownBy w' v.ownBlock → (v'.ownBlock = v.ownBlock ∨ v'.ownBlock = some w.heap.size) → K (a.put o.dst v') w') :
    if Region.wanted o (yielded ops a.tmps) = true then Oper.wp Try.prog o a w K Q else E := by
  have hw : Region.wanted o (yielded ops a.tmps) = true := by simp [Region.wanted, hgd]
  rw [if_pos hw]
  obtain ⟨v', w', hrun, h2, h3, h4⟩ := run_app w base o.type v n ys hown A m c xs hr hnil hbytes hbase
  unfold Oper.wp execOp
  simp only [ho, resolve, invoke, builtin, Sem.run_bind, Sem.run_pure, Result.andThen_ok, List.map_toArray, List.map_cons, List.map_nil, hs, hx, hrun]
  exact h v' w' h2 h3 h4

end Go.Proofs.Ytfldicenikkacaa
