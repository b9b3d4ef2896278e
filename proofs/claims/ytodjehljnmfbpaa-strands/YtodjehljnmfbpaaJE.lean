/-
  begin, Row; the reference's Tail, Head, Row. Row; the reference's Tail, Head, Row. Three rows of the call's own in one struct; Build's ground. Build.
-/
import Derived.Test.YtodjehljnmfbpaaJC
import Derived.Test.YtodjehljnmfbpaaJA

set_option maxRecDepth 20000
namespace Go.Proofs.Ytodjehljnmfbpaa
open Go.RowKit

def BegPost (w : World) (xs : List Int) (e : Ending) (w' : World) : Prop :=
  ∃ v, e = .returned v ∧ Mine w' w.heap.size v xs.length xs ∧ w.grownBy w' none

def BegRel (w : World) (V : Int) (A : Option Addr) (n c : Nat) (ls : List Lk) (x : Int) (o i : Value) (wr : World) : Prop :=
  ∃ k : Nat, k ≤ n ∧ i = .int .i64 (k : Nat) ∧ w.grownBy wr none ∧ Own wr w.heap.size 24 [.int .i64 V, .slice A n c] ∧ Mine wr (w.heap.size + 1) o (rowA ls x (2 * k)).length (rowA ls x (2 * k))

end Go.Proofs.Ytodjehljnmfbpaa

set_option maxRecDepth 20000
namespace Go.Proofs.Ytodjehljnmfbpaa
open Go.RowKit

theorem tail_ev {ls : List Lk} {a : Nat} (h : a % 2 = 0) : tailOf ls a = (at3 ls (a / 2)).1 ∧ headOf ls a = (at3 ls (a / 2)).2.1 := by
  unfold tailOf headOf
  rw [if_pos h, if_pos h]
  exact ⟨rfl, rfl⟩

theorem tail_od {ls : List Lk} {a : Nat} (h : ¬ a % 2 = 0) : tailOf ls a = (at3 ls (a / 2)).2.1 ∧ headOf ls a = (at3 ls (a / 2)).1 := by
  unfold tailOf headOf
  rw [if_neg h, if_neg h]
  exact ⟨rfl, rfl⟩

theorem half_int (a : Nat) : (a : Int).tdiv 2 = ((a / 2 : Nat) : Int) ∧ (a : Int).tmod 2 = ((a % 2 : Nat) : Int) := by
  constructor
  · rfl
  · rfl

theorem RTail_any (V : Int) (A : Option Addr) (n c : Nat) (ls : List Lk) (a : Nat) (w : World) {B : Nat} (h : Lks w B A n ls) (ha : a < 2 * n) :
    Calls Try.prog 46 #[.agg #[.int .i64 V, .slice A n c], .int .i64 (a : Nat)] w (Says w (.int .i64 (tailOf ls a))) := by
  have hn := h.small
  obtain ⟨b, off, hA, hb, hcell⟩ := h.cells (by omega)
  subst hA
  obtain ⟨d0, d1, d2⟩ := hcell (a / 2) (by omega)
  have q0 := kept (grow0 w (.cells #[.int .i64 V, .slice (some ⟨b, off, none⟩) n c] 24)) d0
  have q1 := kept (grow0 w (.cells #[.int .i64 V, .slice (some ⟨b, off, none⟩) n c] 24)) d1
  obtain ⟨x0, x1⟩ := half_int a
  have hlt : a / 2 < n := by omega
  clear h hcell d0 d1 d2
  by_cases he : a % 2 = 0
  · have E := Lib.hid (tail_ev (ls := ls) he).1
    rw [he] at x1
    clear he
    generalize a / 2 = k at *
    generalize at3 ls k = l at *
    obtain ⟨p, t, cp⟩ := l
    simp only at q0 q1
    go_enter Try.func46, Try.ntmps46
    go_wp2
    go_ret
    exact ⟨ret_int E.out.symm, grow0 _ _⟩
  · have E := Lib.hid (tail_od (ls := ls) he).1
    have h1 : a % 2 = 1 := by omega
    rw [h1] at x1
    clear he h1
    generalize a / 2 = k at *
    generalize at3 ls k = l at *
    obtain ⟨p, t, cp⟩ := l
    simp only at q0 q1
    go_enter Try.func46, Try.ntmps46
    go_wp2
    go_ret
    exact ⟨ret_int E.out.symm, grow0 _ _⟩

theorem RHead_any (V : Int) (A : Option Addr) (n c : Nat) (ls : List Lk) (a : Nat) (w : World) {B : Nat} (h : Lks w B A n ls) (ha : a < 2 * n) :
    Calls Try.prog 47 #[.agg #[.int .i64 V, .slice A n c], .int .i64 (a : Nat)] w (Says w (.int .i64 (headOf ls a))) := by
  have hn := h.small
  obtain ⟨b, off, hA, hb, hcell⟩ := h.cells (by omega)
  subst hA
  obtain ⟨d0, d1, d2⟩ := hcell (a / 2) (by omega)
  have q0 := kept (grow0 w (.cells #[.int .i64 V, .slice (some ⟨b, off, none⟩) n c] 24)) d0
  have q1 := kept (grow0 w (.cells #[.int .i64 V, .slice (some ⟨b, off, none⟩) n c] 24)) d1
  obtain ⟨x0, x1⟩ := half_int a
  have hlt : a / 2 < n := by omega
  clear h hcell d0 d1 d2
  by_cases he : a % 2 = 0
  · have E := Lib.hid (tail_ev (ls := ls) he).2
    rw [he] at x1
    clear he
    generalize a / 2 = k at *
    generalize at3 ls k = l at *
    obtain ⟨p, t, cp⟩ := l
    simp only at q0 q1
    go_enter Try.func47, Try.ntmps47
    go_wp2
    go_ret
    exact ⟨ret_int E.out.symm, grow0 _ _⟩
  · have E := Lib.hid (tail_od (ls := ls) he).2
    have h1 : a % 2 = 1 := by omega
    rw [h1] at x1
    clear he h1
    generalize a / 2 = k at *
    generalize at3 ls k = l at *
    obtain ⟨p, t, cp⟩ := l
    simp only at q0 q1
    go_enter Try.func47, Try.ntmps47
    go_wp2
    go_ret
    exact ⟨ret_int E.out.symm, grow0 _ _⟩

def RRowRel (w : World) (V : Int) (A : Option Addr) (n c : Nat) (ls : List Lk) (x : Int) (o i : Value) (wr : World) : Prop :=
  ∃ k : Nat, k ≤ 2 * n ∧ i = .int .i64 (k : Nat) ∧ w.grownBy wr none ∧ Own wr w.heap.size 24 [.int .i64 V, .slice A n c] ∧ Mine wr (w.heap.size + 1) o (rowA ls x k).length (rowA ls x k)

end Go.Proofs.Ytodjehljnmfbpaa

set_option maxRecDepth 20000
namespace Go.Proofs.Ytodjehljnmfbpaa
open Go.RowKit

structure Tri (w : World) (base : Nat) (x y z : Value) (s o h : List Int) : Prop where
  S : Mine w base x s.length s
  O : Mine w base y o.length o
  H : Mine w base z h.length h
  so : Apart x y
  sh : Apart x z
  oh : Apart y z

theorem Tri.nil (w : World) (base : Nat) : Tri w base nilS nilS nilS [] [] [] :=
  ⟨Mine.nil _ _, Mine.nil _ _, Mine.nil _ _, (apart_nil _).1, (apart_nil _).1, (apart_nil _).1⟩

theorem Tri.kept {w w' : World} {base : Nat} {x y z : Value} {s o h : List Int} (t : Tri w base x y z s o h) (k : w.grownBy w' none) : Tri w' base x y z s o h :=
  ⟨t.S.kept k, t.O.kept k, t.H.kept k, t.so, t.sh, t.oh⟩

theorem Tri.wide {w : World} {base b : Nat} {x y z : Value} {s o h : List Int} (t : Tri w base x y z s o h) (k : b ≤ base) : Tri w b x y z s o h :=
  ⟨t.S.wide k, t.O.wide k, t.H.wide k, t.so, t.sh, t.oh⟩

theorem Tri.put {w : World} {p i : Nat} {u x y z : Value} {s o h : List Int} (t : Tri w (p + 1) x y z s o h) : Tri (w.setCell ⟨p, i, none⟩ u) (p + 1) x y z s o h :=
  ⟨t.S.put, t.O.put, t.H.put, t.so, t.sh, t.oh⟩

theorem Mine.putLow {w : World} {q i base : Nat} {u v : Value} {n : Nat} {xs : List Int} (h : Mine w base v n xs) (hq : q < base) : Mine (w.setCell ⟨q, i, none⟩ u) base v n xs :=
  h.kept' (grown_set (World.grownBy.refl w (some q)) u) (fun g hg e => by have := h.own_ge g hg; injection e with e; omega)

theorem Tri.putLow {w : World} {q i base : Nat} {u x y z : Value} {s o h : List Int} (t : Tri w base x y z s o h) (hq : q < base) : Tri (w.setCell ⟨q, i, none⟩ u) base x y z s o h :=
  ⟨t.S.putLow hq, t.O.putLow hq, t.H.putLow hq, t.so, t.sh, t.oh⟩

theorem Tri.store3 {w : World} {q base : Nat} {u v r x y z : Value} {s o h : List Int} (t : Tri w base x y z s o h) (hq : q < base) :
    Tri (((w.setCell ⟨q, 0, none⟩ u).setCell ⟨q, 1, none⟩ v).setCell ⟨q, 2, none⟩ r) base x y z s o h := ((t.putLow hq).putLow hq).putLow hq

theorem Tri.stepS {w w' : World} {base : Nat} {x x' y z : Value} {s s' o h : List Int} (t : Tri w base x y z s o h) (m : Mine w' base x' s'.length s') (k : w.grownBy w' x.ownBlock) (c : x'.ownBlock = x.ownBlock ∨ x'.ownBlock = some w.heap.size) : Tri w' base x' y z s' o h :=
  ⟨m, t.O.kept' k (fun g hg e => t.so g e hg), t.H.kept' k (fun g hg e => t.sh g e hg), apart_new t.so t.O.own_lt c, apart_new t.sh t.H.own_lt c, t.oh⟩

theorem Tri.stepO {w w' : World} {base : Nat} {x y y' z : Value} {s o o' h : List Int} (t : Tri w base x y z s o h) (m : Mine w' base y' o'.length o') (k : w.grownBy w' y.ownBlock) (c : y'.ownBlock = y.ownBlock ∨ y'.ownBlock = some w.heap.size) : Tri w' base x y' z s o' h :=
  ⟨t.S.kept' k (fun g hg e => t.so g hg e), m, t.H.kept' k (fun g hg e => t.oh g e hg), apart_symm (apart_new (apart_symm t.so) t.S.own_lt c), t.sh, apart_new t.oh t.H.own_lt c⟩

theorem Tri.stepH {w w' : World} {base : Nat} {x y z z' : Value} {s o h h' : List Int} (t : Tri w base x y z s o h) (m : Mine w' base z' h'.length h') (k : w.grownBy w' z.ownBlock) (c : z'.ownBlock = z.ownBlock ∨ z'.ownBlock = some w.heap.size) : Tri w' base x y z' s o h' :=
  ⟨t.S.kept' k (fun g hg e => t.sh g hg e), t.O.kept' k (fun g hg e => t.oh g hg e), m, t.so, apart_symm (apart_new (apart_symm t.sh) t.S.own_lt c), apart_symm (apart_new (apart_symm t.oh) t.O.own_lt c)⟩

def ArcPost (w : World) (s o h : List Int) (z : Int) (e : Ending) (w' : World) : Prop :=
  ∃ x y t, e = .returned (.tuple #[.agg #[x, y, t], .int .i64 z]) ∧ Tri w' w.heap.size x y t s o h ∧ w.grownBy w' none

theorem Own.store3 {w : World} {g : Nat} {T : TypeId} {x y z : Value} (h : Own w g T [x, y, z]) (a b c : Value) :
    Own (((w.setCell ⟨g, 0, none⟩ a).setCell ⟨g, 1, none⟩ b).setCell ⟨g, 2, none⟩ c) g T [a, b, c] :=
  ((h.put (i := 0) a).put (i := 1) b).put (i := 2) c

theorem grown_store3 {a w : World} {g : Nat} (h : a.grownBy w none) (hg : a.heap.size ≤ g) (x y z : Value) :
    a.grownBy (((w.setCell ⟨g, 0, none⟩ x).setCell ⟨g, 1, none⟩ y).setCell ⟨g, 2, none⟩ z) none :=
  grown_new (grown_new (grown_new h hg x) hg y) hg z

structure Rows3 (w : World) (B : Nat) (Ax Ay Az : Option Addr) (s o h : List Int) : Prop where
  S : Row w B Ax s.length s
  O : Row w B Ay o.length o
  H : Row w B Az h.length h

theorem Rows3.grown {w w' : World} {B : Nat} {Ax Ay Az : Option Addr} {s o h : List Int} (t : Rows3 w B Ax Ay Az s o h) (hB : B ≤ w.heap.size) (k : w.grownBy w' none) : Rows3 w' B Ax Ay Az s o h :=
  ⟨t.S.grown hB k, t.O.grown hB k, t.H.grown hB k⟩

theorem Tri.rows {w : World} {base : Nat} {x y z : Value} {s o h : List Int} (t : Tri w base x y z s o h) (k1 : okI s) (k2 : okI o) (k3 : okI h) :
    ∃ Ax Ay Az cx cy cz, x = .slice Ax s.length cx ∧ y = .slice Ay o.length cy ∧ z = .slice Az h.length cz ∧ Rows3 w w.heap.size Ax Ay Az s o h := by
  obtain ⟨Ax, cx, h1, _, r1⟩ := t.S.row k1
  obtain ⟨Ay, cy, h2, _, r2⟩ := t.O.row k2
  obtain ⟨Az, cz, h3, _, r3⟩ := t.H.row k3
  exact ⟨Ax, Ay, Az, cx, cy, cz, h1, h2, h3, r1, r2, r3⟩

theorem Tri.rowsAt {w : World} {base : Nat} {Ax Ay Az : Option Addr} {cx cy cz : Nat} {s o h : List Int} (t : Tri w base (.slice Ax s.length cx) (.slice Ay o.length cy) (.slice Az h.length cz) s o h) (k1 : okI s) (k2 : okI o) (k3 : okI h) :
    Rows3 w w.heap.size Ax Ay Az s o h := ⟨t.S.rowAt k1, t.O.rowAt k2, t.H.rowAt k3⟩

theorem Rows3.grown' {w w' : World} {B : Nat} {Ax Ay Az : Option Addr} {s o h : List Int} {row : Option Nat} (t : Rows3 w B Ax Ay Az s o h) (hB : B ≤ w.heap.size) (k : w.grownBy w' row) (hr : ∀ g, row = some g → B ≤ g) : Rows3 w' B Ax Ay Az s o h :=
  ⟨t.S.grown' hB k hr, t.O.grown' hB k hr, t.H.grown' hB k hr⟩

end Go.Proofs.Ytodjehljnmfbpaa

set_option maxRecDepth 20000
namespace Go.Proofs.Ytodjehljnmfbpaa
open Go.RowKit

theorem may_ok {vn n : Nat} {ls : List Lk} (hm : mayG (vn : Nat) ls = true) (hl : ls.length = n) : okI (startsA ls n (vn + 1)) ∧ okI (ordA ls n vn) ∧ okI (headsA ls (2 * n)) := by
  obtain ⟨e1, e2, e3, _⟩ := arc_yes hm
  have h1 := arcS_ok (vn : Nat) ls
  have h2 := arcO_ok (vn : Nat) ls
  have h3 := arcH_ok (vn : Nat) ls
  rw [e1, hl, Int.toNat_natCast] at h1
  rw [e2, hl, Int.toNat_natCast] at h2
  rw [e3, hl] at h3
  exact ⟨h1, h2, h3⟩

end Go.Proofs.Ytodjehljnmfbpaa
