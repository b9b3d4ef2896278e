/-
  SameArcs; small and awake of layer 5.
-/
import Derived.Test.YtfldicenikkacaaArcsE
namespace Go.Proofs.Ytfldicenikkacaa
open Go.RowKit

structure Rows3 (w : World) (B : Nat) (Ax Ay Az : Option Addr) (s o h : List Int) : Prop where
  S : Row w B Ax s.length s
  O : Row w B Ay o.length o
  H : Row w B Az h.length h

theorem Rows3.grown {w w' : World} {B : Nat} {Ax Ay Az : Option Addr} {s o h : List Int} (t : Rows3 w B Ax Ay Az s o h) (hB : B ≤ w.heap.size) (k : w.grownBy w' none) : Rows3 w' B Ax Ay Az s o h :=
  ⟨t.S.grown hB k, t.O.grown hB k, t.H.grown hB k⟩

def okI (xs : List Int) : Prop := ∀ i : Nat, -9223372036854775808 ≤ xs[i]?.getD 0 ∧ xs[i]?.getD 0 ≤ 9223372036854775807

theorem Tri.rows {w : World} {base : Nat} {x y z : Value} {s o h : List Int} (t : Tri w base x y z s o h) (k1 : okI s) (k2 : okI o) (k3 : okI h) :
    ∃ Ax Ay Az cx cy cz, x = .slice Ax s.length cx ∧ y = .slice Ay o.length cy ∧ z = .slice Az h.length cz ∧ Rows3 w w.heap.size Ax Ay Az s o h := by
  obtain ⟨Ax, cx, h1, _, r1⟩ := t.S.row k1
  obtain ⟨Ay, cy, h2, _, r2⟩ := t.O.row k2
  obtain ⟨Az, cz, h3, _, r3⟩ := t.H.row k3
  exact ⟨Ax, Ay, Az, cx, cy, cz, h1, h2, h3, r1, r2, r3⟩

theorem SameArcs_same (s o h : List Int) (Ax Ay Az Bx By Bz : Option Addr) (cx cy cz dx dy dz ns no nh : Nat) (w : World) {B B' : Nat} (k : Rows3 w B Ax Ay Az s o h) (k' : Rows3 w B' Bx By Bz s o h) (hB : B ≤ w.heap.size) (hB' : B' ≤ w.heap.size)
    (e1 : ns = s.length) (e2 : no = o.length) (e3 : nh = h.length) :
    Calls Try.prog 34 #[.agg #[.slice Ax ns cx, .slice Ay no cy, .slice Az nh cz], .agg #[.slice Bx ns dx, .slice By no dy, .slice Bz nh dz]] w (Says w (.bool true)) := by
  subst e1 e2 e3
  obtain ⟨g, o1, o2⟩ := box2 [.slice Ax s.length cx, .slice Ay o.length cy, .slice Az h.length cz] [.slice Bx s.length dx, .slice By o.length dy, .slice Bz h.length dz] (World.grownBy.refl ((w.alloc (.cells #[.slice Ax s.length cx, .slice Ay o.length cy, .slice Az h.length cz] 48)).alloc (.cells #[.slice Bx s.length dx, .slice By o.length dy, .slice Bz h.length dz] 48)) none)
  have K := Lib.hid k
  have K' := Lib.hid k'
  have C1 : Hid (∀ wx : World, w.grownBy wx none → Calls Try.prog 24 #[.slice Ax s.length cx, .slice Bx s.length dx] wx (Says wx (.bool true))) := fun wx g => sameB_refl s ▸ same_says (SameInts0_any Ax s.length cx s Bx s.length dx s wx (K.out.S.grown hB g) (K'.out.S.grown hB' g))
  have C2 : Hid (∀ wx : World, w.grownBy wx none → Calls Try.prog 24 #[.slice Ay o.length cy, .slice By o.length dy] wx (Says wx (.bool true))) := fun wx g => sameB_refl o ▸ same_says (SameInts0_any Ay o.length cy o By o.length dy o wx (K.out.O.grown hB g) (K'.out.O.grown hB' g))
  have C3 : Hid (∀ wx : World, w.grownBy wx none → Calls Try.prog 24 #[.slice Az h.length cz, .slice Bz h.length dz] wx (Says wx (.bool true))) := fun wx g => sameB_refl h ▸ same_says (SameInts0_any Az h.length cz h Bz h.length dz h wx (K.out.H.grown hB g) (K'.out.H.grown hB' g))
  clear k k'
  generalize s.length = ns at *
  generalize o.length = no at *
  generalize h.length = nh at *
  go_enter Try.func34, Try.ntmps34
  go_upto_region 1 with fail
  generalize (w.alloc (.cells #[.slice Ax ns cx, .slice Ay no cy, .slice Az nh cz] 48)).alloc (.cells #[.slice Bx ns dx, .slice By no dy, .slice Bz nh dz] 48) = w2 at *
  obtain ⟨c0, c1, c2⟩ := o1.three
  obtain ⟨d0, d1, d2⟩ := o2.three
  have G := Lib.hid g
  have O1 := Lib.hid o1
  have O2 := Lib.hid o2
  clear g o1 o2
  go_wp2_with fail
  refine (C1.out _ G.out).mono ?_
  rintro e w3 ⟨rfl, g⟩
  have G := Lib.hid (grown_trans G.out g)
  have O1 := Lib.hid (O1.out.kept g)
  have O2 := Lib.hid (O2.out.kept g)
  clear g c0 c1 c2 d0 d1 d2
  obtain ⟨c0, c1, c2⟩ := O1.out.three
  obtain ⟨d0, d1, d2⟩ := O2.out.three
  go_wp2_with fail
  refine (C2.out _ G.out).mono ?_
  rintro e w4 ⟨rfl, g⟩
  have G := Lib.hid (grown_trans G.out g)
  have O1 := Lib.hid (O1.out.kept g)
  have O2 := Lib.hid (O2.out.kept g)
  clear g c0 c1 c2 d0 d1 d2
  obtain ⟨c0, c1, c2⟩ := O1.out.three
  obtain ⟨d0, d1, d2⟩ := O2.out.three
  go_wp2_with fail
  refine (C3.out _ G.out).mono ?_
  rintro e w5 ⟨rfl, g⟩
  have G := Lib.hid (grown_trans G.out g)
  clear g c0 c1 c2 d0 d1 d2
  go_wp2
  go_ret
  exact ⟨rfl, G.out⟩

theorem small5_any (w : World) : Calls Try.prog 36 #[] w (SmallPost w) := by
  have HB := Lib.hid (box2 (w := w) (T := 24) (U := 45) [.int .i64 3, .slice (some ⟨w.heap.size + 1, 0, none⟩) 3 3] smallV (World.grownBy.refl _ none))
  go_enter Try.func36, Try.ntmps36
  go_wp2
  obtain ⟨g, o1, o2⟩ := HB.out
  exact post_graph rfl rfl o1.two.1 o1.two.2 rfl ⟨w.heap.size + 1, rfl, small_flat ▸ o2, by omega, g⟩

theorem arc_small : arcS 3 smallL = [0, 2, 4, 6] ∧ arcO 3 smallL = [0, 4, 1, 2, 3, 5] ∧ arcH 3 smallL = [1, 0, 2, 1, 2, 0] ∧ arcE 3 smallL = 0 := by decide
theorem row_small : rowOf 3 smallL 1 = [1, 2] ∧ rowE 3 smallL 1 = 0 ∧ rowE 3 smallL (-1) = 500 := by decide

theorem okI_of {xs : List Int} (h : xs.all bdB = true) : okI xs := fun i => ok_of h i

set_option maxHeartbeats 2000000 in
theorem awake5_any (w : World) : Calls Try.prog 35 #[] w (Says w (.bool true)) := by
  go_enter Try.func35, Try.ntmps35
  go_wp2_with fail
  refine (small5_any _).mono ?_
  rintro e w1 ⟨g1, rfl, o1, _, k1⟩
  have G := Lib.hid k1
  go_wp2_with fail
  refine (Build_any 3 (some ⟨g1, 0, none⟩) 3 3 smallL _ (o1.lks smallL 3 rfl (by decide) rfl) o1.lt).mono ?_
  rintro e w2 ⟨x, y, z, rfl, t2, k2⟩
  rw [arc_small.1, arc_small.2.1, arc_small.2.2.1] at t2
  rw [arc_small.2.2.2]
  obtain ⟨Ax, Ay, Az, cx, cy, cz, rfl, rfl, rfl, r2⟩ := t2.rows (okI_of rfl) (okI_of rfl) (okI_of rfl)
  have G := Lib.hid (grown_alloc (grown_trans G.out k2) (.cells #[.slice Ax 4 cx, .slice Ay 6 cy, .slice Az 6 cz] 48))
  have OA : Hid (Own (w2.alloc (.cells #[.slice Ax 4 cx, .slice Ay 6 cy, .slice Az 6 cz] 48)) _ _ _) := Own.new w2 48 [.slice Ax 4 cx, .slice Ay 6 cy, .slice Az 6 cz]
  have RA := Lib.hid (r2.grown (Nat.le_refl _) (grow0 _ (.cells #[.slice Ax 4 cx, .slice Ay 6 cy, .slice Az 6 cz] 48)))
  clear t2 k2 r2 o1 k1
  go_wp2_with fail
  refine (small5_any _).mono ?_
  rintro e w3 ⟨g3, rfl, o3, _, k3⟩
  have RA := Lib.hid (RA.out.grown (by simp) k3)
  have OA := Lib.hid (OA.out.kept k3)
  have G := Lib.hid (grown_trans G.out k3)
  have s3 : w2.heap.size + 1 ≤ w3.heap.size := by have := k3.size; simpa using this
  clear k3
  go_wp2_with fail
  refine (Row_any 3 1 (some ⟨g3, 0, none⟩) 3 3 smallL _ (o3.lks smallL 3 rfl (by decide) rfl) o3.lt).mono ?_
  rintro e w4 ⟨vb, rfl, hb, k4⟩
  rw [row_small.2.1]
  rw [row_small.1] at hb
  obtain ⟨A4, c4, rfl, _, rb⟩ := hb.row (ok_of (xs := [1, 2]) (by decide))
  have RA := Lib.hid (RA.out.grown (by omega) k4)
  have OA := Lib.hid (OA.out.kept k4)
  have RB := Lib.hid rb
  have G := Lib.hid (grown_trans G.out k4)
  have s4 := k4.size
  clear hb rb k4 o3
  go_wp2_with fail
  refine (small5_any _).mono ?_
  rintro e w5 ⟨g5, rfl, o5, _, k5⟩
  have RA := Lib.hid (RA.out.grown (by omega) k5)
  have OA := Lib.hid (OA.out.kept k5)
  have RB := Lib.hid (RB.out.grown (Nat.le_refl _) k5)
  have G := Lib.hid (grown_trans G.out k5)
  have s5 := k5.size
  clear k5
  go_wp2_with fail
  refine (Row_any 3 (-1) (some ⟨g5, 0, none⟩) 3 3 smallL _ (o5.lks smallL 3 rfl (by decide) rfl) o5.lt).mono ?_
  rintro e w6 ⟨vc, rfl, _, k6⟩
  rw [row_small.2.2]
  have RA := Lib.hid (RA.out.grown (by omega) k6)
  have OA := Lib.hid (OA.out.kept k6)
  have RB := Lib.hid (RB.out.grown (by omega) k6)
  have G := Lib.hid (grown_trans G.out k6)
  have s6 := k6.size
  clear k6 o5
  obtain ⟨q0, q1, q2⟩ := OA.out.three
  go_wp2_with fail
  refine (Num0_any _ _).mono ?_
  rintro e w7 ⟨rfl, rfl⟩
  have RX := Lib.hid (Row.newAt (w := w6) (g := w6.heap.size) (n := 4) (vs := #[.int .i64 0, .int .i64 2, .int .i64 4, .int .i64 6]) [0, 2, 4, 6] rfl rfl rfl (by simp) (by simp))
  have k7 := grow0 w6 (.cells #[.int .i64 0, .int .i64 2, .int .i64 4, .int .i64 6] 3)
  have RY := Lib.hid (Row.newAt (w := w6.alloc (.cells #[.int .i64 0, .int .i64 2, .int .i64 4, .int .i64 6] 3)) (g := w6.heap.size + 1) (n := 6) (vs := #[.int .i64 0, .int .i64 4, .int .i64 1, .int .i64 2, .int .i64 3, .int .i64 5]) [0, 4, 1, 2, 3, 5] (by simp) rfl rfl (by simp) (by simp))
  have k8 := grow0 (w6.alloc (.cells #[.int .i64 0, .int .i64 2, .int .i64 4, .int .i64 6] 3)) (.cells #[.int .i64 0, .int .i64 4, .int .i64 1, .int .i64 2, .int .i64 3, .int .i64 5] 3)
  have RZ := Lib.hid (Row.newAt (w := (w6.alloc (.cells #[.int .i64 0, .int .i64 2, .int .i64 4, .int .i64 6] 3)).alloc (.cells #[.int .i64 0, .int .i64 4, .int .i64 1, .int .i64 2, .int .i64 3, .int .i64 5] 3)) (g := w6.heap.size + 1 + 1) (n := 6) (vs := #[.int .i64 1, .int .i64 0, .int .i64 2, .int .i64 1, .int .i64 2, .int .i64 0]) [1, 0, 2, 1, 2, 0] (by simp) rfl rfl (by simp) (by simp))
  have k9 := grow0 ((w6.alloc (.cells #[.int .i64 0, .int .i64 2, .int .i64 4, .int .i64 6] 3)).alloc (.cells #[.int .i64 0, .int .i64 4, .int .i64 1, .int .i64 2, .int .i64 3, .int .i64 5] 3)) (.cells #[.int .i64 1, .int .i64 0, .int .i64 2, .int .i64 1, .int .i64 2, .int .i64 0] 3)
  have K := Lib.hid (grown_trans (grown_trans k7 k8) k9)
  have RL : Hid (Rows3 (((w6.alloc (.cells #[.int .i64 0, .int .i64 2, .int .i64 4, .int .i64 6] 3)).alloc (.cells #[.int .i64 0, .int .i64 4, .int .i64 1, .int .i64 2, .int .i64 3, .int .i64 5] 3)).alloc (.cells #[.int .i64 1, .int .i64 0, .int .i64 2, .int .i64 1, .int .i64 2, .int .i64 0] 3)) (w6.heap.size + 3) (some ⟨w6.heap.size, 0, none⟩) (some ⟨w6.heap.size + 1, 0, none⟩) (some ⟨w6.heap.size + 1 + 1, 0, none⟩) [0, 2, 4, 6] [0, 4, 1, 2, 3, 5] [1, 0, 2, 1, 2, 0]) :=
    ⟨((RX.out.grown (by simp) (grown_trans k8 k9)).wide (by omega)), (RY.out.grown (by simp) k9).wide (by omega), RZ.out.wide (by omega)⟩
  clear RX RY RZ k7 k8 k9
  have q0 := kept K.out q0
  have q1 := kept K.out q1
  have q2 := kept K.out q2
  go_wp2_with fail
  refine (SameArcs_same [0, 2, 4, 6] [0, 4, 1, 2, 3, 5] [1, 0, 2, 1, 2, 0] _ _ _ _ _ _ _ _ _ _ _ _ 4 6 6 _ (RA.out.grown (by omega) K.out) RL.out (by simp; omega) (by simp) rfl rfl rfl).mono ?_
  rintro e w8 ⟨rfl, k⟩
  have G := Lib.hid (grown_trans (grown_trans G.out K.out) k)
  have RB := Lib.hid (RB.out.grown (by omega) (grown_trans K.out k))
  have s8 := (grown_trans K.out k).size
  clear RA RL K k q0 q1 q2 OA
  have RX := Lib.hid (Row.newAt (w := w8) (g := w8.heap.size) (n := 2) (vs := #[.int .i64 1, .int .i64 2]) [1, 2] rfl rfl rfl (by simp) (by simp))
  go_wp2_with fail
  refine (SameInts0_any A4 2 c4 [1, 2] _ 2 2 [1, 2] _ (RB.out.grown (by omega) (grow0 _ _)) RX.out).mono ?_
  rintro e w14 ⟨rfl, j14, rfl⟩
  have e1 : sameB [1, 2] [1, 2] = true := by decide
  rw [e1]
  have G : Hid (w.grownBy ((w8.alloc (.cells #[.int .i64 1, .int .i64 2] 3)).drewN j14) none) := grown_drewN (grown_alloc G.out _) _
  clear RX RB e1
  generalize (w8.alloc (.cells #[.int .i64 1, .int .i64 2] 3)).drewN j14 = w14 at *
  go_wp2_with fail
  refine (Num0_any _ _).mono ?_
  rintro e w15 ⟨rfl, rfl⟩
  go_wp2_with fail
  refine (Num0_any _ _).mono ?_
  rintro e w15 ⟨rfl, rfl⟩
  go_wp2
  go_ret
  exact ⟨rfl, G.out⟩

end Go.Proofs.Ytfldicenikkacaa
