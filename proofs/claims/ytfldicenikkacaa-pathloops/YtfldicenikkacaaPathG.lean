/-
  small and awake of layer 6.
-/
import Derived.Test.YtfldicenikkacaaPathF
namespace Go.Proofs.Ytfldicenikkacaa
open Go.RowKit

theorem small6_any (w : World) : Calls Try.prog 60 #[] w (SmallPost w) := by
  have HB := Lib.hid (box2 (w := w) (T := 24) (U := 45) [.int .i64 3, .slice (some ⟨w.heap.size + 1, 0, none⟩) 3 3] smallV (World.grownBy.refl _ none))
  go_enter Try.func60, Try.ntmps60
  go_wp2
  obtain ⟨g, o1, o2⟩ := HB.out
  exact post_graph rfl rfl o1.two.1 o1.two.2 rfl ⟨w.heap.size + 1, rfl, small_flat ▸ o2, by omega, g⟩

theorem path_small : walkV 3 smallL 0 [0, 1] = [0, 1, 2] ∧ walkE 3 smallL 0 [0, 1] = 0 ∧ walkE 3 smallL 0 [1] = 601 ∧ walkE 3 smallL 0 [3] = 600 ∧ simV 3 smallL 0 [0, 1] = [0, 1] ∧ mayP 3 smallL 0 2 [0, 1] = true ∧ mayP 3 smallL 0 1 [0, 1] = false := by decide

theorem row01 (w : World) : Row (w.alloc (.cells #[.int .i64 0, .int .i64 1] 3)) (w.heap.size + 1) (some ⟨w.heap.size, 0, none⟩) 2 [0, 1] := Row.newAt [0, 1] rfl rfl rfl (by simp) (by simp)
theorem row1 (w : World) : Row (w.alloc (.cells #[.int .i64 1] 3)) (w.heap.size + 1) (some ⟨w.heap.size, 0, none⟩) 1 [1] := Row.newAt [1] rfl rfl rfl (by simp) (by simp)
theorem row3 (w : World) : Row (w.alloc (.cells #[.int .i64 3] 3)) (w.heap.size + 1) (some ⟨w.heap.size, 0, none⟩) 1 [3] := Row.newAt [3] rfl rfl rfl (by simp) (by simp)
theorem row012 (w : World) : Row (w.alloc (.cells #[.int .i64 0, .int .i64 1, .int .i64 2] 3)) (w.heap.size + 1) (some ⟨w.heap.size, 0, none⟩) 3 [0, 1, 2] := Row.newAt [0, 1, 2] rfl rfl rfl (by simp) (by simp)

set_option maxHeartbeats 2000000 in
theorem awake6_any (w : World) : Calls Try.prog 42 #[] w (Says w (.bool true)) := by
  go_enter Try.func42, Try.ntmps42
  go_wp2_with fail
  refine (small6_any _).mono ?_
  rintro e w1 ⟨g1, rfl, o1, _, k1⟩
  have G := Lib.hid (grown_trans k1 (grow0 w1 (.cells #[.int .i64 0, .int .i64 1] 3)))
  have O := Lib.hid (o1.kept (grow0 w1 (.cells #[.int .i64 0, .int .i64 1] 3)))
  clear k1 o1
  go_wp2_with fail
  refine (Walk_any 3 0 (some ⟨g1, 0, none⟩) 3 3 smallL _ 2 2 [0, 1] _ (O.out.lks smallL 3 rfl (by decide) rfl) O.out.lt (row01 w1) (by simp)).mono ?_
  rintro e w2 ⟨va, rfl, ha, k2⟩
  rw [path_small.1] at ha
  rw [path_small.2.1]
  obtain ⟨Aa, ca, rfl, _, hra⟩ := ha.row (ok_of (xs := [0, 1, 2]) (by decide))
  have RA := Lib.hid hra
  have G := Lib.hid (grown_trans G.out k2)
  clear ha hra k2 O
  go_wp2_with fail
  refine (small6_any _).mono ?_
  rintro e w3 ⟨g3, rfl, o3, _, k3⟩
  have k4 := grown_trans k3 (grow0 w3 (.cells #[.int .i64 1] 3))
  have G := Lib.hid (grown_trans G.out k4)
  have RA := Lib.hid (RA.out.grown (Nat.le_refl _) k4)
  have s4 := k4.size
  have O := Lib.hid (o3.kept (grow0 w3 (.cells #[.int .i64 1] 3)))
  clear k3 o3 k4
  go_wp2_with fail
  refine (Walk_any 3 0 (some ⟨g3, 0, none⟩) 3 3 smallL _ 1 1 [1] _ (O.out.lks smallL 3 rfl (by decide) rfl) O.out.lt (row1 w3) (by simp)).mono ?_
  rintro e w4 ⟨vb, rfl, hb, k⟩
  rw [path_small.2.2.1]
  have G := Lib.hid (grown_trans G.out k)
  have RA := Lib.hid (RA.out.grown (by omega) k)
  have s5 := k.size
  clear hb k O
  go_wp2_with fail
  refine (small6_any _).mono ?_
  rintro e w5 ⟨g5, rfl, o5, _, k5⟩
  have k6 := grown_trans k5 (grow0 w5 (.cells #[.int .i64 3] 3))
  have G := Lib.hid (grown_trans G.out k6)
  have RA := Lib.hid (RA.out.grown (by omega) k6)
  have s6 := k6.size
  have O := Lib.hid (o5.kept (grow0 w5 (.cells #[.int .i64 3] 3)))
  clear k5 o5 k6
  go_wp2_with fail
  refine (Walk_any 3 0 (some ⟨g5, 0, none⟩) 3 3 smallL _ 1 1 [3] _ (O.out.lks smallL 3 rfl (by decide) rfl) O.out.lt (row3 w5) (by simp)).mono ?_
  rintro e w6 ⟨vc, rfl, hc, k⟩
  rw [path_small.2.2.2.1]
  have G := Lib.hid (grown_trans G.out k)
  have RA := Lib.hid (RA.out.grown (by omega) k)
  have s7 := k.size
  clear hc k O
  go_wp2_with fail
  refine (small6_any _).mono ?_
  rintro e w7 ⟨g7, rfl, o7, _, k7⟩
  have k8 := grown_trans k7 (grow0 w7 (.cells #[.int .i64 0, .int .i64 1] 3))
  have G := Lib.hid (grown_trans G.out k8)
  have RA := Lib.hid (RA.out.grown (by omega) k8)
  have s8 := k8.size
  have O := Lib.hid (o7.kept (grow0 w7 (.cells #[.int .i64 0, .int .i64 1] 3)))
  clear k7 o7 k8
  go_wp2_with fail
  refine (Simple_any 3 0 (some ⟨g7, 0, none⟩) 3 3 smallL _ 2 2 [0, 1] _ (O.out.lks smallL 3 rfl (by decide) rfl) O.out.lt (row01 w7) (by simp)).mono ?_
  rintro e w8 ⟨vd, rfl, hd, k⟩
  rw [path_small.2.2.2.2.1] at hd
  rw [path_small.2.1]
  obtain ⟨Ad, cd, rfl, _, hrd⟩ := hd.row (ok_of (xs := [0, 1]) (by decide))
  have RD := Lib.hid hrd
  have G := Lib.hid (grown_trans G.out k)
  have RA := Lib.hid (RA.out.grown (by omega) k)
  have s9 := k.size
  clear hd hrd k O
  go_wp2_with fail
  refine (SameInts0_any Aa 3 ca [0, 1, 2] _ 3 3 [0, 1, 2] _ (RA.out.grown (by omega) (grow0 _ _)) (row012 w8)).mono ?_
  rintro e w9 ⟨rfl, j9, rfl⟩
  have e1 : sameB [0, 1, 2] [0, 1, 2] = true := by decide
  rw [e1]
  have k9 : w8.grownBy ((w8.alloc (.cells #[.int .i64 0, .int .i64 1, .int .i64 2] 3)).drewN j9) none := grown_drewN (grow0 _ _) _
  have G := Lib.hid (grown_trans G.out k9)
  have RD := Lib.hid (RD.out.grown (Nat.le_refl _) k9)
  have s10 := k9.size
  clear RA e1 k9
  generalize (w8.alloc (.cells #[.int .i64 0, .int .i64 1, .int .i64 2] 3)).drewN j9 = w9 at *
  go_wp2_with fail
  refine (Num0_any _ _).mono ?_
  rintro e w10 ⟨rfl, rfl⟩
  go_wp2_with fail
  refine (Num0_any _ _).mono ?_
  rintro e w10 ⟨rfl, rfl⟩
  go_wp2_with fail
  refine (Num0_any _ _).mono ?_
  rintro e w10 ⟨rfl, rfl⟩
  go_wp2_with fail
  refine (SameInts0_any Ad 2 cd [0, 1] _ 2 2 [0, 1] _ (RD.out.grown (by omega) (grow0 _ _)) (row01 w9)).mono ?_
  rintro e w11 ⟨rfl, j11, rfl⟩
  have e1 : sameB [0, 1] [0, 1] = true := by decide
  rw [e1]
  have k9 : w9.grownBy ((w9.alloc (.cells #[.int .i64 0, .int .i64 1] 3)).drewN j11) none := grown_drewN (grow0 _ _) _
  have G := Lib.hid (grown_trans G.out k9)
  clear RD e1 k9
  generalize (w9.alloc (.cells #[.int .i64 0, .int .i64 1] 3)).drewN j11 = w11 at *
  go_wp2_with fail
  refine (Num0_any _ _).mono ?_
  rintro e w10 ⟨rfl, rfl⟩
  go_wp2_with fail
  refine (small6_any _).mono ?_
  rintro e w12 ⟨g12, rfl, o12, _, k12⟩
  have G := Lib.hid (grown_trans G.out (grown_trans k12 (grow0 w12 (.cells #[.int .i64 0, .int .i64 1] 3))))
  have O := Lib.hid (o12.kept (grow0 w12 (.cells #[.int .i64 0, .int .i64 1] 3)))
  clear k12 o12
  go_wp2_with fail
  refine (PMay_any 3 0 2 (some ⟨g12, 0, none⟩) 3 3 smallL _ 2 2 [0, 1] _ (O.out.lks smallL 3 rfl (by decide) rfl) O.out.lt (row01 w12) (by simp)).mono ?_
  rintro e w13 ⟨rfl, k⟩
  rw [path_small.2.2.2.2.2.1]
  have G := Lib.hid (grown_trans G.out k)
  clear k O
  go_wp2_with fail
  refine (small6_any _).mono ?_
  rintro e w14 ⟨g14, rfl, o14, _, k14⟩
  have G := Lib.hid (grown_trans G.out (grown_trans k14 (grow0 w14 (.cells #[.int .i64 0, .int .i64 1] 3))))
  have O := Lib.hid (o14.kept (grow0 w14 (.cells #[.int .i64 0, .int .i64 1] 3)))
  clear k14 o14
  go_wp2_with fail
  refine (PMay_any 3 0 1 (some ⟨g14, 0, none⟩) 3 3 smallL _ 2 2 [0, 1] _ (O.out.lks smallL 3 rfl (by decide) rfl) O.out.lt (row01 w14) (by simp)).mono ?_
  rintro e w15 ⟨rfl, k⟩
  rw [path_small.2.2.2.2.2.2]
  have G := Lib.hid (grown_trans G.out k)
  clear k O
  go_wp2
  go_ret
  exact ⟨rfl, G.out⟩

end Go.Proofs.Ytfldicenikkacaa
