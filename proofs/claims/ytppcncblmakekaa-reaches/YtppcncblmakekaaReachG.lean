/-
  What every program answers that is one: layer 13's awake.
-/
import Derived.Test.YtppcncblmakekaaReachP
import Derived.Test.YtppcncblmakekaaBlocks
set_option maxRecDepth 20000
namespace Go.Proofs.Ytppcncblmakekaa
open Go.RowKit

theorem small13_any (w : World) : Calls Try.prog 26 #[] w (SmallPost w) := by
  have HB := Lib.hid (box2 (w := w) (T := 24) (U := 57) [.int .i64 3, .slice (some ⟨w.heap.size + 1, 0, none⟩) 3 3] smallV (World.grownBy.refl _ none))
  go_enter Try.func26, Try.ntmps26
  go_wp2
  obtain ⟨g, o1, o2⟩ := HB.out
  exact post_graph rfl rfl o1.two.1 o1.two.2 rfl ⟨w.heap.size + 1, rfl, small_flat ▸ o2, by omega, g⟩

theorem small_v13 {v : Int} (h : inV 3 v) : v = 0 ∨ v = 1 ∨ v = 2 := by have := h.1; have := h.2; omega

theorem lv_small13 : LvIs 3 smallL [5, 4, 3] [4, 4, 3] 0 [0, 1, -1] 0 := by
  refine .inl ⟨by decide, rfl, rfl, by decide, fun v hv => ?_, fun v hv => ?_, fun u v h => ?_, fun v hv => ?_⟩
  · rcases small_v13 hv with rfl | rfl | rfl <;> decide
  · rcases small_v13 hv with rfl | rfl | rfl <;> decide
  · obtain ⟨a, ha, rfl, rfl, hr⟩ := h
    have ha : a < 6 := ha
    rcases (show a = 0 ∨ a = 1 ∨ a = 2 ∨ a = 3 ∨ a = 4 ∨ a = 5 by omega) with rfl | rfl | rfl | rfl | rfl | rfl <;> revert hr <;> decide
  · rcases small_v13 hv with rfl | rfl | rfl
    · exact fun h => absurd h (by decide)
    · exact fun _ => ⟨0, ⟨0, by decide, by decide, by decide, by decide⟩, by decide⟩
    · exact fun h => absurd h (by decide)

theorem ReachS {w0 w : World} {gs gc gf : Nat} {os : List (Nat × TypeId × List Value)} (mc : (gc, 3, ints [5, 4, 3]) ∈ os) (mf : (gf, 3, ints [4, 4, 3]) ∈ os) (h : SB w0 w os) (ms : (gs, 57, linkE.flat smallL) ∈ os) :
    Calls Try.prog 7 #[.agg #[.int .i64 3, .slice (some ⟨gs, 0, none⟩) 3 3], .slice (some ⟨gc, 0, none⟩) 3 3, .slice (some ⟨gf, 0, none⟩) 3 3, .int .i64 0] w (SelPost w [0, 1] 0) :=
  Reach_any 3 0 _ 3 3 smallL _ 3 3 [5, 4, 3] _ 3 3 [4, 4, 3] w (h.lks ms) (Nat.le_refl _) (h.row [5, 4, 3] mc rfl (by decide) (by decide)) (Nat.le_refl _) (h.row [4, 4, 3] mf rfl (by decide) (by decide)) (Nat.le_refl _) [0, 1, -1] 0 lv_small13

theorem ShutS {w0 w : World} {gs gc gf : Nat} {os : List (Nat × TypeId × List Value)} (t : Int) (mc : (gc, 3, ints [5, 4, 3]) ∈ os) (mf : (gf, 3, ints [4, 4, 3]) ∈ os) (h : SB w0 w os) (ms : (gs, 57, linkE.flat smallL) ∈ os) :
    Calls Try.prog 9 #[.agg #[.int .i64 3, .slice (some ⟨gs, 0, none⟩) 3 3], .slice (some ⟨gc, 0, none⟩) 3 3, .slice (some ⟨gf, 0, none⟩) 3 3, .int .i64 0, .int .i64 t] w (Says w (.tuple #[.bool (shutB 3 [0, 1, -1] 0 t), .int .i64 (shutE 3 0 t)])) :=
  Shut_any 3 0 t _ 3 3 smallL _ 3 3 [5, 4, 3] _ 3 3 [4, 4, 3] w (h.lks ms) (Nat.le_refl _) (h.row [5, 4, 3] mc rfl (by decide) (by decide)) (Nat.le_refl _) (h.row [4, 4, 3] mf rfl (by decide) (by decide)) (Nat.le_refl _) [0, 1, -1] 0 lv_small13

theorem shut_small : shutB 3 [0, 1, -1] 0 2 = true ∧ shutE 3 0 2 = 0 ∧ shutB 3 [0, 1, -1] 0 1 = false ∧ shutE 3 0 1 = 0 ∧ shutB 3 [0, 1, -1] 0 3 = false ∧ shutE 3 0 3 = 1300 := by decide

set_option maxHeartbeats 4000000 in
theorem awake13_any (w : World) : Calls Try.prog 14 #[] w (Says w (.bool true)) := by
  have HS : Hid (SB w w []) := ⟨World.grownBy.refl w none, StS.nil _⟩
  obtain ⟨a1, a2, a3, a4, a5, a6⟩ := shut_small
  have H1 := Lib.hid a1
  have H2 := Lib.hid a2
  have H3 := Lib.hid a3
  have H4 := Lib.hid a4
  have H5 := Lib.hid a5
  have H6 := Lib.hid a6
  clear a1 a2 a3 a4 a5 a6
  go_enter Try.func14, Try.ntmps14
  go_wp2_with fail
  refine (small13_any _).mono ?_
  rintro e w1 ⟨gs1, rfl, os, _, k⟩
  have HS := Lib.hid ((HS.out.kept k).cons os)
  clear os k
  go_wp2_with fail
  refine (ReachS (by simp [ints]) (by simp [ints]) HS.out.lit.lit (by simp)).mono ?_
  rintro e w2 ⟨va, rfl, ha, k⟩
  obtain ⟨Aa, ca, rfl, _, ra⟩ := ha.row (ok_of (xs := [0, 1]) (by decide))
  have RA := Lib.hid ra
  have HG2 := Lib.hid (World.grownBy.refl w2 none)
  have HS := Lib.hid (HS.out.lit.lit.kept k).less
  clear k ra ha
  go_wp2_with fail
  refine (small13_any _).mono ?_
  rintro e w3 ⟨gs3, rfl, os, _, k⟩
  have HS := Lib.hid ((HS.out.kept k).cons os)
  have HG2 := Lib.hid (grown_trans HG2.out k)
  clear os k
  go_wp2_with fail
  refine (ShutS 2 (by simp [ints]) (by simp [ints]) HS.out.lit.lit (by simp)).mono ?_
  rintro e w4 ⟨he, k⟩
  rw [H1.out, H2.out] at he
  subst he
  have HG2 := Lib.hid (grown_trans (grown_alloc (grown_alloc HG2.out _) _) k)
  have HS := Lib.hid (HS.out.lit.lit.kept k).less
  clear k
  go_wp2_with fail
  refine (small13_any _).mono ?_
  rintro e w5 ⟨gs5, rfl, os, _, k⟩
  have HS := Lib.hid ((HS.out.kept k).cons os)
  have HG2 := Lib.hid (grown_trans HG2.out k)
  clear os k
  go_wp2_with fail
  refine (ShutS 1 (by simp [ints]) (by simp [ints]) HS.out.lit.lit (by simp)).mono ?_
  rintro e w6 ⟨he, k⟩
  rw [H3.out, H4.out] at he
  subst he
  have HG2 := Lib.hid (grown_trans (grown_alloc (grown_alloc HG2.out _) _) k)
  have HS := Lib.hid (HS.out.lit.lit.kept k).less
  clear k
  go_wp2_with fail
  refine (small13_any _).mono ?_
  rintro e w7 ⟨gs7, rfl, os, _, k⟩
  have HS := Lib.hid ((HS.out.kept k).cons os)
  have HG2 := Lib.hid (grown_trans HG2.out k)
  clear os k
  go_wp2_with fail
  refine (ShutS 3 (by simp [ints]) (by simp [ints]) HS.out.lit.lit (by simp)).mono ?_
  rintro e w8 ⟨he, k⟩
  rw [H5.out, H6.out] at he
  subst he
  have HG2 := Lib.hid (grown_trans (grown_alloc (grown_alloc HG2.out _) _) k)
  have HS := Lib.hid (HS.out.lit.lit.kept k).less
  clear k
  go_wp2_with fail
  refine (SameS RA.out HS.out.lit (Nat.le_refl _) (grown_alloc HG2.out _) (by simp [ints]) rfl (by decide) (by decide)).mono ?_
  rintro e w9 ⟨rfl, k⟩
  have HS := Lib.hid (HS.out.lit.kept k).less
  clear k HG2 RA
  go_wp2_with fail
  refine (num_says _ _).mono ?_
  rintro e wa ⟨rfl, k⟩
  have HS := Lib.hid (HS.out.kept k)
  clear k
  go_wp2_with fail
  refine (num_says _ _).mono ?_
  rintro e wb ⟨rfl, k⟩
  have HS := Lib.hid (HS.out.kept k)
  clear k
  go_wp2_with fail
  refine (num_says _ _).mono ?_
  rintro e wc ⟨rfl, k⟩
  have HS := Lib.hid (HS.out.kept k)
  clear k
  go_wp2_with fail
  refine (num_says _ _).mono ?_
  rintro e wd ⟨rfl, k⟩
  have HS := Lib.hid (HS.out.kept k)
  clear k
  go_wp2
  go_ret
  exact ⟨rfl, HS.out.g⟩

end Go.Proofs.Ytppcncblmakekaa
