/-
  What every program answers that is one: layer 8's awake.
-/
import Derived.Test.YtmodkhcfihlhgaaSideF
import Derived.Test.YtmodkhcfihlhgaaBlocks
namespace Go.Proofs.Ytmodkhcfihlhgaa
open Go.RowKit

theorem small8_any (w : World) : Calls Try.prog 73 #[] w (SmallPost w) := by
  have HB := Lib.hid (box2 (w := w) (T := 24) (U := 87) [.int .i64 3, .slice (some ⟨w.heap.size + 1, 0, none⟩) 3 3] smallV (World.grownBy.refl _ none))
  go_enter Try.func73, Try.ntmps73
  go_wp2
  obtain ⟨g, o1, o2⟩ := HB.out
  exact post_graph rfl rfl o1.two.1 o1.two.2 rfl ⟨w.heap.size + 1, rfl, small_flat ▸ o2, by omega, g⟩

theorem LeavS {w0 w : World} {gs gv n : Nat} {os : List (Nat × TypeId × List Value)} (vs : List Int) (hn : n = vs.length) (hl : vs.length ≤ 1000) (hb : vs.all bdB = true) (h : SB w0 w os) (ms : (gs, 87, linkE.flat smallL) ∈ os) (mv : (gv, 3, ints vs) ∈ os) :
    Calls Try.prog 32 #[.agg #[.int .i64 3, .slice (some ⟨gs, 0, none⟩) 3 3], .slice (some ⟨gv, 0, none⟩) n n] w (SelPost w (leavV 3 smallL vs) (leavE 3 smallL vs)) :=
  Leaving_any 3 _ 3 3 smallL _ n n vs w (h.lks ms) (Nat.le_refl _) (h.row vs mv hn hl hb) (Nat.le_refl _)

theorem MayS {w0 w : World} {gs gv n : Nat} {os : List (Nat × TypeId × List Value)} {s t : Int} (vs : List Int) (hn : n = vs.length) (hl : vs.length ≤ 1000) (hb : vs.all bdB = true) (h : SB w0 w os) (ms : (gs, 87, linkE.flat smallL) ∈ os) (mv : (gv, 3, ints vs) ∈ os) :
    Calls Try.prog 34 #[.agg #[.int .i64 3, .slice (some ⟨gs, 0, none⟩) 3 3], .int .i64 s, .int .i64 t, .slice (some ⟨gv, 0, none⟩) n n] w (Says w (.bool (cutB 3 smallL s t vs))) :=
  SMay_any 3 s t _ 3 3 smallL _ n n vs w (h.lks ms) (Nat.le_refl _) (h.row vs mv hn hl hb) (Nat.le_refl _)

theorem WorthS {w0 w : World} {gs gc gv p n : Nat} {os : List (Nat × TypeId × List Value)} (caps vs : List Int) (hp : p = caps.length) (kl : caps.length ≤ 1000) (kb : caps.all bdB = true) (hn : n = vs.length) (hl : vs.length ≤ 1000) (hb : vs.all bdB = true) (h : SB w0 w os) (ms : (gs, 87, linkE.flat smallL) ∈ os) (mc : (gc, 3, ints caps) ∈ os) (mv : (gv, 3, ints vs) ∈ os) :
    Calls Try.prog 37 #[.agg #[.int .i64 3, .slice (some ⟨gs, 0, none⟩) 3 3], .slice (some ⟨gc, 0, none⟩) p p, .slice (some ⟨gv, 0, none⟩) n n] w (Says w (wthV 3 smallL caps vs)) :=
  Worth_any 3 _ 3 3 smallL _ p p caps _ n n vs w (h.lks ms) (Nat.le_refl _) (h.row caps mc hp kl kb) (Nat.le_refl _) (h.row vs mv hn hl hb) (Nat.le_refl _)

theorem ProvesS {w0 w : World} {gs gc gv p n : Nat} {os : List (Nat × TypeId × List Value)} {s t R : Int} (caps vs : List Int) (hp : p = caps.length) (kl : caps.length ≤ 1000) (kb : caps.all bdB = true) (hn : n = vs.length) (hl : vs.length ≤ 1000) (hb : vs.all bdB = true) (h : SB w0 w os) (ms : (gs, 87, linkE.flat smallL) ∈ os) (mc : (gc, 3, ints caps) ∈ os) (mv : (gv, 3, ints vs) ∈ os) :
    Calls Try.prog 39 #[.agg #[.int .i64 3, .slice (some ⟨gs, 0, none⟩) 3 3], .slice (some ⟨gc, 0, none⟩) p p, .int .i64 s, .int .i64 t, .int .i64 R, .slice (some ⟨gv, 0, none⟩) n n] w (Says w (prvV 3 smallL caps s t R vs)) :=
  Proves_any 3 s t R _ 3 3 smallL _ p p caps _ n n vs w (h.lks ms) (Nat.le_refl _) (h.row caps mc hp kl kb) (Nat.le_refl _) (h.row vs mv hn hl hb) (Nat.le_refl _)

theorem cut_small : leavV 3 smallL [0, 1] = [1, 2] ∧ leavE 3 smallL [0, 1] = 0 ∧ leavE 3 smallL [1, 0] = 800 ∧ worthX 3 smallL [5, 4, 3] [0, 1] = 7 ∧ worthE 3 smallL [5, 4, 3] [0, 1] = 0 ∧ provE 3 smallL [5, 4, 3] = 0 ∧ provB 3 smallL [5, 4, 3] 0 2 8 [0, 1] = true ∧ provB 3 smallL [5, 4, 3] 0 2 7 [0, 1] = false ∧ cutB 3 smallL 0 2 [0, 1] = true ∧ cutB 3 smallL 0 2 [0, 2] = false := by
  decide

set_option maxHeartbeats 2000000 in
theorem awake8_any (w : World) : Calls Try.prog 36 #[] w (Says w (.bool true)) := by
  go_enter Try.func36, Try.ntmps36
  go_wp2_with fail
  refine (small8_any _).mono ?_
  rintro e w1 ⟨gs, rfl, os, _, k⟩
  have HS : Hid (SB w w1 [(gs, 87, linkE.flat smallL)]) := SB.cons ⟨k, StS.nil _⟩ os
  clear os k
  go_wp2_with fail
  refine (LeavS [0, 1] rfl (by decide) (by decide) HS.out.lit (by simp) (by simp [ints])).mono ?_
  rintro e w2 ⟨va, he, ha, k⟩
  rw [cut_small.2.1] at he
  subst he
  rw [cut_small.1] at ha
  obtain ⟨Aa, ca, rfl, _, ra⟩ := ha.row (ok_of (xs := [1, 2]) (by decide))
  have RA := Lib.hid ra
  have HS := Lib.hid (HS.out.lit.kept k).less
  have HG2 := Lib.hid (World.grownBy.refl w2 none)
  clear k ra ha
  go_wp2_with fail
  refine (small8_any _).mono ?_
  rintro e w3 ⟨gs3, rfl, os, _, k⟩
  have HS := Lib.hid ((HS.out.kept k).cons os)
  have HG2 := Lib.hid (grown_trans HG2.out k)
  clear os k
  go_wp2_with fail
  refine (WorthS [5, 4, 3] [0, 1] rfl (by decide) (by decide) rfl (by decide) (by decide) HS.out.lit.lit (by simp) (by simp [ints]) (by simp [ints])).mono ?_
  rintro e w4 ⟨he, k⟩
  rw [wthV, cut_small.2.2.2.1, cut_small.2.2.2.2.1] at he
  subst he
  have HG2 := Lib.hid (grown_trans (grown_alloc (grown_alloc HG2.out _) _) k)
  have HS := Lib.hid (HS.out.lit.lit.kept k).less
  clear k
  go_wp2_with fail
  refine (small8_any _).mono ?_
  rintro e w5 ⟨gs5, rfl, os, _, k⟩
  have HS := Lib.hid ((HS.out.kept k).cons os)
  have HG2 := Lib.hid (grown_trans HG2.out k)
  clear os k
  go_wp2_with fail
  refine (ProvesS [5, 4, 3] [0, 1] rfl (by decide) (by decide) rfl (by decide) (by decide) HS.out.lit.lit (by simp) (by simp [ints]) (by simp [ints])).mono ?_
  rintro e w6 ⟨he, k⟩
  rw [prvV, cut_small.2.2.2.2.2.1, cut_small.2.2.2.2.2.2.1] at he
  subst he
  have HG2 := Lib.hid (grown_trans (grown_alloc (grown_alloc HG2.out _) _) k)
  have HS := Lib.hid (HS.out.lit.lit.kept k).less
  clear k
  go_wp2_with fail
  refine (small8_any _).mono ?_
  rintro e w7 ⟨gs7, rfl, os, _, k⟩
  have HS := Lib.hid ((HS.out.kept k).cons os)
  have HG2 := Lib.hid (grown_trans HG2.out k)
  clear os k
  go_wp2_with fail
  refine (ProvesS [5, 4, 3] [0, 1] rfl (by decide) (by decide) rfl (by decide) (by decide) HS.out.lit.lit (by simp) (by simp [ints]) (by simp [ints])).mono ?_
  rintro e w8 ⟨he, k⟩
  rw [prvV, cut_small.2.2.2.2.2.1, cut_small.2.2.2.2.2.2.2.1] at he
  subst he
  have HG2 := Lib.hid (grown_trans (grown_alloc (grown_alloc HG2.out _) _) k)
  have HS := Lib.hid (HS.out.lit.lit.kept k).less
  clear k
  go_wp2_with fail
  refine (small8_any _).mono ?_
  rintro e w9 ⟨gs9, rfl, os, _, k⟩
  have HS := Lib.hid ((HS.out.kept k).cons os)
  have HG2 := Lib.hid (grown_trans HG2.out k)
  clear os k
  go_wp2_with fail
  refine (LeavS [1, 0] rfl (by decide) (by decide) HS.out.lit (by simp) (by simp [ints])).mono ?_
  rintro e w10 ⟨vb, he, _, k⟩
  rw [cut_small.2.2.1] at he
  subst he
  have HG2 := Lib.hid (grown_trans (grown_alloc HG2.out _) k)
  have HS := Lib.hid (HS.out.lit.kept k).less
  clear k
  go_wp2_with fail
  refine (small8_any _).mono ?_
  rintro e w11 ⟨gs11, rfl, os, _, k⟩
  have HS := Lib.hid ((HS.out.kept k).cons os)
  have HG2 := Lib.hid (grown_trans HG2.out k)
  clear os k
  go_wp2_with fail
  refine (MayS [0, 1] rfl (by decide) (by decide) HS.out.lit (by simp) (by simp [ints])).mono ?_
  rintro e w12 ⟨he, k⟩
  rw [cut_small.2.2.2.2.2.2.2.2.1] at he
  subst he
  have HG2 := Lib.hid (grown_trans (grown_alloc HG2.out _) k)
  have HS := Lib.hid (HS.out.lit.kept k).less
  clear k
  go_wp2_with fail
  refine (small8_any _).mono ?_
  rintro e w13 ⟨gs13, rfl, os, _, k⟩
  have HS := Lib.hid ((HS.out.kept k).cons os)
  have HG2 := Lib.hid (grown_trans HG2.out k)
  clear os k
  go_wp2_with fail
  refine (MayS [0, 2] rfl (by decide) (by decide) HS.out.lit (by simp) (by simp [ints])).mono ?_
  rintro e w14 ⟨he, k⟩
  rw [cut_small.2.2.2.2.2.2.2.2.2] at he
  subst he
  have HG2 := Lib.hid (grown_trans (grown_alloc HG2.out _) k)
  have HS := Lib.hid (HS.out.lit.kept k).less
  clear k
  go_wp2_with fail
  refine (SameS RA.out HS.out.lit (Nat.le_refl _) (grown_alloc HG2.out _) (by simp [ints]) rfl (by decide) (by decide)).mono ?_
  rintro e w15 ⟨rfl, k⟩
  have HS := Lib.hid (HS.out.lit.kept k).less
  clear k
  go_wp2_with fail
  refine (num_says _ _).mono ?_
  rintro e w16 ⟨rfl, k⟩
  have HS := Lib.hid (HS.out.kept k)
  clear k
  go_wp2_with fail
  refine (num_says _ _).mono ?_
  rintro e w17 ⟨rfl, k⟩
  have HS := Lib.hid (HS.out.kept k)
  clear k
  go_wp2_with fail
  refine (num_says _ _).mono ?_
  rintro e w18 ⟨rfl, k⟩
  have HS := Lib.hid (HS.out.kept k)
  clear k
  go_wp2_with fail
  refine (num_says _ _).mono ?_
  rintro e w19 ⟨rfl, k⟩
  have HS := Lib.hid (HS.out.kept k)
  clear k
  go_wp2_with fail
  refine (num_says _ _).mono ?_
  rintro e w20 ⟨rfl, k⟩
  have HS := Lib.hid (HS.out.kept k)
  clear k
  go_wp2
  go_ret
  exact ⟨rfl, HS.out.g⟩

end Go.Proofs.Ytmodkhcfihlhgaa
