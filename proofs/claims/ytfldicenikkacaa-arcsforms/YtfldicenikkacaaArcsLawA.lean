/-
  The law ArcsForms, walked.
-/
import Derived.Test.YtfldicenikkacaaArcsF
namespace Go.Proofs.Ytfldicenikkacaa
open Go.RowKit

def badL : List Lk := [(0, 1, -1), (1, 2, 4), (0, 2, 3)]
theorem bad_may : mayG 3 badL = false := by decide
theorem bad_arc : arcE 3 badL = 500 ∧ rowE 3 badL 0 = 500 := by decide

theorem ArcsForms_walk (which v : Int) (w : World) : Calls Try.prog 9 #[.int .i64 which, .int .i64 v] w (LawPost w) := by
  go_enter Try.func9, Try.ntmps9
  go_wp2_with fail
  refine (small5_any _).mono ?_
  rintro e w1 ⟨g1, rfl, o1, hg1, k1⟩
  have hne : ¬ g1 = w1.heap.size := by have := o1.lt; omega
  have hl1 := o1.lt
  have k2 := grow0 w1 (.cells #[.int .i64 3, .slice (some ⟨g1, 0, none⟩) 3 3] 24)
  have OG := Lib.hid (Own.new w1 24 [.int .i64 3, .slice (some ⟨g1, 0, none⟩) 3 3])
  have OL := Lib.hid (o1.kept k2)
  have G := Lib.hid (grown_trans k1 k2)
  have hl2 := OL.out.lt
  clear k1 k2 o1
  go_upto_region 2 with fail
  generalize w1.alloc (.cells #[.int .i64 3, .slice (some ⟨g1, 0, none⟩) 3 3] 24) = w2 at *
  generalize w1.heap.size = gb at *
  obtain ⟨c0, c1⟩ := OG.out.two
  cases hb : (Go.bits BinOp.and IntKind.i64 which 1 == 0)
  · by_cases h0 : v < 0
    · have E : Hid (rowE 3 smallL v = 500) := (rowOf_no (by simp [goodB, isV, show ¬ 0 ≤ v by omega])).2
      go_wp2_with fail
      refine (Row_any 3 v (some ⟨g1, 0, none⟩) 3 3 smallL _ (OL.out.lks smallL 3 rfl (by decide) rfl) (by omega)).mono ?_
      rintro e w2 ⟨vr, rfl, _, k⟩
      rw [E.out]
      have G := Lib.hid (grown_trans G.out k)
      clear k
      go_wp2_with fail
      refine (awake5_any _).mono ?_
      rintro e w3 ⟨rfl, k⟩
      have G := Lib.hid (grown_trans G.out k)
      clear k
      go_wp2_with fail
      refine (Num0_any _ _).mono ?_
      rintro e w4 ⟨rfl, rfl⟩
      go_wp2
      go_ret
      exact ⟨rfl, below_of G.out⟩
    · by_cases h2 : 2 < v
      · have E : Hid (rowE 3 smallL v = 500) := (rowOf_no (by simp [goodB, isV, show ¬ v < 3 by omega])).2
        go_wp2_with fail
        refine (Row_any 3 v (some ⟨g1, 0, none⟩) 3 3 smallL _ (OL.out.lks smallL 3 rfl (by decide) rfl) (by omega)).mono ?_
        rintro e w2 ⟨vr, rfl, _, k⟩
        rw [E.out]
        have G := Lib.hid (grown_trans G.out k)
        clear k
        go_wp2_with fail
        refine (awake5_any _).mono ?_
        rintro e w3 ⟨rfl, k⟩
        have G := Lib.hid (grown_trans G.out k)
        clear k
        go_wp2_with fail
        refine (Num0_any _ _).mono ?_
        rintro e w4 ⟨rfl, rfl⟩
        go_wp2
        go_ret
        exact ⟨rfl, below_of G.out⟩
      · have E : Hid (rowE 3 smallL v = 0) := (rowOf_yes (by simp [goodB, isV, show 0 ≤ v by omega, show v < 3 by omega, tot_small.2.2.1])).2
        go_wp2_with fail
        refine (Row_any 3 v (some ⟨g1, 0, none⟩) 3 3 smallL _ (OL.out.lks smallL 3 rfl (by decide) rfl) (by omega)).mono ?_
        rintro e w2 ⟨vr, rfl, _, k⟩
        rw [E.out]
        have G := Lib.hid (grown_trans G.out k)
        clear k
        go_wp2_with fail
        refine (awake5_any _).mono ?_
        rintro e w3 ⟨rfl, k⟩
        have G := Lib.hid (grown_trans G.out k)
        clear k
        go_wp2_with fail
        refine (Num0_any _ _).mono ?_
        rintro e w4 ⟨rfl, rfl⟩
        go_wp2
        go_ret
        refine ⟨?_, below_of G.out⟩
        show Ending.returned (.bool (!decide (v < 0) && !decide (2 < v))) = _
        simp [h0, h2]
  · have c2 : w2.cell? ⟨g1, 2, none⟩ = some (.int .i64 5) := OL.out.cell 2
    have f2 := OL.out.frozen 2
    go_upto_region 4 with fail
    have OL2 : Hid (Own (w2.setCell ⟨g1, 2, none⟩ (.int .i64 (-1))) g1 45 (linkE.flat badL)) := OL.out.put _
    have OG2 : Hid (Own (w2.setCell ⟨g1, 2, none⟩ (.int .i64 (-1))) _ _ _) := OG.out.setOther hne _
    have G2 : Hid (w.grownBy (w2.setCell ⟨g1, 2, none⟩ (.int .i64 (-1))) none) := grown_new G.out hg1 _
    clear c2 f2 OL OG G c0 c1 hl2
    generalize w2.setCell ⟨g1, 2, none⟩ (.int .i64 (-1)) = w3 at *
    obtain ⟨c0, c1⟩ := OG2.out.two
    have hl2 := OL2.out.lt
    go_wp2_with fail
    refine (Build_any 3 (some ⟨g1, 0, none⟩) 3 3 badL _ (OL2.out.lks badL 3 rfl (by decide) rfl) (by omega)).mono ?_
    rintro e w3' ⟨x, y, z, rfl, t3, k3⟩
    rw [bad_arc.1]
    obtain ⟨Ax, cx, rfl, _⟩ := t3.S.sl
    obtain ⟨Ay, cy, rfl, _⟩ := t3.O.sl
    obtain ⟨Az, cz, rfl, _⟩ := t3.H.sl
    generalize (arcS 3 badL).length = ns at *
    generalize (arcO 3 badL).length = no at *
    generalize (arcH 3 badL).length = nh at *
    have k4 := grown_trans k3 (grow0 w3' (.cells #[.slice Ax ns cx, .slice Ay no cy, .slice Az nh cz] 48))
    have OL := Lib.hid (OL2.out.kept k4)
    have OG := Lib.hid (OG2.out.kept k4)
    have G := Lib.hid (grown_trans G2.out k4)
    have s3 := k3.size
    clear k3 k4 t3 OL2 OG2 G2 c0 c1
    obtain ⟨c0, c1⟩ := OG.out.two
    go_wp2_with fail
    refine (Row_any 3 0 (some ⟨g1, 0, none⟩) 3 3 badL _ (OL.out.lks badL 3 rfl (by decide) rfl) (by simp; omega)).mono ?_
    rintro e w4 ⟨vr, rfl, _, k⟩
    rw [bad_arc.2]
    have G := Lib.hid (grown_trans G.out k)
    clear k
    go_wp2_with fail
    refine (awake5_any _).mono ?_
    rintro e w5 ⟨rfl, k⟩
    have G := Lib.hid (grown_trans G.out k)
    clear k
    go_wp2_with fail
    refine (Num0_any _ _).mono ?_
    rintro e w6 ⟨rfl, rfl⟩
    go_wp2_with fail
    refine (Num0_any _ _).mono ?_
    rintro e w6 ⟨rfl, rfl⟩
    go_wp2
    go_ret
    exact ⟨rfl, below_of G.out⟩

end Go.Proofs.Ytfldicenikkacaa
