/-
  What can be reached: the program's Reach and Shut, walked.
-/
import Derived.Test.YtlpohlcmjnlbhaaLevelG
import Derived.Test.YtlpohlcmjnlbhaaReachA
set_option maxRecDepth 20000
namespace Go.Proofs.Ytlpohlcmjnlbhaa
open Go.RowKit

set_option maxRecDepth 20000 in
set_option maxHeartbeats 2000000 in
theorem Reach_any (V s : Int) (A : Option Addr) (n c : Nat) (ls : List Lk) (X : Option Addr) (m d : Nat) (caps : List Int) (Y : Option Addr) (r e0 : Nat) (f : List Int) (w : World) {B B' B'' : Nat} (h : Lks w B A n ls) (hB : B ≤ w.heap.size) (hx : Row w B' X m caps) (hB' : B' ≤ w.heap.size) (hy : Row w B'' Y r f) (hB'' : B'' ≤ w.heap.size)
    (M : List Int) (z : Int) (hM : LvIs V ls caps f s M z) : Calls Try.prog 24 #[.agg #[.int .i64 V, .slice A n c], .slice X m d, .slice Y r e0, .int .i64 s] w (SelPost w (reachL M) (reachE z)) := by
  have HR := Lib.hid h
  have HX := Lib.hid hx
  have HY := Lib.hid hy
  have HM := Lib.hid hM
  have HG0 := Lib.hid (grow0 w (.cells #[.int .i64 V, .slice A n c] 24))
  clear h hx hy hM
  go_enter Try.func24, Try.ntmps24
  go_wp2_with fail
  refine (Levels_is V s A n c ls X m d caps Y r e0 f _ (HR.out.grown hB HG0.out) (by simp; omega) (HX.out.grown hB' HG0.out) (by simp; omega) (HY.out.grown hB'' HG0.out) (by simp; omega) M z HM.out).mono ?_
  rintro e w1 ⟨v1, rfl, h1, k⟩
  obtain ⟨g1, _⟩ := box1 [.int .i64 V, .slice A n c] k
  have G := Lib.hid g1
  have hw1 := g1.size
  obtain ⟨okM, hm8⟩ := lvIs_okI HM.out
  obtain ⟨Am, cm, rfl, _, _, rM⟩ := h1.rowN okM
  have RM := Lib.hid rM
  clear k g1 HG0 h1 rM okM
  rcases HM.out with ⟨_, rfl, hi⟩ | ⟨_, rfl, rfl⟩
  case inr =>
    clear HM
    have q : reachE 1000 = 1300 := by decide
    go_wp2
    go_ret2
    exact ⟨.slice none 0 0, (by rw [q]; rfl), Mine.nil _ _, G.out⟩
  clear hi HM
  have HS : Hid (ReRel w w1 M (.slice none 0 0) (.int .i64 0) w1) := ⟨0, Nat.zero_le _, rfl, G.out, World.grownBy.refl w1 none, Mine.nil _ _⟩
  have hml : M.length ≤ 8 := hm8
  obtain ⟨ml, hml2⟩ : ∃ ml, M.length = ml := ⟨_, rfl⟩
  have HML := Lib.hid hml2
  rw [hml2] at hml RM
  clear hml2 hm8
  rw [HML.out]
  go_wp2
  go_loopw [12, 27] (fun o i wr => ReRel w w1 M o i wr) (fun _ i _ => ml - (intOf i).toNat)
  case atStart => exact HS.out
  case round =>
    clear HS
    obtain ⟨k, hk, rfl, hg, hg1, mo⟩ := hrel
    rw [HML.out] at hk
    have G := Lib.hid hg
    have G1 := Lib.hid hg1
    have MO := Lib.hid mo
    have hsz := hg1.size
    clear hg hg1 mo
    by_cases hlt : k < ml
    · obtain ⟨b, off, rfl, hb, hcell⟩ := RM.out.at_ (by omega)
      have d0 := kept G1.out (hcell k hlt)
      have HY1 := Lib.hid (pick_yes (p := fun v => decide (0 ≤ lvAt M (v : Int))) (k := k))
      have HN1 := Lib.hid (pick_no (p := fun v => decide (0 ≤ lvAt M (v : Int))) (k := k))
      have HE : Hid (lvAt M (k : Int) = M[k]?.getD 0) := by rw [Hid, lvAt, Int.toNat_natCast]
      have hl := pick_len (fun v => decide (0 ≤ lvAt M (v : Int))) k
      clear hcell
      generalize M[k]?.getD 0 = x at *
      by_cases hx : 0 ≤ x
      · have HN2 := Lib.hid (HY1.out (by simp only [HE.out]; exact decide_eq_true hx))
        clear HY1 HN1
        generalize pick (fun v => decide (0 ≤ lvAt M (v : Int))) k = xs at *
        have kl := grow0 wr (.cells #[.int .i64 (k : Nat)] 3)
        have HM1 := Lib.hid (MO.out.kept kl)
        have hge := Lib.hid MO.out.own_ge
        have HROW := Lib.hid (Row.newAt (w := wr) (g := wr.heap.size) (n := 1) (vs := #[.int .i64 (k : Nat)]) [(k : Int)] (by simp) rfl rfl (by simp) (by simp; omega))
        have GE := Lib.hid (grown_trans G.out kl)
        have GE1 := Lib.hid (grown_trans G1.out kl)
        have hgs := G.out.size
        clear kl MO G G1
        go_wp2_with (first | (at_builtin; refine wpList_app _ rfl _ _ rfl w1.heap.size _ _ _ rfl HM1.out _ 1 1 [(k : Int)] rfl HROW.out (by simp) (by omega) (by simp; omega) ?_))
        intro v1 w3 hm1 hg3 _
        have G3 := Lib.hid (grown_none GE.out hg3 (fun g hg => by have := hge.out g hg; omega))
        have G31 := Lib.hid (grown_none GE1.out hg3 (fun g hg => by have := hge.out g hg; omega))
        have HM3 := Lib.hid hm1
        clear hm1 hg3
        go_wp2
        go_roundw
        case rel => exact ⟨k + 1, by rw [HML.out]; omega, by go_num, G3.out, G31.out, by rw [HN2.out]; simpa using HM3.out⟩
        case measure => simp [intOf]; omega
      · have HN2 := Lib.hid (HN1.out (by simp only [HE.out]; exact decide_eq_false hx))
        clear HY1 HN1
        go_wp2
        go_roundw
        case rel => exact ⟨k + 1, by rw [HML.out]; omega, by go_num, G.out, G1.out, by rw [HN2.out]; exact MO.out⟩
        case measure => simp [intOf]; omega
    · obtain rfl : k = ml := by omega
      go_wp2
      go_ret2
      have hf := MO.out
      have q : reachE 0 = 0 := by decide
      refine ⟨_, (by rw [q]; rfl), ?_, G.out⟩
      rw [reachL, HML.out]
      exact hf.wide hw1

end Go.Proofs.Ytlpohlcmjnlbhaa
