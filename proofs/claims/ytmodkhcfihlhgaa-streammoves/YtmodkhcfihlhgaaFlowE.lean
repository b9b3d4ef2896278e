/-
  The reference's Move.
-/
import Derived.Test.YtmodkhcfihlhgaaFlowD
namespace Go.Proofs.Ytmodkhcfihlhgaa
open Go.RowKit

def MaRel (w : World) (V : Int) (A : Option Addr) (n c : Nat) (M : Int) (m : Nat) (rs : List Int) (i : Value) (wr : World) : Prop :=
  ∃ k : Nat, k ≤ m ∧ i = .int .i64 (k : Nat) ∧ w.grownBy wr none ∧ Own wr w.heap.size 24 [.int .i64 V, .slice A n c] ∧ ∀ j, j < k → isV M (rs[j]?.getD 0) = true

set_option maxRecDepth 20000 in
set_option maxHeartbeats 4000000 in
theorem RMove_any (V b : Int) (A : Option Addr) (n c : Nat) (L : List Lk) (X : Option Addr) (p d : Nat) (caps : List Int) (Y : Option Addr) (q e0 : Nat) (f : List Int) (Z : Option Addr) (m e1 : Nat) (rs : List Int) (w : World) {B B' B'' B3 : Nat} (h : Lks w B A n L) (hB : B ≤ w.heap.size) (hx : Row w B' X p caps) (hB' : B' ≤ w.heap.size) (hy : Row w B'' Y q f) (hB'' : B'' ≤ w.heap.size) (hz : Row w B3 Z m rs) (hB3 : B3 ≤ w.heap.size) (hnil : Y = none → e0 = 0) :
    Calls Try.prog 52 #[.agg #[.int .i64 V, .slice A n c], .slice X p d, .slice Y q e0, .int .i64 b, .slice Z m e1] w (SelPost w (movV V L caps f b rs) (movE V L caps f b rs)) := by
  have hm := hz.small
  have HL := Lib.hid h.len
  have HLX := Lib.hid hx.len
  have HLY := Lib.hid hy.len
  have HLZ := Lib.hid hz.len
  have HX := Lib.hid hx
  have HY := Lib.hid hy
  have HZ := Lib.hid hz
  have HR1 := Lib.hid (h.grown hB (grow0 w (.cells #[.int .i64 V, .slice A n c] 24)))
  have HX1 := Lib.hid (hx.grown hB' (grow0 w (.cells #[.int .i64 V, .slice A n c] 24)))
  have HNIL := Lib.hid hnil
  clear h hx hy hz hnil
  go_enter Try.func52, Try.ntmps52
  go_wp2_with fail
  refine (RCaps_any V A n c L X p d caps _ HR1.out (by simp; omega) HX1.out).mono ?_
  rintro e w1 ⟨rfl, g1⟩
  obtain ⟨g, o2⟩ := box1 [.int .i64 V, .slice A n c] g1
  have G := Lib.hid g
  have O2 := Lib.hid o2
  clear g g1 o2 HR1 HX1
  cases hf : (mayG V L && capsB L caps)
  · have E := Lib.hid (mov_form (form_fits (V := V) (L := L) (caps := caps) (f := f) (b := b) (rs := rs) (by rw [fitsF, hf]; rfl)))
    clear hf
    go_wp2
    go_ret2
    exact ⟨.slice none 0 0, ret_sel E.out.1, by rw [E.out.2]; exact Mine.nil _ _, G.out⟩
  have HF0 := Lib.hid hf
  rw [Bool.and_eq_true] at hf
  have H16 := Lib.hid (may_8 hf.1 HL.out).2
  have HPN := Lib.hid (capsB_parts hf.2).1
  clear hf
  go_wp2_with fail
  refine (RWithin_any X p d caps Y q e0 f _ (HX.out.grown hB' G.out) (HY.out.grown hB'' G.out)).mono ?_
  rintro e w2 ⟨rfl, g2⟩
  have G := Lib.hid (grown_trans G.out g2)
  have O2 := Lib.hid (O2.out.kept g2)
  clear g2
  cases hr : ratesB caps f
  · have E := Lib.hid (mov_form (form_fits (V := V) (L := L) (caps := caps) (f := f) (b := b) (rs := rs) (by rw [fitsF, HF0.out, hr]; rfl)))
    clear hr
    go_wp2
    go_ret2
    exact ⟨.slice none 0 0, ret_sel E.out.1, by rw [E.out.2]; exact Mine.nil _ _, G.out⟩
  have HFIT : Hid (fitsF V L caps f = true) := by rw [Hid, fitsF, HF0.out, hr]; rfl
  have HRT := Lib.hid hr
  have hpn : p = n := by have := HPN.out; have := HL.out; have := HLX.out; omega
  have hqn : q = n := by have := (ratesB_parts hr).1; have := HLX.out; have := HLY.out; omega
  subst hpn hqn
  have h16 := H16.out
  clear hr HF0 HPN H16
  go_wp2_with fail
  refine (RRateF_any b _).mono ?_
  rintro e w3 ⟨rfl, g3⟩
  have G := Lib.hid (grown_trans G.out g3)
  have O2 := Lib.hid (O2.out.kept g3)
  clear g3
  cases hb : rateF b
  · have E := Lib.hid (mov_form (form_rate (V := V) (L := L) (caps := caps) (f := f) (rs := rs) hb))
    clear hb
    go_wp2
    go_ret2
    exact ⟨.slice none 0 0, ret_sel E.out.1, by rw [E.out.2]; exact Mine.nil _ _, G.out⟩
  have HRB := Lib.hid hb
  have hbb : 0 ≤ b ∧ b ≤ 4611686018427387904 := by simpa [rateF] using hb
  clear hb
  by_cases hm64 : 64 < m
  · have E := Lib.hid (mov_form (form_many (V := V) (L := L) (caps := caps) (f := f) (b := b) (rs := rs) (by rw [HLZ.out]; omega)))
    go_wp2
    go_ret2
    exact ⟨.slice none 0 0, ret_sel E.out.1, by rw [E.out.2]; exact Mine.nil _ _, G.out⟩
  have hd64 : decide ((64 : Int) < (m : Int)) = false := by simp; omega
  have hm64' : ¬ (64 : Int) < (m : Int) := by omega
  have HS : Hid (MaRel w V A q c (2 * (q : Int)) m rs (.int .i64 0) w3) := ⟨0, Nat.zero_le _, rfl, G.out, O2.out, by omega⟩
  have hw : IntKind.i64.wrap (2 * (q : Int)) = 2 * (q : Int) := IntWalk.i64_in _ (by omega)
  clear G O2 hbb
  go_wp2
  go_loopw [12] (fun i wr => MaRel w V A q c (2 * (q : Int)) m rs i wr) (fun i _ => m - (intOf i).toNat)
  case atStart => exact HS.out
  case round =>
    clear HS
    obtain ⟨k, hk, rfl, hg, ob, hno⟩ := hrel
    have G := Lib.hid hg
    have HNO := Lib.hid hno
    obtain ⟨c0, c1⟩ := ob.two
    have O := Lib.hid ob
    by_cases hlt : k < m
    · obtain ⟨bz, oz, hA, hbz, hcell⟩ := HZ.out.at_ (by omega)
      subst hA
      have d0 := kept hg (hcell k hlt)
      have HX2 := Lib.hid (allV_stop (M := 2 * (q : Int)) (xs := rs) (k := k) (by rw [HLZ.out]; exact hlt))
      have HY2 : Hid (isV (2 * (q : Int)) (rs[k]?.getD 0) = true → ∀ j, j < k + 1 → isV (2 * (q : Int)) (rs[j]?.getD 0) = true) := fun e j hj => by
        rcases Nat.lt_or_ge j k with a | a
        · exact HNO.out j a
        · obtain rfl : j = k := by omega
          exact e
      clear hcell hg hno HNO ob hd64
      generalize rs[k]?.getD 0 = y at *
      by_cases h0 : y < 0
      · have E := Lib.hid (mov_form (V := V) (caps := caps) (f := f) (b := b) (form_arcs (L := L) (rs := rs) (by rw [HL.out]; exact HX2.out (isV_no0 (by omega)))))
        have q1 : decide (y < 0) = true := by simp [h0]
        clear HX2 HY2
        go_wp2_with fail
        go_quiet (fail)
        go_wp2
        go_ret2
        exact ⟨.slice none 0 0, ret_sel E.out.1, by rw [E.out.2]; exact Mine.nil _ _, grown_drewN G.out _⟩
      · have q1 : decide (y < 0) = false := by simp; omega
        by_cases h1 : y < 2 * (q : Int)
        · have E := Lib.hid (HY2.out (isV_yes (by omega) h1))
          have q2 : decide (2 * (q : Int) ≤ y) = false := by simp; omega
          clear HX2 HY2
          go_wp2_with fail
          go_quiet (fail)
          go_wp2
          go_roundw
          case rel => exact ⟨k + 1, by omega, by go_num, grown_drewN G.out _, O.out.drewN _, E.out⟩
          case measure => simp [intOf]; omega
        · have E := Lib.hid (mov_form (V := V) (caps := caps) (f := f) (b := b) (form_arcs (L := L) (rs := rs) (by rw [HL.out]; exact HX2.out (isV_no1 h1))))
          have q2 : decide (2 * (q : Int) ≤ y) = true := by simp; omega
          clear HX2 HY2
          go_wp2_with fail
          go_quiet (fail)
          go_wp2
          go_ret2
          exact ⟨.slice none 0 0, ret_sel E.out.1, by rw [E.out.2]; exact Mine.nil _ _, grown_drewN G.out _⟩
    · obtain rfl : k = m := by omega
      have HA : Hid (allV (2 * (q : Int)) rs = true) := allV_all (by rw [HLZ.out]; exact HNO.out)
      have HF : Hid (formM V L caps f b rs = true) := form_move HFIT.out HRB.out (by rw [HLZ.out]; omega) (by rw [HL.out]; exact HA.out)
      have HB0 : Hid (0 ≤ b ∧ b ≤ 4611686018427387904) := by have := HRB.out; simpa [rateF, Hid] using this
      have hsz := hg.size
      have HMI := Lib.hid (Mine.lit (w := wr) (base := wr.heap.size) (g := wr.heap.size) (vs := #[]) [] 0 rfl rfl rfl (Nat.le_refl _) (by simp))
      have HRY := Lib.hid ((HY.out.grown hB'' G.out).grown (by omega) (grow0 wr (.cells #[] 3)))
      have HNY : Hid (Y = none → e0 = 0) := HNIL.out
      clear hg ob hno HNO hd64 HRB
      go_wp2_with (first | (at_builtin; refine wpList_app _ rfl _ _ rfl wr.heap.size _ _ _ rfl HMI.out _ q e0 f rfl HRY.out HNY.out (by omega) (by simp) ?_))
      intro v1 w5 hm1 hg5 _
      have g5 := grown_none (grow0 wr (.cells #[] 3)) hg5 (fun g hg => HMI.out.own_ge g hg)
      have hsz5 := g5.size
      obtain ⟨Av, cv, rfl, hnilv⟩ := hm1.sl
      have HS : Hid (MvRel wr b q k caps f rs Av cv (.int .i64 0) w5) := ⟨0, f, Nat.zero_le _, rfl, g5, hm1, HRT.out, rfl⟩
      clear hm1 hg5 g5 c0 c1 O
      go_wp2
      go_loopw [14] (fun i wt => MvRel wr b q k caps f rs Av cv i wt) (fun i _ => k - (intOf i).toNat)
      case atStart => exact HS.out
      case round =>
        clear HS
        obtain ⟨j, g, hj, rfl, hg, hmine, hrt, hmov⟩ := hrel
        have G2 := Lib.hid hg
        have HM := Lib.hid hmine
        have HGR := Lib.hid hrt
        have HMV := Lib.hid hmov
        by_cases hlt : j < k
        · obtain ⟨bz, oz, hA, hbz, hcell⟩ := (HZ.out.grown hB3 G.out).at_ (by omega)
          subst hA
          have d0 := kept hg (hcell j hlt)
          have HAK := Lib.hid (allV_at HA.out (j := j) (by rw [HLZ.out]; exact hlt))
          have HST := Lib.hid (fun (g' : List Int) => mov_step (caps := caps) (f := g) (g := g') (rs := rs) (b := b) (k := j) (by rw [HLZ.out]; exact hlt))
          have HSP := Lib.hid (mov_stop (caps := caps) (f := g) (rs := rs) (b := b) (k := j) (by rw [HLZ.out]; exact hlt))
          obtain ⟨i, hi, hd, ht, hc⟩ := arc_cases HAK.out
          have HCX := Lib.hid (HX.out.grown hB' (grown_trans G.out G2.out))
          have HOKG := Lib.hid (rates_ok2 hrt HX.out.ok)
          clear hcell hg hmine hrt hmov
          generalize rs[j]?.getD 0 = a at *
          go_wp2_with fail
          refine (Rroom_any X q d caps Av cv g a _ HCX.out (HM.out.rowAt HOKG.out) HAK.out HGR.out).mono ?_
          rintro e w6 ⟨rfl, g6⟩
          have G2 := Lib.hid (grown_trans G2.out g6)
          have HM := Lib.hid (HM.out.kept g6)
          have d1 := kept g6 d0
          clear g6 d0
          by_cases hrm : roomI caps g a < b
          · have E := Lib.hid (mov_none HF.out (HMV.out.symm.trans (HSP.out (step_room hrm))))
            clear HST HSP HAK hd ht hc
            generalize roomI caps g a = x at *
            go_wp2
            go_ret2
            exact ⟨.slice none 0 0, ret_sel E.out.1, by rw [E.out.2]; exact Mine.nil _ _, grown_trans G.out G2.out⟩
          have hgo := step_goes hrm
          have hri := rates_at HGR.out (i := i) (by rw [HLX.out]; exact hi)
          have hoki := HX.out.ok i
          have hbb := HB0.out
          obtain ⟨gv, cv', hAv, _, _, hrv⟩ := HM.out.shape (by omega) HOKG.out
          injection hAv with hAv _ hcv
          subst hAv hcv
          have f0 := hrv.cellAt hi
          rw [Nat.zero_add] at f0
          have f1 := HM.out.frozen i
          have hge := HM.out.own_ge gv rfl
          have hw1 : IntKind.i64.wrap (a.tdiv 2) = (i : Int) := by rw [ht]; exact IntWalk.i64_in _ (by omega)
          rcases hc with ⟨hm1, hm2, -⟩ | ⟨hm1, hm2, -⟩
          · rw [new_even hd hm1] at hgo
            rw [room_even hd hm1] at hrm ⊢
            have HKP := Lib.hid (step_keeps HLX.out HAK.out (by omega) HGR.out hgo)
            have HNX := Lib.hid ((HST.out _ hgo).symm.trans HMV.out)
            have HMS := Lib.hid (HM.out.set i (g[i]?.getD 0 + b) hi)
            have hw2 : IntKind.i64.wrap (g[i]?.getD 0 + b) = g[i]?.getD 0 + b := IntWalk.i64_in _ (by omega)
            clear HST HSP hgo hd hm1 hri hoki hrv HAK hbb
            generalize g[i]?.getD 0 = y at *
            generalize caps[i]?.getD 0 = x at *
            go_wp2
            go_roundw
            case rel => exact ⟨j + 1, _, by omega, by go_num, grown_new G2.out hge _, HMS.out, HKP.out, HNX.out⟩
            case measure => simp [intOf]; omega
          · rw [new_odd hd hm1] at hgo
            rw [room_odd hd hm1] at hrm ⊢
            have HKP := Lib.hid (step_keeps HLX.out HAK.out (by omega) HGR.out hgo)
            have HNX := Lib.hid ((HST.out _ hgo).symm.trans HMV.out)
            have HMS := Lib.hid (HM.out.set i (g[i]?.getD 0 - b) hi)
            have hw2 : IntKind.i64.wrap (g[i]?.getD 0 - b) = g[i]?.getD 0 - b := IntWalk.i64_in _ (by omega)
            clear HST HSP hgo hd hm1 hri hoki hrv HAK hbb
            generalize g[i]?.getD 0 = y at *
            go_wp2
            go_roundw
            case rel => exact ⟨j + 1, _, by omega, by go_num, grown_new G2.out hge _, HMS.out, HKP.out, HNX.out⟩
            case measure => simp [intOf]; omega
        · obtain rfl : j = k := by omega
          have E := Lib.hid (mov_some HF.out (HMV.out.symm.trans (mov_end (by rw [HLZ.out]; exact Nat.le_refl _))))
          have HLG := Lib.hid HM.out.len
          clear hg hmine hrt hmov
          go_wp2
          go_ret2
          exact ⟨_, ret_sel E.out.1, by rw [E.out.2, HLG.out]; exact HM.out.wide hsz, grown_trans G.out G2.out⟩

end Go.Proofs.Ytmodkhcfihlhgaa
