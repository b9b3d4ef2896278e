/-
  A copy of a row, a rate; stream.Move and the reference's.
-/
import Derived.Test.YtmodkhcfihlhgaaFlowC
import Derived.Lib.SliceRun
namespace Go.Proofs.Ytmodkhcfihlhgaa
open Go.RowKit

def ClonePost (w : World) (n : Nat) (xs : List Int) (e : Ending) (w' : World) : Prop := ∃ v, e = .returned v ∧ Mine w' w.heap.size v n xs ∧ w.grownBy w' none

set_option maxRecDepth 20000 in
theorem Clone_any (A : Option Addr) (n c : Nat) (xs : List Int) (w : World) {B : Nat} (h : Row w B A n xs) (hB : B ≤ w.heap.size) (hr : n * 8 ≤ 140737488355328) :
    Calls Try.prog 82 #[.slice A n c] w (ClonePost w n xs) := by
  cases A with
  | none =>
    have hm : n = 0 := by
      rcases Nat.eq_zero_or_pos n with h0 | h0
      · exact h0
      · obtain ⟨b, off, h, _⟩ := h.at_ h0
        cases h
    subst hm
    have hx : xs = [] := List.eq_nil_of_length_eq_zero h.len
    subst hx
    clear h
    have hq : (binOp .eql 28 (.slice none 0 c) (.slice none 0 0)).run Try.prog w = .ok (.bool true) w := Lib.run_eql_slice_nil w 28 3 none 0 c 0 0 Try.underlying28
    go_enter Try.func82, Try.ntmps82
    go_wp2
    go_ret
    exact ⟨_, rfl, Mine.nil _ _, World.grownBy.refl w none⟩
  | some ad =>
    have HM := Lib.hid (Mine.lit (w := w) (base := w.heap.size) (g := w.heap.size) (vs := #[]) [] 0 rfl rfl rfl (Nat.le_refl _) (by simp))
    have HR := Lib.hid (h.grown hB (grow0 w (.cells #[] 3)))
    have hq : (binOp .eql 28 (.slice (some ad) n c) (.slice none 0 0)).run Try.prog w = .ok (.bool false) w := Lib.run_eql_slice_nil w 28 3 (some ad) n c 0 0 Try.underlying28
    clear h
    go_enter Try.func82, Try.ntmps82
    go_wp2_with (first | (at_builtin; refine wpList_app _ rfl _ _ rfl w.heap.size _ _ _ rfl HM.out _ n c xs rfl HR.out (by simp) (by omega) (by simp) ?_))
    intro v1 w3 hm1 hg3 _
    have G3 := Lib.hid (grown_none (grow0 w (.cells #[] 3)) hg3 (fun g hg => HM.out.own_ge g hg))
    have HM3 := Lib.hid hm1
    clear hm1 hg3
    go_wp2
    go_ret
    exact ⟨_, rfl, by simpa using HM3.out, G3.out⟩

theorem rateF_no0 {b : Int} (h : b < 0) : rateF b = false := by simp [rateF]; omega
theorem rateF_no1 {b : Int} (h : 4611686018427387904 < b) : rateF b = false := by simp [rateF]; omega
theorem rateF_yes {b : Int} (h : ¬ b < 0) (k : ¬ 4611686018427387904 < b) : rateF b = true := by simp [rateF]; omega

theorem RRateF_any (b : Int) (w : World) : Calls Try.prog 59 #[.int .i64 b] w (Says w (.bool (rateF b))) := by
  by_cases h0 : b < 0
  · have E := Lib.hid (rateF_no0 h0)
    go_enter Try.func59, Try.ntmps59
    go_wp2
    go_ret
    exact ⟨ret_bool E.out, World.grownBy.refl w none⟩
  · by_cases h1 : 4611686018427387904 < b
    · have E : Hid (rateF b = decide (b ≤ 4611686018427387904)) := by rw [Hid, rateF_no1 h1]; simp; omega
      go_enter Try.func59, Try.ntmps59
      go_wp2
      go_ret
      exact ⟨ret_bool E.out, World.grownBy.refl w none⟩
    · have E := Lib.hid (rateF_yes h0 h1)
      go_enter Try.func59, Try.ntmps59
      go_wp2
      go_ret
      exact ⟨ret_bool E.out, World.grownBy.refl w none⟩

/-- A number of a row of the call's own, written over. -/
theorem Mine.set {w : World} {base g n cap : Nat} {xs : List Int} (h : Mine w base (.slice (some ⟨g, 0, none⟩) n cap) n xs) (i : Nat) (x : Int) (hi : i < n) : Mine (w.setCell ⟨g, i, none⟩ (.int .i64 x)) base (.slice (some ⟨g, 0, none⟩) n cap) n (xs.set i x) := by
  have hl := h.len
  obtain ⟨_, h2⟩ := h
  refine ⟨by rw [ints_len, List.length_set]; omega, ?_⟩
  rcases h2 with ⟨e, rfl⟩ | ⟨g', cap', cur, e, hb, hh, hnc, hm, hsz, htk⟩
  · omega
  · injection e with e1 e2 e3
    have e1 := Option.some.inj e1
    injection e1 with e1
    subst e1 e3
    refine .inr ⟨g, cap, cur.setIfInBounds i (.int .i64 x), rfl, hb, block_put hh _, hnc, hm, by simpa using hsz, ?_⟩
    have : ints (xs.set i x) = (ints xs).set i (.int .i64 x) := by simp [ints, List.map_set]
    rw [this, ← htk, Array.toList_setIfInBounds, List.take_set]

theorem Mine.frozen {w : World} {base g n cap : Nat} {xs : List Int} (h : Mine w base (.slice (some ⟨g, 0, none⟩) n cap) n xs) (i : Nat) : w.frozen? ⟨g, i, none⟩ = false := by
  rcases h.2 with ⟨e, rfl⟩ | ⟨g', cap', cur, e, hb, hh, _⟩
  · cases e
  · injection e with e1 e2 e3
    have e1 := Option.some.inj e1
    injection e1 with e1
    subst e1
    simp [World.frozen?, hh]

def MvRel (w1 : World) (b : Int) (n m : Nat) (caps f rs : List Int) (Av : Option Addr) (cv : Nat) (i : Value) (wr : World) : Prop :=
  ∃ (k : Nat) (g : List Int), k ≤ m ∧ i = .int .i64 (k : Nat) ∧ w1.grownBy wr none ∧ Mine wr w1.heap.size (.slice Av n cv) n g ∧ ratesB caps g = true ∧ movK caps b g (rs.drop k) = movK caps b f rs

theorem form_fits {V : Int} {L : List Lk} {caps f rs : List Int} {b : Int} (h : fitsF V L caps f = false) : formM V L caps f b rs = false := by simp [formM, h]
theorem form_rate {V : Int} {L : List Lk} {caps f rs : List Int} {b : Int} (h : rateF b = false) : formM V L caps f b rs = false := by simp [formM, h]
theorem form_many {V : Int} {L : List Lk} {caps f rs : List Int} {b : Int} (h : ¬ rs.length ≤ 64) : formM V L caps f b rs = false := by simp [formM, h]
theorem form_arcs {V : Int} {L : List Lk} {caps f rs : List Int} {b : Int} (h : allV (2 * (L.length : Int)) rs = false) : formM V L caps f b rs = false := by simp [formM, h]
theorem form_move {V : Int} {L : List Lk} {caps f rs : List Int} {b : Int} (h : fitsF V L caps f = true) (h1 : rateF b = true) (h2 : rs.length ≤ 64) (h3 : allV (2 * (L.length : Int)) rs = true) : formM V L caps f b rs = true := by simp [formM, h, h1, h2, h3]

theorem new_even {f : List Int} {b a : Int} {i : Nat} (hi : (a / 2).toNat = i) (h : a % 2 = 0) : f.set (a / 2).toNat (newI f b a) = f.set i (f[i]?.getD 0 + b) := by simp [newI, hi, h]
theorem new_odd {f : List Int} {b a : Int} {i : Nat} (hi : (a / 2).toNat = i) (h : a % 2 = 1) : f.set (a / 2).toNat (newI f b a) = f.set i (f[i]?.getD 0 - b) := by simp [newI, hi, h]

theorem rates_ok2 {caps f : List Int} (h : ratesB caps f = true) (ho : okI caps) : okI f := by
  intro i
  by_cases hi : i < f.length
  · have h1 := rates_at h (i := i) (by have := (ratesB_parts h).1; omega)
    have := ho i
    omega
  · rw [List.getElem?_eq_none (by omega)]
    simp

set_option maxHeartbeats 4000000 in
theorem Move_any (V b : Int) (A : Option Addr) (n c : Nat) (L : List Lk) (X : Option Addr) (p d : Nat) (caps : List Int) (Y : Option Addr) (q e0 : Nat) (f : List Int) (Z : Option Addr) (m e1 : Nat) (rs : List Int) (w : World) {B B' B'' B3 : Nat} (h : Lks w B A n L) (hB : B ≤ w.heap.size) (hx : Row w B' X p caps) (hB' : B' ≤ w.heap.size) (hy : Row w B'' Y q f) (hB'' : B'' ≤ w.heap.size) (hz : Row w B3 Z m rs) (hB3 : B3 ≤ w.heap.size) :
    Calls Try.prog 51 #[.agg #[.int .i64 V, .slice A n c], .slice X p d, .slice Y q e0, .int .i64 b, .slice Z m e1] w (SelPost w (movV V L caps f b rs) (movE V L caps f b rs)) := by
  have hm := hz.small
  have HL := Lib.hid h.len
  have HLX := Lib.hid hx.len
  have HLY := Lib.hid hy.len
  have HLZ := Lib.hid hz.len
  have HX := Lib.hid hx
  have HY := Lib.hid hy
  have HZ := Lib.hid hz
  have HR1 := Lib.hid (h.grown hB (grow0 w (.cells #[.int .i64 V, .slice A n c] 24)))
  have HX1 := Lib.hid (hx.grown hB' (grow0 w (.cells #[.int .i64 V, .slice A n c] 24)))
  have HY1 := Lib.hid (hy.grown hB'' (grow0 w (.cells #[.int .i64 V, .slice A n c] 24)))
  clear h hx hy hz
  go_enter Try.func51, Try.ntmps51
  go_wp2_with fail
  refine (fits_any V A n c L X p d caps Y q e0 f _ HR1.out (by simp; omega) HX1.out (by simp; omega) HY1.out (by simp; omega)).mono ?_
  rintro e w1 ⟨rfl, g1⟩
  obtain ⟨g, o2⟩ := box1 [.int .i64 V, .slice A n c] g1
  obtain ⟨c0, c1⟩ := o2.two
  have G := Lib.hid g
  clear g g1 o2 HR1 HX1 HY1
  cases hf : fitsF V L caps f
  · have E := Lib.hid (mov_form (form_fits (b := b) (rs := rs) hf))
    clear hf
    go_wp2
    go_ret2
    exact ⟨.slice none 0 0, ret_sel E.out.1, by rw [E.out.2]; exact Mine.nil _ _, G.out⟩
  have HFIT := Lib.hid hf
  obtain ⟨f1, f2, f3, f4⟩ := fits_parts hf
  have hpn : p = n := by have := (capsB_parts f2).1; have := HL.out; have := HLX.out; omega
  have hqn : q = n := by have := (capsB_parts f4).1; have := HL.out; have := HLY.out; omega
  subst hpn hqn
  have h16 := (may_8 f1 HL.out).2
  have HRT := Lib.hid f3
  clear hf f1 f2 f3 f4
  by_cases hb0 : b < 0
  · have E := Lib.hid (mov_form (form_rate (V := V) (L := L) (caps := caps) (f := f) (rs := rs) (rateF_no0 hb0)))
    go_wp2
    go_ret2
    exact ⟨.slice none 0 0, ret_sel E.out.1, by rw [E.out.2]; exact Mine.nil _ _, G.out⟩
  by_cases hb1 : 4611686018427387904 < b
  · have E := Lib.hid (mov_form (form_rate (V := V) (L := L) (caps := caps) (f := f) (rs := rs) (rateF_no1 hb1)))
    go_wp2
    go_ret2
    exact ⟨.slice none 0 0, ret_sel E.out.1, by rw [E.out.2]; exact Mine.nil _ _, G.out⟩
  by_cases hm64 : 64 < m
  · have E := Lib.hid (mov_form (form_many (V := V) (L := L) (caps := caps) (f := f) (b := b) (rs := rs) (by rw [HLZ.out]; omega)))
    go_wp2
    go_ret2
    exact ⟨.slice none 0 0, ret_sel E.out.1, by rw [E.out.2]; exact Mine.nil _ _, G.out⟩
  have hd64 : decide ((64 : Int) < (m : Int)) = false := by simp; omega
  have qb0 : decide (b < 0) = false := by simp; omega
  have qb1 : decide (4611686018427387904 < b) = false := by simp; omega
  have hm64' : ¬ (64 : Int) < (m : Int) := by omega
  go_wp2_with fail
  refine (Arcs_any V A q c Z m e1 rs _ (HZ.out.grown hB3 G.out).raw (by omega)).mono ?_
  rintro e w2 ⟨rfl, g2⟩
  have G := Lib.hid (grown_trans G.out g2)
  clear g2 c0 c1
  cases ha : allV (2 * (q : Int)) rs
  · have E := Lib.hid (mov_form (V := V) (caps := caps) (f := f) (b := b) (form_arcs (L := L) (rs := rs) (by rw [HL.out]; exact ha)))
    clear ha
    go_wp2
    go_ret2
    exact ⟨.slice none 0 0, ret_sel E.out.1, by rw [E.out.2]; exact Mine.nil _ _, G.out⟩
  have HA := Lib.hid ha
  have HF : Hid (formM V L caps f b rs = true) := form_move HFIT.out (rateF_yes (by omega) (by omega)) (by rw [HLZ.out]; omega) (by rw [HL.out]; exact ha)
  clear ha hd64 HFIT
  go_wp2_with fail
  refine (Clone_any Y q e0 f _ (HY.out.grown hB'' G.out) (by have := G.out.size; omega) (by omega)).mono ?_
  rintro e w3 ⟨v, rfl, hv, g3⟩
  obtain ⟨Av, cv, rfl, hnilv⟩ := hv.sl
  have hsz2 := G.out.size
  have hsz3 := g3.size
  have G2 := Lib.hid g3
  have HS : Hid (MvRel w2 b q m caps f rs Av cv (.int .i64 0) w3) := ⟨0, f, Nat.zero_le _, rfl, g3, hv, HRT.out, rfl⟩
  clear hv g3 G2
  go_wp2
  go_loopw [43] (fun i wr => MvRel w2 b q m caps f rs Av cv i wr) (fun i _ => m - (intOf i).toNat)
  case atStart => exact HS.out
  case round =>
    clear HS
    obtain ⟨k, g, hk, rfl, hg, hmine, hrt, hmov⟩ := hrel
    have G2 := Lib.hid hg
    have HM := Lib.hid hmine
    have HGR := Lib.hid hrt
    have HMV := Lib.hid hmov
    by_cases hlt : k < m
    · obtain ⟨bz, oz, hA, hbz, hcell⟩ := (HZ.out.grown hB3 G.out).at_ (by omega)
      subst hA
      have d0 := kept hg (hcell k hlt)
      have HAK := Lib.hid (allV_at HA.out (j := k) (by rw [HLZ.out]; exact hlt))
      have HST := Lib.hid (fun (g' : List Int) => mov_step (caps := caps) (f := g) (g := g') (rs := rs) (b := b) (k := k) (by rw [HLZ.out]; exact hlt))
      have HSP := Lib.hid (mov_stop (caps := caps) (f := g) (rs := rs) (b := b) (k := k) (by rw [HLZ.out]; exact hlt))
      obtain ⟨i, hi, hd, ht, hc⟩ := arc_cases HAK.out
      have HCX := Lib.hid (HX.out.grown hB' (grown_trans G.out G2.out))
      have HOKG := Lib.hid (rates_ok2 hrt HX.out.ok)
      clear hcell hg hmine hrt hmov
      generalize rs[k]?.getD 0 = a at *
      go_wp2_with fail
      refine (room_any X q d caps Av cv g a _ HCX.out (HM.out.rowAt HOKG.out) HAK.out HGR.out).mono ?_
      rintro e w5 ⟨rfl, g5⟩
      have G2 := Lib.hid (grown_trans G2.out g5)
      have HM := Lib.hid (HM.out.kept g5)
      clear g5 d0
      by_cases hrm : roomI caps g a < b
      · have E := Lib.hid (mov_none HF.out (HMV.out.symm.trans (HSP.out (step_room hrm))))
        clear HST HSP HAK hd ht hc
        generalize roomI caps g a = x at *
        go_wp2
        go_ret2
        exact ⟨.slice none 0 0, ret_sel E.out.1, by rw [E.out.2]; exact Mine.nil _ _, grown_trans G.out G2.out⟩
      have hgo := step_goes hrm
      have hqi := HGR.out
      have hri := rates_at hqi (i := i) (by rw [HLX.out]; exact hi)
      have hoki := HX.out.ok i
      obtain ⟨gv, cv', hAv, _, _, hrv⟩ := HM.out.shape (by omega) HOKG.out
      injection hAv with hAv _ hcv
      subst hAv hcv
      have f0 := hrv.cellAt hi
      rw [Nat.zero_add] at f0
      have f1 := HM.out.frozen i
      have hw1 : IntKind.i64.wrap (a.tdiv 2) = (i : Int) := by rw [ht]; exact IntWalk.i64_in _ (by omega)
      rcases hc with ⟨hm1, hm2, -⟩ | ⟨hm1, hm2, -⟩
      · rw [new_even hd hm1] at hgo
        rw [room_even hd hm1] at hrm ⊢
        have HKP := Lib.hid (step_keeps HLX.out HAK.out (by omega) HGR.out hgo)
        have HNX := Lib.hid ((HST.out _ hgo).symm.trans HMV.out)
        have HMS := Lib.hid (HM.out.set i (g[i]?.getD 0 + b) hi)
        have hge := HM.out.own_ge gv rfl
        have hw2 : IntKind.i64.wrap (g[i]?.getD 0 + b) = g[i]?.getD 0 + b := IntWalk.i64_in _ (by omega)
        clear HST HSP hgo hd hm1 hri hoki hqi hrv HAK
        generalize g[i]?.getD 0 = y at *
        generalize caps[i]?.getD 0 = x at *
        go_wp2_with fail
        refine (forward_yes a hm2 _).mono ?_
        rintro e w6 ⟨rfl, g6⟩
        have f0 := kept g6 f0
        have f1 := ((HM.out.kept g6).frozen i)
        have HMS := Lib.hid ((HM.out.kept g6).set i (y + b) hi)
        have G2 := Lib.hid (grown_trans G2.out g6)
        clear g6
        go_wp2
        go_roundw
        case rel => exact ⟨k + 1, _, by omega, by go_num, grown_new G2.out hge _, HMS.out, HKP.out, HNX.out⟩
        case measure => simp [intOf]; omega
      · rw [new_odd hd hm1] at hgo
        rw [room_odd hd hm1] at hrm ⊢
        have HKP := Lib.hid (step_keeps HLX.out HAK.out (by omega) HGR.out hgo)
        have HNX := Lib.hid ((HST.out _ hgo).symm.trans HMV.out)
        have hge := HM.out.own_ge gv rfl
        have hw2 : IntKind.i64.wrap (g[i]?.getD 0 - b) = g[i]?.getD 0 - b := IntWalk.i64_in _ (by omega)
        clear HST HSP hgo hd hm1 hri hoki hqi hrv HAK
        generalize g[i]?.getD 0 = y at *
        go_wp2_with fail
        refine (forward_no a hm2 _).mono ?_
        rintro e w6 ⟨rfl, g6⟩
        have f0 := kept g6 f0
        have f1 := ((HM.out.kept g6).frozen i)
        have HMS := Lib.hid ((HM.out.kept g6).set i (y - b) hi)
        have G2 := Lib.hid (grown_trans G2.out g6)
        clear g6
        go_wp2
        go_roundw
        case rel => exact ⟨k + 1, _, by omega, by go_num, grown_new G2.out hge _, HMS.out, HKP.out, HNX.out⟩
        case measure => simp [intOf]; omega
    · obtain rfl : k = m := by omega
      have E := Lib.hid (mov_some HF.out (HMV.out.symm.trans (mov_end (by rw [HLZ.out]; exact Nat.le_refl _))))
      have HLG := Lib.hid HM.out.len
      clear hg hmine hrt hmov
      go_wp2
      go_ret2
      exact ⟨_, ret_sel E.out.1, by rw [E.out.2, HLG.out]; exact HM.out.wide hsz2, grown_trans G.out G2.out⟩

end Go.Proofs.Ytmodkhcfihlhgaa
