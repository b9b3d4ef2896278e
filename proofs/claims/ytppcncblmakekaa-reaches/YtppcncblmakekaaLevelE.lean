/-
  The reference's Levels.
-/
import Derived.Test.YtppcncblmakekaaLevelD
set_option maxRecDepth 20000
namespace Go.Proofs.Ytppcncblmakekaa
open Go.RowKit

theorem lvIs_no {V : Int} {ls : List Lk} {caps f : List Int} {s : Int} {M : List Int} {z : Int} (h : LvIs V ls caps f s M z) (k : lvB V ls caps f s = false) : M = [] ∧ z = 1000 := by
  rcases h with ⟨h1, _⟩ | ⟨_, h2, h3⟩
  · rw [k] at h1; cases h1
  · exact ⟨h3, h2⟩

theorem lvIs_yes {V : Int} {ls : List Lk} {caps f : List Int} {s : Int} {M : List Int} {z : Int} (h : LvIs V ls caps f s M z) (k : lvB V ls caps f s = true) : z = 0 ∧ IsLv V.toNat (Leads ls caps f (2 * ls.length)) s M := by
  rcases h with ⟨_, h2, h3⟩ | ⟨h1, _⟩
  · exact ⟨h2, h3⟩
  · rw [k] at h1; cases h1

theorem rep_set {n k : Nat} {x : Int} (h : k < n) : (repL n k x).set k (.int .i64 x) = repL n (k + 1) x := by
  unfold repL
  rw [ints_set]
  congr 1
  rw [List.set_append_right _ _ (by simp), List.length_replicate, Nat.sub_self]
  obtain ⟨m, hm⟩ : ∃ m, n - k = m + 1 := ⟨n - k - 1, by omega⟩
  rw [hm, List.replicate_succ, List.set_cons_zero, show n - (k + 1) = m by omega, List.replicate_succ', List.append_assoc]
  rfl

def FillRel (w : World) (p g vn : Nat) (A : Option Addr) (n c : Nat) (i : Value) (wr : World) : Prop :=
  ∃ k : Nat, k ≤ vn ∧ i = .int .i64 (k : Nat) ∧ w.grownBy wr none ∧ Own wr p 24 [.int .i64 (vn : Nat), .slice A n c] ∧ Own wr g 3 (repL vn k (-1))

def RnRel (w : World) (p g vn : Nat) (A : Option Addr) (n c : Nat) (ls : List Lk) (caps f M : List Int) (i : Value) (wr : World) : Prop :=
  ∃ (t : Nat) (R : List Int), t ≤ vn ∧ i = .int .i64 (t : Nat) ∧ w.grownBy wr none ∧ Own wr p 24 [.int .i64 (vn : Nat), .slice A n c] ∧ Own wr g 3 (ints R) ∧ Rnd vn ls caps f M R t 0

def RnIn (w : World) (p g vn : Nat) (A : Option Addr) (n c : Nat) (ls : List Lk) (caps f M : List Int) (t : Nat) (i : Value) (wr : World) : Prop :=
  ∃ (k : Nat) (R : List Int), k ≤ 2 * n ∧ i = .int .i64 (k : Nat) ∧ w.grownBy wr none ∧ Own wr p 24 [.int .i64 (vn : Nat), .slice A n c] ∧ Own wr g 3 (ints R) ∧ Rnd vn ls caps f M R t k

theorem lv_none {w w' : World} {V : Int} {ls : List Lk} {caps f : List Int} {s : Int} {M : List Int} {z : Int} (h : LvIs V ls caps f s M z) (k : lvB V ls caps f s = false) (g : w.grownBy w' none) : SelPost w M z (.returned (.tuple #[.slice none 0 0, .int .i64 1000])) w' := by
  obtain ⟨rfl, rfl⟩ := lvIs_no h k
  exact ⟨_, rfl, Mine.nil _ _, g⟩

set_option maxRecDepth 20000 in
set_option maxHeartbeats 4000000 in
theorem RLevels_any (V s : Int) (A : Option Addr) (n c : Nat) (ls : List Lk) (X : Option Addr) (m d : Nat) (caps : List Int) (Y : Option Addr) (r e0 : Nat) (f : List Int) (w : World) {B B' B'' : Nat} (h : Lks w B A n ls) (hB : B ≤ w.heap.size) (hx : Row w B' X m caps) (hB' : B' ≤ w.heap.size) (hy : Row w B'' Y r f) (hB'' : B'' ≤ w.heap.size)
    (M : List Int) (z : Int) (hM : LvIs V ls caps f s M z) : Calls Try.prog 23 #[.agg #[.int .i64 V, .slice A n c], .slice X m d, .slice Y r e0, .int .i64 s] w (SelPost w M z) := by
  have HL := Lib.hid h.len
  have HLX := Lib.hid hx.len
  have HLY := Lib.hid hy.len
  have HR := Lib.hid h
  have HX := Lib.hid hx
  have HY := Lib.hid hy
  have HM := Lib.hid hM
  have HR1 := Lib.hid (h.grown hB (grow0 w (.cells #[.int .i64 V, .slice A n c] 24)))
  have HX1 := Lib.hid (hx.grown hB' (grow0 w (.cells #[.int .i64 V, .slice A n c] 24)))
  obtain ⟨i0, hi, hz0, hz1, hz2⟩ := info_parts info3
  have HI := Lib.hid hi
  have HZ0 := Lib.hid hz0
  have HZ1 := Lib.hid hz1
  have HZ2 := Lib.hid hz2
  clear hi hz0 hz1 hz2 h hx hy hM
  go_enter Try.func23, Try.ntmps23
  go_wp2_with fail
  refine (RCaps_any V A n c ls X m d caps _ HR1.out (by simp; omega) HX1.out).mono ?_
  rintro e w1 ⟨rfl, g1⟩
  obtain ⟨g, o2⟩ := box1 [.int .i64 V, .slice A n c] g1
  have G := Lib.hid g
  have O2 := Lib.hid o2
  clear g g1 o2 HR1 HX1
  cases hf : (mayG V ls && capsB ls caps)
  · have E : Hid (lvB V ls caps f s = false) := by rw [Hid, lvB, fitsF, hf]; rfl
    clear hf
    go_wp2
    go_ret2
    exact lv_none HM.out E.out G.out
  rw [Bool.and_eq_true] at hf
  have HF := Lib.hid hf
  clear hf
  go_wp2_with fail
  refine (RWithin_any X m d caps Y r e0 f _ (HX.out.grown hB' G.out) (HY.out.grown hB'' G.out)).mono ?_
  rintro e w2 ⟨rfl, g2⟩
  have G := Lib.hid (grown_trans G.out g2)
  have O2 := Lib.hid (O2.out.kept g2)
  clear g2
  obtain ⟨c0, c1⟩ := O2.out.two
  cases hrt : ratesB caps f
  · have E := Lib.hid (lvB_rates (V := V) (ls := ls) (s := s) hrt)
    clear hrt
    go_wp2
    go_ret2
    exact lv_none HM.out E.out G.out
  have HRT := Lib.hid hrt
  clear hrt
  go_wp2_with fail
  refine (RVertex_any V s A n c _).mono ?_
  rintro e w3 ⟨rfl, g3⟩
  have G := Lib.hid (grown_trans G.out g3)
  have O2 := Lib.hid (O2.out.kept g3)
  clear g3 c0 c1
  obtain ⟨c0, c1⟩ := O2.out.two
  cases hs : isV V s
  · have E := Lib.hid (lvB_src (ls := ls) (caps := caps) (f := f) hs)
    clear hs
    go_wp2
    go_ret2
    exact lv_none HM.out E.out G.out
  have hB0 := lvB_all HF.out.1 HF.out.2 HRT.out hs
  have h16 := may_small HF.out.1
  rw [HL.out] at h16
  obtain ⟨vn, rfl⟩ : ∃ vn : Nat, V = (vn : Nat) := ⟨V.toNat, by omega⟩
  have hsv : 0 ≤ s ∧ s < vn := by simpa [isV] using hs
  obtain ⟨sn, rfl⟩ : ∃ sn : Nat, s = (sn : Nat) := ⟨s.toNat, by omega⟩
  obtain ⟨rfl, hlv⟩ := lvIs_yes HM.out hB0
  rw [HL.out, Int.toNat_natCast] at hlv
  have LV := Lib.hid hlv
  have hpn : m = n := by have := (capsB_parts HF.out.2).1; have := HL.out; have := HLX.out; omega
  have hqn : r = n := by have := (ratesB_parts HRT.out).1; have := HLX.out; have := HLY.out; omega
  subst hpn hqn
  clear hs hB0 hlv HM
  go_wp2_with (first | (refine wpList_make_full _ rfl _ _ 25 rfl w3.heap.size 3 i0 (.int .i64 0) 1 Try.underlying25 HI.out HZ0.out HZ1.out .i64 .i64 (vn : Int) (vn : Int) vn rfl rfl rfl rfl (by rw [HZ2.out]; omega) (by unfold maxLen; omega) (Nat.le_refl _) ?_))
  intro w4 hmk k4
  rw [toList_madeCells_one, rep_zero vn (-1)] at hmk
  have HS : Hid (FillRel w w.heap.size w3.heap.size vn A r c (.int .i64 0) w4) := ⟨0, Nat.zero_le _, rfl, grown_trans G.out k4, O2.out.kept k4, Own.of_made hmk⟩
  have l3 := O2.out.lt
  have hs3 := G.out.size
  clear hmk k4 G O2 c0 c1 HI HZ0 HZ1 HZ2
  go_wp2
  go_loopw [11] (fun i wr => FillRel w w.heap.size w3.heap.size vn A r c i wr) (fun i _ => vn - (intOf i).toNat)
  case atStart => exact HS.out
  case round =>
    clear HS
    obtain ⟨k, hk, rfl, hgr, ob, oo⟩ := hrel
    have GR := Lib.hid hgr
    have OB := Lib.hid ob
    have OO := Lib.hid oo
    obtain ⟨c0, c1⟩ := ob.two
    clear hgr ob oo
    by_cases hlt : k < vn
    · have e1 := OO.out.cell k
      rw [List.getElem?_eq_getElem (by rw [rep_len hk]; exact hlt)] at e1
      have f1 := OO.out.frozen k
      go_wp2
      go_roundw
      case rel => exact ⟨k + 1, by omega, by go_num, grown_new GR.out (by omega) _, OB.out.setOther (by omega) _, by have := OO.out.put (i := k) (.int .i64 (-1)); rw [rep_set hlt] at this; exact this⟩
      case measure => simp [intOf]; omega
    · obtain rfl : vn = k := by omega
      have oo := OO.out
      rw [rep_full] at oo
      have e1 : wr.cell? ⟨w3.heap.size, sn, none⟩ = some (.int .i64 (-1)) := by
        rw [oo.cell sn, ints_get _ _ (by simp; omega), List.getElem?_replicate, if_pos (by omega)]
        rfl
      have f1 := oo.frozen sn
      have HS : Hid (RnRel w w.heap.size w3.heap.size vn A r c ls caps f M (.int .i64 0) (wr.setCell ⟨w3.heap.size, sn, none⟩ (.int .i64 0))) := by
        refine ⟨0, (List.replicate vn (-1)).set sn 0, Nat.zero_le _, rfl, grown_new GR.out (by omega) _, OB.out.setOther (by omega) _, ?_, ?_⟩
        · have := oo.put (i := sn) (.int .i64 0)
          rw [ints_set] at this
          exact this
        · have := rnd_first (ls := ls) (caps := caps) (f := f) (s := (sn : Int)) ⟨by omega, by omega⟩ LV.out
          rw [Int.toNat_natCast] at this
          exact this
      clear oo OO GR OB
      go_wp2
      go_loopw [12] (fun i wr => RnRel w w.heap.size w3.heap.size vn A r c ls caps f M i wr) (fun i _ => vn - (intOf i).toNat)
      case atStart => exact HS.out
      case round =>
        clear HS c0 c1 e1 f1
        obtain ⟨t, R, ht, rfl, hgr, ob, oo, rnd⟩ := hrel
        have GR := Lib.hid hgr
        have OB := Lib.hid ob
        have OO := Lib.hid oo
        have RD := Lib.hid rnd
        obtain ⟨c0, c1⟩ := ob.two
        clear hgr ob oo rnd
        by_cases hlt2 : t < vn
        · have HS : Hid (RnIn w w.heap.size w3.heap.size vn A r c ls caps f M t (.int .i64 0) wr) := ⟨0, R, Nat.zero_le _, rfl, GR.out, OB.out, OO.out, RD.out⟩
          clear GR OB OO RD
          go_wp2
          go_loopw [13] (fun i wi => RnIn w w.heap.size w3.heap.size vn A r c ls caps f M t i wi) (fun i _ => 2 * r - (intOf i).toNat)
          case atStart => exact HS.out
          case round =>
            clear HS c0 c1
            obtain ⟨k, R, hk2, rfl, hgr, ob, oo, rnd⟩ := hrel
            have GR := Lib.hid hgr
            have OB := Lib.hid ob
            have OO := Lib.hid oo
            have RD := Lib.hid rnd
            have hl := rnd.len
            have hsz := hgr.size
            obtain ⟨c0, c1⟩ := ob.two
            clear hgr ob oo rnd
            by_cases hkl : k < 2 * r
            · have hti : inV vn (tailOf ls k) := by have := tail_bd HF.out.1 (a := k) (by have := HL.out; omega); exact ⟨this.1, this.2⟩
              have hhi : inV vn (headOf ls k) := by have := head_bd HF.out.1 (a := k) (by have := HL.out; omega); exact ⟨this.1, this.2⟩
              have SK := Lib.hid (fun no => rnd_skip RD.out hti no)
              have PU := Lib.hid (fun h1 h2 h3 => rnd_put LV.out RD.out hkl hti hhi h1 h2 h3)
              have TA := Lib.hid (fun (wx : World) (gx : w.grownBy wx none) => RTail_any (vn : Nat) A r c ls k wx (HR.out.grown hB gx) hkl)
              have HA := Lib.hid (fun (wx : World) (gx : w.grownBy wx none) => RHead_any (vn : Nat) A r c ls k wx (HR.out.grown hB gx) hkl)
              have RA := Lib.hid (fun (wx : World) (gx : w.grownBy wx none) => Rroom_any X r d caps Y e0 f (k : Nat) wx (HX.out.grown hB' gx) (HY.out.grown hB'' gx) (isV_yes (by omega) (by omega)) HRT.out)
              have bt := rnd_len RD.out _ hti
              have bh := rnd_len RD.out _ hhi
              obtain ⟨tl, htl⟩ : ∃ tl : Nat, tailOf ls k = (tl : Nat) := ⟨(tailOf ls k).toNat, by have := hti.1; omega⟩
              obtain ⟨hd, hhd⟩ : ∃ hd : Nat, headOf ls k = (hd : Nat) := ⟨(headOf ls k).toNat, by have := hhi.1; omega⟩
              rw [htl] at SK PU TA bt hti
              rw [hhd] at SK PU HA bh hhi
              rw [Int.toNat_natCast] at PU
              have htn : tl < vn := by have := hti.2; omega
              have hhn : hd < vn := by have := hhi.2; omega
              have e1 := lv_cell (v := tl) OO.out (by omega)
              have e2 := lv_cell (v := hd) OO.out (by omega)
              have E1 := Lib.hid e1
              have E2 := Lib.hid e2
              clear e1 e2 htl hhd
              generalize lvAt R (tl : Int) = lt at *
              generalize lvAt R (hd : Int) = lh at *
              generalize roomI caps f (k : Int) = rm at *
              go_wp2_with fail
              refine (TA.out _ GR.out).mono ?_
              rintro e w5 ⟨rfl, g5⟩
              have e1 := kept g5 E1.out
              have G5 := Lib.hid (grown_trans GR.out g5)
              have OB5 := Lib.hid (OB.out.kept g5)
              have OO5 := Lib.hid (OO.out.kept g5)
              have E25 := Lib.hid (kept g5 E2.out)
              clear g5 c0 c1
              by_cases h1 : lt = (t : Int)
              · subst h1
                have h1b : ((t : Int) == (t : Int)) = true := by simp
                go_wp2_with fail
                refine (RA.out _ G5.out).mono ?_
                rintro e w6 ⟨rfl, g6⟩
                have G6 := Lib.hid (grown_trans G5.out g6)
                have OB6 := Lib.hid (OB5.out.kept g6)
                have OO6 := Lib.hid (OO5.out.kept g6)
                have E26 := Lib.hid (kept g6 E25.out)
                obtain ⟨c0, c1⟩ := OB6.out.two
                clear g6 e1 G5 OB5 OO5 E25
                by_cases h2 : 0 < rm
                · go_wp2_with fail
                  refine (HA.out _ G6.out).mono ?_
                  rintro e w7 ⟨rfl, g7⟩
                  have G7 := Lib.hid (grown_trans G6.out g7)
                  have OB7 := Lib.hid (OB6.out.kept g7)
                  have OO7 := Lib.hid (OO6.out.kept g7)
                  have e2 := kept g7 E26.out
                  clear g7 c0 c1 G6 OB6 OO6
                  obtain ⟨c0, c1⟩ := OB7.out.two
                  by_cases h3 : lh < 0
                  · have PU2 := Lib.hid (PU.out (by first | trivial | rfl) h2 h3)
                    clear SK PU
                    go_wp2_with fail
                    refine (HA.out _ G7.out).mono ?_
                    rintro e w8 ⟨rfl, g8⟩
                    have G8 := Lib.hid (grown_trans G7.out g8)
                    have OB8 := Lib.hid (OB7.out.kept g8)
                    have oo8 := OO7.out.kept g8
                    have f8 := oo8.frozen hd
                    have e8 := kept g8 e2
                    have OS8 := oo8.put (i := hd) (.int .i64 ((t : Int) + 1))
                    rw [ints_set] at OS8
                    have OO8 := Lib.hid OS8
                    clear g8 c0 c1 G7 OB7 OO7 e2 oo8 OS8
                    go_wp2
                    go_roundw
                    case rel => exact ⟨k + 1, R.set hd ((t : Int) + 1), by omega, by go_num, grown_new G8.out (by omega) _, OB8.out.setOther (by omega) _, OO8.out, PU2.out⟩
                    case measure => simp [intOf]; omega
                  · have SK2 := Lib.hid (SK.out (fun h => h3 h.2.2))
                    clear SK PU
                    go_wp2
                    go_roundw
                    case rel => exact ⟨k + 1, R, by omega, by go_num, G7.out, OB7.out, OO7.out, SK2.out⟩
                    case measure => simp [intOf]; omega
                · have SK2 := Lib.hid (SK.out (fun h => h2 h.2.1))
                  clear SK PU
                  go_wp2
                  go_roundw
                  case rel => exact ⟨k + 1, R, by omega, by go_num, G6.out, OB6.out, OO6.out, SK2.out⟩
                  case measure => simp [intOf]; omega
              · have h1b : (lt == (t : Int)) = false := by simp [h1]
                have SK2 := Lib.hid (SK.out (fun h => h1 h.1))
                clear SK PU
                go_wp2
                go_roundw
                case rel => exact ⟨k + 1, R, by omega, by go_num, G5.out, OB5.out, OO5.out, SK2.out⟩
                case measure => simp [intOf]; omega
            · obtain rfl : k = 2 * r := by omega
              have RN := Lib.hid (rnd_round LV.out RD.out)
              go_wp2
              go_roundw
              case rel => exact ⟨t + 1, R, by omega, by go_num, GR.out, OB.out, OO.out, RN.out⟩
              case measure => simp [intOf]; omega
        · obtain rfl : vn = t := by omega
          have hrm := rnd_end LV.out RD.out
          subst hrm
          have hl := RD.out.len
          go_wp2
          go_ret2
          exact ⟨_, rfl, by rw [hl]; exact OO.out.mine (by omega) hl (by omega), GR.out⟩

end Go.Proofs.Ytppcncblmakekaa
