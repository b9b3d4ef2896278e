/-
  The walk of the law RateGauges: it answers true and changes nothing that was there.
-/
import Derived.Test.YtccahhfeibnchaaMeters
import Derived.StillTailTactics
import Derived.Deep.DeepCutAuto
namespace Go.Proofs.Ytccahhfeibnchaa
open Go.RowKit

def floorOf (m : Int) : Int := if m < 0 then 0 else m
theorem top_floor (m : Int) : topOf m = if 4611686018427387904 < floorOf m then 4611686018427387904 else floorOf m := by
  unfold topOf floorOf
  by_cases h : m < 0
  · rw [if_pos h, if_pos h, if_neg (by omega)]
  · rw [if_neg h, if_neg h]

theorem own_eq1 (top t : Int) (xs : List Int) (hs : addB t xs = true) (h : addV t xs ≤ top) : ownB top t xs = true ∧ ownV top t xs = addV t xs := by
  have e : ownB top t xs = true := by rw [ownB, hs]; simpa using h
  exact ⟨e, by rw [ownV, if_pos e]⟩
theorem own_eq2 (top t : Int) (xs : List Int) (h : addB t xs = false ∨ top < addV t xs) : ownB top t xs = false ∧ ownV top t xs = t := by
  have e : ownB top t xs = false := by
    rcases h with h | h
    · rw [ownB, h]; rfl
    · rw [ownB]; simp; intro _; omega
  exact ⟨e, by rw [ownV, e]; rfl⟩

def GaugesRel (w : World) (n m : Nat) (top : Int) (tot i : Value) (wr : World) : Prop :=
  ∃ (k : Nat) (t : Int), k ≤ n ∧ k ≤ m ∧ i = .int .i64 k ∧ tot = .int .i64 t ∧ 0 ≤ t ∧ t ≤ 4611686018427387904 ∧ Own wr w.heap.size 43 [.int .i64 t, .int .i64 top] ∧ Below w.heap.size w wr

set_option maxRecDepth 100000 in
set_option maxHeartbeats 1600000 in
theorem RateGauges_walk (most : Int) (A : Option Addr) (n c : Nat) (A2 : Option Addr) (m c2 : Nat) (zs : List Int) (w : World) (hmost : -9223372036854775808 ≤ most ∧ most ≤ 9223372036854775807) (h : Mat w A n) (h2 : In w A2 m c2 zs) :
    Calls Try.prog 8 #[.int .i64 most, .slice A n c, .slice A2 m c2] w fun e w' => e = .returned (.bool true) ∧ Below w.heap.size w w' := by
  have hn := h.1
  have hm := h2.1.small
  have HM := Lib.hid h.2
  have HZ := Lib.hid h2.1
  clear h h2
  have htop := topOf_bd most
  go_enter Try.func8, Try.ntmps8
  go_wp2_with fail
  refine (NewGauge_any most _ hmost).mono ?_
  rintro e w1 ⟨rfl, rfl⟩
  go_upto_if 22 with fail
  go_cut [8] (fun s8 wx => s8 = .int .i64 (floorOf most) ∧ w.alloc (.cells #[.int .i64 0, .int .i64 (topOf most)] 43) = wx)
  case first =>
    by_cases ha : most < 0
    · go_wp2_with fail
      go_meet
      exact ⟨by rw [floorOf, if_pos ha], rfl⟩
    · go_wp2_with fail
      go_meet
      exact ⟨by rw [floorOf, if_neg (by omega)], rfl⟩
  case rest =>
    obtain ⟨rfl, rfl⟩ := hcut
    go_upto_if 24 with fail
    go_cut [8] (fun s8 wx => s8 = .int .i64 (topOf most) ∧ w.alloc (.cells #[.int .i64 0, .int .i64 (topOf most)] 43) = wx)
    case first =>
      by_cases ha : 4611686018427387904 < floorOf most
      · go_wp2_with fail
        go_meet
        exact ⟨by rw [top_floor, if_pos ha], rfl⟩
      · go_wp2_with fail
        go_meet
        exact ⟨by rw [top_floor, if_neg (by omega)], rfl⟩
    case rest =>
      obtain ⟨rfl, rfl⟩ := hcut
      generalize topOf most = top at *
      go_wp2
      go_loopw [9, 10] (fun tot i wr => GaugesRel w n m top tot i wr) (fun _ i _ => n - (intOf i).toNat)
      case atStart => exact ⟨0, 0, Nat.zero_le _, Nat.zero_le _, rfl, rfl, by omega, by omega, Own.new w 43 [.int .i64 0, .int .i64 top], (Below.refl _ _).alloc (Nat.le_refl _) _⟩
      case round =>
        obtain ⟨k, t, hk, hk2, rfl, rfl, h0, h1, ho, hb⟩ := hrel
        have HO := Lib.hid ho
        have HB := Lib.hid hb
        clear ho hb
        by_cases hlt : k < n
        · by_cases hlt2 : k < m
          · obtain ⟨b, off, a, l, cc, xs, hA, hbB, hcell, hrow, hlc, hreach, hnil⟩ := HM.out k hlt
            subst hA
            obtain ⟨b2, off2, hA2, hbB2, hcell2⟩ := HZ.out.at_ (by omega)
            subst hA2
            have hzb := HZ.out.ok k
            have hc : wr.cell? ⟨b, off + k, none⟩ = some (.slice a l cc) := (HB.out.cell hbB).trans hcell
            have hcz0 := hcell2 k hlt2
            generalize zs[k]?.getD 0 = z at *
            have HROW := Lib.hid (hrow.keep fun p hp => HB.out.cell (w' := wr) hp)
            have HNIL := Lib.hid hnil
            have hz : w.heap.size < wr.heap.size := HO.out.lt
            have HMS := Lib.hid (meter_sum t xs h0 h1)
            have HMINE := Lib.hid (Mine.lit (w := wr) (base := wr.heap.size) [t] 1 rfl rfl rfl (Nat.le_refl _) (by simp))
            have hbr : b < wr.heap.size := by omega
            have HCZ0 := Lib.hid hcz0
            clear hcell hrow hnil hcell2 hcz0
            go_wp2_with (first | (at_builtin; refine wpList_app _ rfl _ _ rfl wr.heap.size _ 1 [t] rfl HMINE.out (B := w.heap.size) a l cc xs rfl ?_ HNIL.out (by omega) (by simp) ?_))
            · exact HROW.out.keep fun p hp => World.cell?_alloc_lt _ _ _ (by omega)
            intro v1 w2 hmine hg _
            have hok := HROW.out.ok
            obtain ⟨A1, c1, hv, _, hrow1⟩ := hmine.row (cons_ok t xs h0 h1 hok)
            have HB2 := Lib.hid (below_step (HB.out.alloc (by omega) (.cells #[.int .i64 t] 3)) (by simp; omega) hg (Nat.le_of_lt hz))
            have HO2 : Hid (Own w2 w.heap.size 43 [.int .i64 t, .int .i64 top]) := (HO.out.alloc _).keep (hg.block _ (by simp; omega) (by simp [Value.ownBlock]; omega))
            have HROW2 : Hid (Row w2 w.heap.size a l xs) := HROW.out.keep fun p hp => (HB2.out.cell hp).trans (HB.out.cell hp).symm
            have hc2 : w2.cell? ⟨b, off + k, none⟩ = some (.slice a l cc) := (HB2.out.cell (p := ⟨b, off + k, none⟩) hbB).trans ((HB.out.cell (p := ⟨b, off + k, none⟩) hbB).symm.trans hc)
            have hcz : w2.cell? ⟨b2, off2 + k, none⟩ = some (.int .i64 z) := (HB2.out.cell (p := ⟨b2, off2 + k, none⟩) hbB2).trans HCZ0.out
            have HROW1 := Lib.hid hrow1
            rw [hv]
            clear hv hmine hg hrow1 hok hc HB HO HROW HMINE HCZ0
            go_wp2_with fail
            refine (RefSum_any A1 (1 + l) c1 (t :: xs) _ HROW1.out).mono ?_
            rintro e w3 ⟨rfl, rfl⟩
            rw [HMS.out.1]
            have hbd := addV_bd t xs h0 h1
            cases hev : (z.tmod 2 == 0) with
            | true =>
              cases hs : addB t xs with
              | true =>
                have e := HMS.out.2.1 hs
                rw [e]
                by_cases hle : addV t xs ≤ top
                · have HW : Hid (ownB top t xs = true ∧ ownV top t xs = addV t xs) := own_eq1 top t xs hs hle
                  clear e hs HMS
                  go_wp2_with fail
                  refine (GaugeAdd_any w.heap.size 43 t top a l cc xs _ HROW2.out HO2.out h0 h1 htop.1 htop.2).mono ?_
                  rintro e w3 ⟨rfl, ho, hg⟩
                  rw [HW.out.1]
                  rw [HW.out.2] at ho
                  generalize addV t xs = u at *
                  have hcu : w3.cell? ⟨w.heap.size, 0, none⟩ = some (.int .i64 u) := ho.cell 0
                  have hcd : w3.cell? ⟨w.heap.size, 1, none⟩ = some (.int .i64 top) := ho.cell 1
                  have HO3 := Lib.hid ho
                  have HB3 := Lib.hid (below_step HB2.out (by have := HB2.out.size; omega) hg (Nat.le_refl _))
                  have HRM : Hid (roomOf top u = top - u) := by show _ = _; rw [roomOf, if_neg (by omega)]
                  clear ho hg hc2 hcz HROW2 HROW1 HO2 HB2
                  go_wp2_with fail
                  refine (Total_any _ u _ hcu).mono ?_
                  rintro e w4 ⟨rfl, rfl⟩
                  go_wp2_with fail
                  refine (Total_any _ u _ hcu).mono ?_
                  rintro e w4 ⟨rfl, rfl⟩
                  go_wp2_with fail
                  refine (Room_any _ u top _ hcu hcd (by omega) (by omega) (by omega) (by omega)).mono ?_
                  rintro e w4 ⟨rfl, nn, rfl⟩
                  rw [HRM.out]
                  clear hcu hcd
                  go_wp2
                  go_roundw
                  case rel => exact ⟨k + 1, u, by omega, by omega, by go_num, rfl, by omega, by omega, HO3.out, below_drewN HB3.out _⟩
                  case measure => simp [intOf]; omega
                · have HW : Hid (ownB top t xs = false ∧ ownV top t xs = t) := own_eq2 top t xs (.inr (by omega))
                  have hle2 : decide (addV t xs ≤ top) = false := by simpa using hle
                  clear e hs HMS
                  go_wp2_with fail
                  refine (GaugeAdd_any w.heap.size 43 t top a l cc xs _ HROW2.out HO2.out h0 h1 htop.1 htop.2).mono ?_
                  rintro e w3 ⟨rfl, ho, hg⟩
                  rw [HW.out.1]
                  rw [HW.out.2] at ho
                  have hcu : w3.cell? ⟨w.heap.size, 0, none⟩ = some (.int .i64 t) := ho.cell 0
                  have hcd : w3.cell? ⟨w.heap.size, 1, none⟩ = some (.int .i64 top) := ho.cell 1
                  have HO3 := Lib.hid ho
                  have HB3 := Lib.hid (below_step HB2.out (by have := HB2.out.size; omega) hg (Nat.le_refl _))
                  clear ho hg hc2 hcz HROW2 HROW1 HO2 HB2
                  by_cases hr : top < t
                  · have HRM : Hid (roomOf top t = 0) := by show _ = _; rw [roomOf, if_pos hr]
                    go_wp2_with fail
                    refine (Total_any _ t _ hcu).mono ?_
                    rintro e w4 ⟨rfl, rfl⟩
                    go_wp2_with fail
                    refine (Total_any _ t _ hcu).mono ?_
                    rintro e w4 ⟨rfl, rfl⟩
                    go_wp2_with fail
                    refine (Room_any _ t top _ hcu hcd (by omega) (by omega) (by omega) (by omega)).mono ?_
                    rintro e w4 ⟨rfl, nn, rfl⟩
                    rw [HRM.out]
                    clear hcu hcd
                    go_wp2
                    go_roundw
                    case rel => exact ⟨k + 1, t, by omega, by omega, by go_num, rfl, by omega, by omega, HO3.out, below_drewN HB3.out _⟩
                    case measure => simp [intOf]; omega
                  · have HRM : Hid (roomOf top t = top - t) := by show _ = _; rw [roomOf, if_neg hr]
                    go_wp2_with fail
                    refine (Total_any _ t _ hcu).mono ?_
                    rintro e w4 ⟨rfl, rfl⟩
                    go_wp2_with fail
                    refine (Total_any _ t _ hcu).mono ?_
                    rintro e w4 ⟨rfl, rfl⟩
                    go_wp2_with fail
                    refine (Room_any _ t top _ hcu hcd (by omega) (by omega) (by omega) (by omega)).mono ?_
                    rintro e w4 ⟨rfl, nn, rfl⟩
                    rw [HRM.out]
                    clear hcu hcd
                    go_wp2
                    go_roundw
                    case rel => exact ⟨k + 1, t, by omega, by omega, by go_num, rfl, by omega, by omega, HO3.out, below_drewN HB3.out _⟩
                    case measure => simp [intOf]; omega
              | false =>
                have HW : Hid (ownB top t xs = false ∧ ownV top t xs = t) := own_eq2 top t xs (.inl hs)
                clear hs HMS
                go_wp2_with fail
                refine (GaugeAdd_any w.heap.size 43 t top a l cc xs _ HROW2.out HO2.out h0 h1 htop.1 htop.2).mono ?_
                rintro e w3 ⟨rfl, ho, hg⟩
                rw [HW.out.1]
                rw [HW.out.2] at ho
                have hcu : w3.cell? ⟨w.heap.size, 0, none⟩ = some (.int .i64 t) := ho.cell 0
                have hcd : w3.cell? ⟨w.heap.size, 1, none⟩ = some (.int .i64 top) := ho.cell 1
                have HO3 := Lib.hid ho
                have HB3 := Lib.hid (below_step HB2.out (by have := HB2.out.size; omega) hg (Nat.le_refl _))
                clear ho hg hc2 hcz HROW2 HROW1 HO2 HB2
                by_cases hr : top < t
                · have HRM : Hid (roomOf top t = 0) := by show _ = _; rw [roomOf, if_pos hr]
                  go_wp2_with fail
                  refine (Total_any _ t _ hcu).mono ?_
                  rintro e w4 ⟨rfl, rfl⟩
                  go_wp2_with fail
                  refine (Total_any _ t _ hcu).mono ?_
                  rintro e w4 ⟨rfl, rfl⟩
                  go_wp2_with fail
                  refine (Room_any _ t top _ hcu hcd (by omega) (by omega) (by omega) (by omega)).mono ?_
                  rintro e w4 ⟨rfl, nn, rfl⟩
                  rw [HRM.out]
                  clear hcu hcd
                  go_wp2
                  go_roundw
                  case rel => exact ⟨k + 1, t, by omega, by omega, by go_num, rfl, by omega, by omega, HO3.out, below_drewN HB3.out _⟩
                  case measure => simp [intOf]; omega
                · have HRM : Hid (roomOf top t = top - t) := by show _ = _; rw [roomOf, if_neg hr]
                  go_wp2_with fail
                  refine (Total_any _ t _ hcu).mono ?_
                  rintro e w4 ⟨rfl, rfl⟩
                  go_wp2_with fail
                  refine (Total_any _ t _ hcu).mono ?_
                  rintro e w4 ⟨rfl, rfl⟩
                  go_wp2_with fail
                  refine (Room_any _ t top _ hcu hcd (by omega) (by omega) (by omega) (by omega)).mono ?_
                  rintro e w4 ⟨rfl, nn, rfl⟩
                  rw [HRM.out]
                  clear hcu hcd
                  go_wp2
                  go_roundw
                  case rel => exact ⟨k + 1, t, by omega, by omega, by go_num, rfl, by omega, by omega, HO3.out, below_drewN HB3.out _⟩
                  case measure => simp [intOf]; omega
            | false =>
              cases hs : addB t xs with
              | true =>
                have e := HMS.out.2.1 hs
                rw [e]
                have HSB := Lib.hid hs
                clear e hs HMS
                go_wp2_with fail
                go_still_tail 7, (by kernel_rfl)
                go_wp2_with fail
                refine (MeterAdd_any w.heap.size 43 t [.int .i64 top] a l cc xs _ (B := w.heap.size) ?_ ?_ h0 h1).mono ?_
                · exact HROW2.out.keep fun _ _ => rfl
                · exact HO2.out
                rintro e w3 ⟨rfl, ho, hg⟩
                rw [HSB.out]
                generalize addV t xs = u at *
                have hcu : w3.cell? ⟨w.heap.size, 0, none⟩ = some (.int .i64 u) := ho.cell 0
                have hcd : w3.cell? ⟨w.heap.size, 1, none⟩ = some (.int .i64 top) := ho.cell 1
                have HO3 := Lib.hid ho
                have HB3 := Lib.hid (below_step HB2.out.drew (by have := HB2.out.size; simp; omega) hg (Nat.le_refl _))
                clear ho hg hc2 hcz HROW2 HROW1 HO2 HB2
                by_cases hr : top < u
                · have HRM : Hid (roomOf top u = 0) := by show _ = _; rw [roomOf, if_pos hr]
                  go_wp2_with fail
                  refine (Total_any _ u _ hcu).mono ?_
                  rintro e w4 ⟨rfl, rfl⟩
                  go_wp2_with fail
                  refine (Total_any _ u _ hcu).mono ?_
                  rintro e w4 ⟨rfl, rfl⟩
                  go_wp2_with fail
                  refine (Room_any _ u top _ hcu hcd (by omega) (by omega) (by omega) (by omega)).mono ?_
                  rintro e w4 ⟨rfl, nn, rfl⟩
                  rw [HRM.out]
                  clear hcu hcd
                  go_wp2
                  go_roundw
                  case rel => exact ⟨k + 1, u, by omega, by omega, by go_num, rfl, by omega, by omega, HO3.out, below_drewN HB3.out _⟩
                  case measure => simp [intOf]; omega
                · have HRM : Hid (roomOf top u = top - u) := by show _ = _; rw [roomOf, if_neg hr]
                  go_wp2_with fail
                  refine (Total_any _ u _ hcu).mono ?_
                  rintro e w4 ⟨rfl, rfl⟩
                  go_wp2_with fail
                  refine (Total_any _ u _ hcu).mono ?_
                  rintro e w4 ⟨rfl, rfl⟩
                  go_wp2_with fail
                  refine (Room_any _ u top _ hcu hcd (by omega) (by omega) (by omega) (by omega)).mono ?_
                  rintro e w4 ⟨rfl, nn, rfl⟩
                  rw [HRM.out]
                  clear hcu hcd
                  go_wp2
                  go_roundw
                  case rel => exact ⟨k + 1, u, by omega, by omega, by go_num, rfl, by omega, by omega, HO3.out, below_drewN HB3.out _⟩
                  case measure => simp [intOf]; omega
              | false =>
                have HEQ := Lib.hid (HMS.out.2.2 hs)
                have HSB := Lib.hid hs
                clear hs HMS
                go_wp2_with fail
                go_still_tail 7, (by kernel_rfl)
                go_wp2_with fail
                refine (MeterAdd_any w.heap.size 43 t [.int .i64 top] a l cc xs _ (B := w.heap.size) ?_ ?_ h0 h1).mono ?_
                · exact HROW2.out.keep fun _ _ => rfl
                · exact HO2.out
                rintro e w3 ⟨rfl, ho, hg⟩
                rw [HSB.out]
                rw [HEQ.out] at ho
                have hcu : w3.cell? ⟨w.heap.size, 0, none⟩ = some (.int .i64 t) := ho.cell 0
                have hcd : w3.cell? ⟨w.heap.size, 1, none⟩ = some (.int .i64 top) := ho.cell 1
                have HO3 := Lib.hid ho
                have HB3 := Lib.hid (below_step HB2.out.drew (by have := HB2.out.size; simp; omega) hg (Nat.le_refl _))
                clear ho hg hc2 hcz HROW2 HROW1 HO2 HB2
                by_cases hr : top < t
                · have HRM : Hid (roomOf top t = 0) := by show _ = _; rw [roomOf, if_pos hr]
                  go_wp2_with fail
                  refine (Total_any _ t _ hcu).mono ?_
                  rintro e w4 ⟨rfl, rfl⟩
                  go_wp2_with fail
                  refine (Total_any _ t _ hcu).mono ?_
                  rintro e w4 ⟨rfl, rfl⟩
                  go_wp2_with fail
                  refine (Room_any _ t top _ hcu hcd (by omega) (by omega) (by omega) (by omega)).mono ?_
                  rintro e w4 ⟨rfl, nn, rfl⟩
                  rw [HRM.out]
                  clear hcu hcd
                  go_wp2
                  go_roundw
                  case rel => exact ⟨k + 1, t, by omega, by omega, by go_num, rfl, by omega, by omega, HO3.out, below_drewN HB3.out _⟩
                  case measure => simp [intOf]; omega
                · have HRM : Hid (roomOf top t = top - t) := by show _ = _; rw [roomOf, if_neg hr]
                  go_wp2_with fail
                  refine (Total_any _ t _ hcu).mono ?_
                  rintro e w4 ⟨rfl, rfl⟩
                  go_wp2_with fail
                  refine (Total_any _ t _ hcu).mono ?_
                  rintro e w4 ⟨rfl, rfl⟩
                  go_wp2_with fail
                  refine (Room_any _ t top _ hcu hcd (by omega) (by omega) (by omega) (by omega)).mono ?_
                  rintro e w4 ⟨rfl, nn, rfl⟩
                  rw [HRM.out]
                  clear hcu hcd
                  go_wp2
                  go_roundw
                  case rel => exact ⟨k + 1, t, by omega, by omega, by go_num, rfl, by omega, by omega, HO3.out, below_drewN HB3.out _⟩
                  case measure => simp [intOf]; omega
          · go_wp2_with fail
            refine (awake_any _).mono ?_
            rintro e w2 ⟨rfl, hb⟩
            have HB2 := Lib.hid (HB.out.trans (hb.mono HB.out.size))
            clear hb
            go_wp2
            go_ret
            exact ⟨rfl, HB2.out⟩
        · go_wp2_with fail
          refine (awake_any _).mono ?_
          rintro e w2 ⟨rfl, hb⟩
          have HB2 := Lib.hid (HB.out.trans (hb.mono HB.out.size))
          clear hb
          go_wp2
          go_ret
          exact ⟨rfl, HB2.out⟩
end Go.Proofs.Ytccahhfeibnchaa
