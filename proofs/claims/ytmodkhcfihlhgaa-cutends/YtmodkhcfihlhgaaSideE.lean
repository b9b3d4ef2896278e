/-
  cut.Worth and the reference's.
-/
import Derived.Test.YtmodkhcfihlhgaaSideD
namespace Go.Proofs.Ytmodkhcfihlhgaa
open Go.RowKit

def wthV (V : Int) (L : List Lk) (caps vs : List Int) : Value := .tuple #[.int .i64 (worthX V L caps vs), .int .i64 (worthE V L caps vs)]

theorem lv_get {L : List Lk} {vs : List Int} {j : Nat} (h : j < (lv L vs L.length).length) : ∃ i : Nat, i < L.length ∧ (lv L vs L.length)[j]?.getD 0 = (i : Int) := by
  obtain ⟨i, a, _, e⟩ := pick_get h
  exact ⟨i, a, e⟩

def WoRel (w1 : World) (q : Nat) (L : List Lk) (caps vs : List Int) (a i : Value) (wr : World) : Prop :=
  ∃ j : Nat, j ≤ q ∧ a = .int .i64 (pw L caps vs j) ∧ i = .int .i64 (j : Nat) ∧ w1.grownBy wr none

theorem worth_leav {V : Int} {L : List Lk} {caps vs : List Int} (h : leavB V L vs = false) : worthX V L caps vs = 0 ∧ worthE V L caps vs = 800 := worth_no (by simp [worthB, h])
theorem worth_caps {V : Int} {L : List Lk} {caps vs : List Int} (h : capsB L caps = false) : worthX V L caps vs = 0 ∧ worthE V L caps vs = 800 := worth_no (by simp [worthB, h])
theorem worth_goes {V : Int} {L : List Lk} {caps vs : List Int} (h : leavB V L vs = true) (k : capsB L caps = true) : worthX V L caps vs = wk L caps vs L.length ∧ worthE V L caps vs = 0 := worth_yes (by simp [worthB, h, k])

set_option maxHeartbeats 2000000 in
theorem Worth_any (V : Int) (A : Option Addr) (n c : Nat) (L : List Lk) (Y : Option Addr) (p e0 : Nat) (caps : List Int) (X : Option Addr) (m d : Nat) (vs : List Int) (w : World) {B B' B'' : Nat} (h : Lks w B A n L) (hB : B ≤ w.heap.size) (hy : Row w B'' Y p caps) (hB'' : B'' ≤ w.heap.size) (hx : Row w B' X m vs) (hB' : B' ≤ w.heap.size) :
    Calls Try.prog 37 #[.agg #[.int .i64 V, .slice A n c], .slice Y p e0, .slice X m d] w (Says w (wthV V L caps vs)) := by
  have HL := Lib.hid h.len
  have HLY := Lib.hid hy.len
  have HR := Lib.hid h
  have HY := Lib.hid hy
  have HR1 := Lib.hid (h.grown hB (grow0 w (.cells #[.int .i64 V, .slice A n c] 24)))
  have HX1 := Lib.hid (hx.grown hB' (grow0 w (.cells #[.int .i64 V, .slice A n c] 24)))
  clear h hx hy
  go_enter Try.func37, Try.ntmps37
  go_wp2_with fail
  refine (Leaving_any V A n c L X m d vs _ HR1.out (by simp; omega) HX1.out (by simp; omega)).mono ?_
  rintro e w1 ⟨v, he, hv, g1⟩
  obtain ⟨g, o2⟩ := box1 [.int .i64 V, .slice A n c] g1
  obtain ⟨c0, c1⟩ := o2.two
  have G := Lib.hid g
  clear g g1 o2 HR1 HX1
  cases hlb : leavB V L vs
  · have E := Lib.hid (worth_leav (caps := caps) hlb)
    rw [(leav_no hlb).2] at he
    subst he
    clear hv hlb
    go_wp2
    go_ret2
    exact ⟨ret_two E.out.1 E.out.2, G.out⟩
  rw [(leav_yes hlb).2] at he
  subst he
  rw [(leav_yes hlb).1] at hv
  have HLB := Lib.hid hlb
  have HMAY := Lib.hid (leav_parts hlb).1
  have h16 := (may_small HMAY.out).2.2
  have hl0 := lv_len L vs L.length
  obtain ⟨Av, cv, rfl, _, hrv⟩ := hv.row (lv_ok (by omega))
  have HRV := Lib.hid hrv
  have hq := hrv.small
  clear hv hlb hrv
  go_wp2_with fail
  refine (areCaps_any V A n c L Y p e0 caps _ (HR.out.grown hB G.out) (HY.out.grown hB'' G.out) (by have := G.out.size; omega) (may_n8 HMAY.out HL.out)).mono ?_
  rintro e w2 ⟨rfl, g2⟩
  have G := Lib.hid (grown_trans G.out g2)
  have HRV := Lib.hid (HRV.out.grown (Nat.le_refl _) g2)
  clear g2 c0 c1
  cases hcap : capsB L caps
  · have E := Lib.hid (worth_caps (V := V) (vs := vs) hcap)
    clear hcap
    go_wp2
    go_ret2
    exact ⟨ret_two E.out.1 E.out.2, G.out⟩
  have E := Lib.hid (worth_goes HLB.out hcap)
  have HPC := Lib.hid (capsB_parts hcap).1
  have HBD := Lib.hid (fun j => pw_bd (vs := vs) HMAY.out hcap j)
  have HEND := Lib.hid (pw_all L caps vs)
  have HGET := Lib.hid (fun (j : Nat) (hj : j < (lv L vs L.length).length) => lv_get hj)
  have HST := Lib.hid (fun (j : Nat) (hj : j < (lv L vs L.length).length) => pw_step (caps := caps) hj)
  have HYR := Lib.hid (HY.out.grown hB'' G.out)
  clear hcap hl0 h16
  generalize hxs : lv L vs L.length = xs at *
  generalize hqe : xs.length = q at *
  have HS : Hid (WoRel w2 q L caps vs (.int .i64 0) (.int .i64 0) w2) := ⟨0, Nat.zero_le _, by rw [pw_zero], rfl, World.grownBy.refl w2 none⟩
  clear hxs hqe
  go_wp2
  go_loopw [10, 29] (fun a i wr => WoRel w2 q L caps vs a i wr) (fun _ i _ => q - (intOf i).toNat)
  case atStart => exact HS.out
  case round =>
    clear HS
    obtain ⟨j, hj, rfl, rfl, hg⟩ := hrel
    have G2 := Lib.hid hg
    by_cases hlt : j < q
    · obtain ⟨b, off, hA, hb, hcell⟩ := HRV.out.at_ (by omega)
      subst hA
      have d0 := kept hg (hcell j hlt)
      obtain ⟨i, hi, hxi⟩ := HGET.out j hlt
      have hip : i < p := by have := HPC.out; have := HLY.out; omega
      have HSTj := Lib.hid (HST.out j hlt)
      rw [hxi] at d0 HSTj
      obtain ⟨b2, off2, hA2, hb2, hcell2⟩ := HYR.out.at_ (by omega)
      subst hA2
      have e1 := kept hg (hcell2 i hip)
      have hb0 := HBD.out j
      have hb1 := HBD.out (j + 1)
      rw [HSTj.out] at hb1
      have e2 : capI caps ((i : Int).toNat) = caps[i]?.getD 0 := by simp [capI]
      rw [e2] at HSTj hb1
      have hps := HSTj.out
      clear hcell hcell2 hg hxi e2 HSTj
      generalize caps[i]?.getD 0 = y at *
      generalize pw L caps vs j = a at *
      have HPS := Lib.hid hps
      clear hps
      have hw : IntKind.i64.wrap (a + y) = a + y := IntWalk.i64_in _ (by omega)
      go_wp2
      go_roundw
      case rel => exact ⟨j + 1, by omega, by rw [HPS.out], by go_num, G2.out⟩
      case measure => simp [intOf]; omega
    · obtain rfl : j = q := by omega
      have E2 : Hid (worthX V L caps vs = pw L caps vs j) := by rw [Hid, E.out.1, HEND.out]
      clear hg
      generalize pw L caps vs j = a at *
      go_wp2
      go_ret2
      exact ⟨ret_two E2.out E.out.2, grown_trans G.out G2.out⟩

set_option maxHeartbeats 2000000 in
theorem RWorth_any (V : Int) (A : Option Addr) (n c : Nat) (L : List Lk) (Y : Option Addr) (p e0 : Nat) (caps : List Int) (X : Option Addr) (m d : Nat) (vs : List Int) (w : World) {B B' B'' : Nat} (h : Lks w B A n L) (hB : B ≤ w.heap.size) (hy : Row w B'' Y p caps) (hB'' : B'' ≤ w.heap.size) (hx : Row w B' X m vs) (hB' : B' ≤ w.heap.size) :
    Calls Try.prog 38 #[.agg #[.int .i64 V, .slice A n c], .slice Y p e0, .slice X m d] w (Says w (wthV V L caps vs)) := by
  have HL := Lib.hid h.len
  have HLY := Lib.hid hy.len
  have HR := Lib.hid h
  have HY := Lib.hid hy
  have HX := Lib.hid hx
  have HR1 := Lib.hid (h.grown hB (grow0 w (.cells #[.int .i64 V, .slice A n c] 24)))
  have HY1 := Lib.hid (hy.grown hB'' (grow0 w (.cells #[.int .i64 V, .slice A n c] 24)))
  clear h hx hy
  go_enter Try.func38, Try.ntmps38
  go_wp2_with fail
  refine (RCaps_any V A n c L Y p e0 caps _ HR1.out (by simp; omega) HY1.out).mono ?_
  rintro e w1 ⟨he, g1⟩
  obtain ⟨g, o2⟩ := box1 [.int .i64 V, .slice A n c] g1
  obtain ⟨c0, c1⟩ := o2.two
  have G := Lib.hid g
  have O2 := Lib.hid o2
  clear g g1 o2 HR1 HY1
  cases hmay : mayG V L
  · have E := Lib.hid (worth_leav (V := V) (L := L) (caps := caps) (vs := vs) (by simp [leavB, hmay]))
    rw [hmay] at he
    subst he
    clear hmay
    go_wp2
    go_ret2
    exact ⟨ret_two E.out.1 E.out.2, G.out⟩
  cases hcap : capsB L caps
  · have E := Lib.hid (worth_caps (V := V) (vs := vs) hcap)
    rw [hmay, hcap] at he
    subst he
    clear hcap hmay
    go_wp2
    go_ret2
    exact ⟨ret_two E.out.1 E.out.2, G.out⟩
  rw [hmay, hcap] at he
  subst he
  have HMAY := Lib.hid hmay
  have HCAP := Lib.hid hcap
  clear hmay hcap
  go_wp2_with fail
  refine (VertsMay_any V A n c X m d vs _ (HX.out.grown hB' G.out)).mono ?_
  rintro e w2 ⟨rfl, g2⟩
  have G := Lib.hid (grown_trans G.out g2)
  have O2 := Lib.hid (O2.out.kept g2)
  clear g2 c0 c1
  obtain ⟨c0, c1⟩ := O2.out.two
  cases hv : vertsB V vs
  · have E := Lib.hid (worth_leav (V := V) (L := L) (caps := caps) (vs := vs) (by simp [leavB, hv]))
    clear hv
    go_wp2
    go_ret2
    exact ⟨ret_two E.out.1 E.out.2, G.out⟩
  have hlb : leavB V L vs = true := by simp [leavB, HMAY.out, hv]
  have E := Lib.hid (worth_goes hlb HCAP.out)
  have HLB := Lib.hid hlb
  clear hv hlb
  go_wp2_with fail
  refine (RLeaving_any V A n c L X m d vs _ (HR.out.grown hB G.out) (by have := G.out.size; omega) (HX.out.grown hB' G.out) (by have := G.out.size; omega)).mono ?_
  rintro e w3 ⟨v, he, hv, g3⟩
  rw [(leav_yes HLB.out).2] at he
  subst he
  rw [(leav_yes HLB.out).1] at hv
  have h16 := (may_small HMAY.out).2.2
  have hl0 := lv_len L vs L.length
  obtain ⟨Av, cv, rfl, _, hrv⟩ := hv.row (lv_ok (by omega))
  have HRV := Lib.hid hrv
  have hq := hrv.small
  have G := Lib.hid (grown_trans G.out g3)
  clear hv hrv g3 c0 c1 O2
  have HPC := Lib.hid (capsB_parts HCAP.out).1
  have HBD := Lib.hid (fun j => pw_bd (vs := vs) HMAY.out HCAP.out j)
  have HEND := Lib.hid (pw_all L caps vs)
  have HGET := Lib.hid (fun (j : Nat) (hj : j < (lv L vs L.length).length) => lv_get hj)
  have HST := Lib.hid (fun (j : Nat) (hj : j < (lv L vs L.length).length) => pw_step (caps := caps) hj)
  have HYR := Lib.hid (HY.out.grown hB'' G.out)
  clear hl0 h16
  generalize hxs : lv L vs L.length = xs at *
  generalize hqe : xs.length = q at *
  have HS : Hid (WoRel w3 q L caps vs (.int .i64 0) (.int .i64 0) w3) := ⟨0, Nat.zero_le _, by rw [pw_zero], rfl, World.grownBy.refl w3 none⟩
  clear hxs hqe
  go_wp2
  go_loopw [10, 11] (fun a i wr => WoRel w3 q L caps vs a i wr) (fun _ i _ => q - (intOf i).toNat)
  case atStart => exact HS.out
  case round =>
    clear HS
    obtain ⟨j, hj, rfl, rfl, hg⟩ := hrel
    have G2 := Lib.hid hg
    by_cases hlt : j < q
    · obtain ⟨b, off, hA, hb, hcell⟩ := HRV.out.at_ (by omega)
      subst hA
      have d0 := kept hg (hcell j hlt)
      obtain ⟨i, hi, hxi⟩ := HGET.out j hlt
      have hip : i < p := by have := HPC.out; have := HLY.out; omega
      have HSTj := Lib.hid (HST.out j hlt)
      rw [hxi] at d0 HSTj
      obtain ⟨b2, off2, hA2, hb2, hcell2⟩ := HYR.out.at_ (by omega)
      subst hA2
      have e1 := kept hg (hcell2 i hip)
      have hb0 := HBD.out j
      have hb1 := HBD.out (j + 1)
      rw [HSTj.out] at hb1
      have e2 : capI caps ((i : Int).toNat) = caps[i]?.getD 0 := by simp [capI]
      rw [e2] at HSTj hb1
      have hps := HSTj.out
      clear hcell hcell2 hg hxi e2 HSTj
      generalize caps[i]?.getD 0 = y at *
      generalize pw L caps vs j = a at *
      have HPS := Lib.hid hps
      clear hps
      have hw : IntKind.i64.wrap (a + y) = a + y := IntWalk.i64_in _ (by omega)
      go_wp2
      go_roundw
      case rel => exact ⟨j + 1, by omega, by rw [HPS.out], by go_num, G2.out⟩
      case measure => simp [intOf]; omega
    · obtain rfl : j = q := by omega
      have E2 : Hid (worthX V L caps vs = pw L caps vs j) := by rw [Hid, E.out.1, HEND.out]
      clear hg
      generalize pw L caps vs j = a at *
      go_wp2
      go_ret2
      exact ⟨ret_two E2.out E.out.2, grown_trans G.out G2.out⟩

end Go.Proofs.Ytmodkhcfihlhgaa
