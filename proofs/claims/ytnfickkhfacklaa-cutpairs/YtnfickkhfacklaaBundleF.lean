/-
  within.Caps and Fits; the reference's CapsMay, Within and Fits.
-/
import Derived.Test.YtnfickkhfacklaaBundleE
namespace Go.Proofs.Ytnfickkhfacklaa
open Go.RowKit

def CapRel (w : World) (V : Int) (A : Option Addr) (n c m : Nat) (L : List Lk) (caps : List Int) (i : Value) (wr : World) : Prop :=
  ∃ k : Nat, k ≤ m ∧ i = .int .i64 (k : Nat) ∧ w.grownBy wr none ∧ Own wr w.heap.size 24 [.int .i64 V, .slice A n c] ∧ (List.range k).all (capB L caps) = true

theorem capsB_len {L : List Lk} {caps : List Int} (h : ¬ caps.length = L.length) : capsB L caps = false := by simp [capsB, h]
theorem capsB_all {L : List Lk} {caps : List Int} (h : caps.length = L.length) (k : (List.range caps.length).all (capB L caps) = true) : capsB L caps = true := by rw [capsB, k]; simp [h]
theorem capsB_stop {L : List Lk} {caps : List Int} {k : Nat} (h : k < caps.length) (e : capB L caps k = false) : capsB L caps = false := by
  rw [capsB, range_stop h e]; simp

set_option maxHeartbeats 1000000 in
theorem areCaps_any (V : Int) (A : Option Addr) (n c : Nat) (L : List Lk) (X : Option Addr) (m d : Nat) (caps : List Int) (w : World) {B B' : Nat} (h : Lks w B A n L) (hx : Row w B' X m caps) :
    Calls Try.prog 53 #[.agg #[.int .i64 V, .slice A n c], .slice X m d] w (Says w (.bool (capsB L caps))) := by
  have hn := h.small
  have hm := hx.small
  have HL := Lib.hid h.len
  have HLX := Lib.hid hx.len
  have HR := Lib.hid h
  have HX := Lib.hid hx
  clear h hx
  by_cases hmn : m = n
  case neg =>
    have E := Lib.hid (capsB_len (L := L) (caps := caps) (by rw [HL.out, HLX.out]; exact hmn))
    have hne : ((m : Int) != (n : Int)) = true := by simp; omega
    go_enter Try.func53, Try.ntmps53
    go_wp2
    go_ret
    exact ⟨ret_bool E.out, grow0 _ _⟩
  subst hmn
  have hne : ((m : Int) != (m : Int)) = false := by simp
  have HS : Hid (CapRel w V A m c m L caps (.int .i64 0) (w.alloc (.cells #[.int .i64 V, .slice A m c] 24))) := ⟨0, Nat.zero_le _, rfl, grow0 _ _, Own.new w 24 [.int .i64 V, .slice A m c], rfl⟩
  go_enter Try.func53, Try.ntmps53
  go_wp2
  go_loopw [15] (fun i wr => CapRel w V A m c m L caps i wr) (fun i _ => m - (intOf i).toNat)
  case atStart => exact HS.out
  case round =>
    clear HS hne
    obtain ⟨k, hk, rfl, hg, ob, hall⟩ := hrel
    have G := Lib.hid hg
    have HA := Lib.hid hall
    obtain ⟨c0, c1⟩ := ob.two
    have O := Lib.hid ob
    by_cases hlt : k < m
    · obtain ⟨b, off, hA, hb, hcell⟩ := HX.out.at_ (by omega)
      subst hA
      have d0 := kept hg (hcell k hlt)
      obtain ⟨b2, off2, hA2, hb2, hcell2⟩ := HR.out.cells (by omega)
      subst hA2
      obtain ⟨_, _, e2⟩ := hcell2 k hlt
      have e2 := kept hg e2
      have HN := Lib.hid (range_next k (capB L caps))
      have HNO := Lib.hid (capsB_stop (L := L) (caps := caps) (k := k) (by rw [HLX.out]; exact hlt))
      have HCB : Hid (capB L caps k = (decide (0 ≤ caps[k]?.getD 0) && decide (caps[k]?.getD 0 ≤ (at3 L k).2.2))) := rfl
      clear hcell hcell2 hg ob hall
      generalize caps[k]?.getD 0 = x at *
      generalize (at3 L k).2.2 = y at *
      by_cases h0 : x < 0
      · have E : Hid (capsB L caps = false) := HNO.out (by rw [HCB.out]; simp; omega)
        clear HN HNO HCB
        go_wp2
        go_ret
        exact ⟨ret_bool E.out, G.out⟩
      · by_cases h1 : y < x
        · have E : Hid (capsB L caps = false) := HNO.out (by rw [HCB.out]; simp; omega)
          clear HN HNO HCB
          go_wp2
          go_ret
          exact ⟨ret_bool E.out, G.out⟩
        · have E : Hid ((List.range (k + 1)).all (capB L caps) = true) := by rw [Hid, HN.out, HA.out, HCB.out]; simp; omega
          clear HN HNO HCB
          go_wp2
          go_roundw
          case rel => exact ⟨k + 1, by omega, by go_num, G.out, O.out, E.out⟩
          case measure => simp [intOf]; omega
    · obtain rfl : k = m := by omega
      have E : Hid (capsB L caps = true) := capsB_all (by rw [HL.out, HLX.out]) (by rw [HLX.out]; exact HA.out)
      clear hg hall ob
      go_wp2
      go_ret
      exact ⟨ret_bool E.out, G.out⟩

set_option maxRecDepth 20000 in
set_option maxHeartbeats 2000000 in
theorem RCaps_any (V : Int) (A : Option Addr) (n c : Nat) (L : List Lk) (X : Option Addr) (m d : Nat) (caps : List Int) (w : World) {B B' : Nat} (h : Lks w B A n L) (hB : B ≤ w.heap.size) (hx : Row w B' X m caps) :
    Calls Try.prog 38 #[.agg #[.int .i64 V, .slice A n c], .slice X m d] w (Says w (.bool (mayG V L && capsB L caps))) := by
  have hn := h.small
  have hm := hx.small
  have HL := Lib.hid h.len
  have HLX := Lib.hid hx.len
  have HR := Lib.hid h
  have HX := Lib.hid hx
  have HR1 := Lib.hid (h.grown hB (grow0 w (.cells #[.int .i64 V, .slice A n c] 24)))
  clear h hx
  go_enter Try.func38, Try.ntmps38
  go_wp2_with fail
  refine (RMay_any V A n c L _ HR1.out).mono ?_
  rintro e w1 ⟨rfl, g1⟩
  obtain ⟨g, o2⟩ := box1 [.int .i64 V, .slice A n c] g1
  obtain ⟨c0, c1⟩ := o2.two
  have G := Lib.hid g
  have O2 := Lib.hid o2
  clear g g1 o2 HR1
  cases hmay : mayG V L
  · have HMAY := Lib.hid hmay
    go_wp2
    go_ret
    exact ⟨ret_bool (by rw [HMAY.out]; rfl), G.out⟩
  have HMAY := Lib.hid hmay
  by_cases hmn : m = n
  case neg =>
    have E := Lib.hid (capsB_len (L := L) (caps := caps) (by rw [HL.out, HLX.out]; exact hmn))
    have hne : ((m : Int) != (n : Int)) = true := by simp; omega
    go_wp2
    go_ret
    exact ⟨ret_bool (by rw [HMAY.out, E.out]; rfl), G.out⟩
  subst hmn
  have hne : ((m : Int) != (m : Int)) = false := by simp
  have HS : Hid (CapRel w V A m c m L caps (.int .i64 0) w1) := ⟨0, Nat.zero_le _, rfl, G.out, O2.out, rfl⟩
  clear G O2
  go_wp2
  go_loopw [5] (fun i wr => CapRel w V A m c m L caps i wr) (fun i _ => m - (intOf i).toNat)
  case atStart => exact HS.out
  case round =>
    clear HS hne c0 c1 hmay
    obtain ⟨k, hk, rfl, hg, ob, hall⟩ := hrel
    have G := Lib.hid hg
    have HA := Lib.hid hall
    obtain ⟨c0, c1⟩ := ob.two
    have O := Lib.hid ob
    by_cases hlt : k < m
    · obtain ⟨b, off, hA, hb, hcell⟩ := HX.out.at_ (by omega)
      subst hA
      have d0 := kept hg (hcell k hlt)
      obtain ⟨b2, off2, hA2, hb2, hcell2⟩ := HR.out.cells (by omega)
      subst hA2
      obtain ⟨_, _, e2⟩ := hcell2 k hlt
      have e2 := kept hg e2
      have HN := Lib.hid (range_next k (capB L caps))
      have HNO := Lib.hid (capsB_stop (L := L) (caps := caps) (k := k) (by rw [HLX.out]; exact hlt))
      have HCB : Hid (capB L caps k = (decide (0 ≤ caps[k]?.getD 0) && decide (caps[k]?.getD 0 ≤ (at3 L k).2.2))) := rfl
      clear hcell hcell2 hg ob hall
      generalize caps[k]?.getD 0 = x at *
      generalize (at3 L k).2.2 = y at *
      by_cases h0 : x < 0
      · have E : Hid (capsB L caps = false) := HNO.out (by rw [HCB.out]; simp; omega)
        have q1 : decide (x < 0) = true := by simp [h0]
        clear HN HNO HCB
        go_wp2_with fail
        go_quiet (fail)
        go_wp2
        go_ret
        exact ⟨ret_bool (by rw [HMAY.out, E.out]; rfl), grown_drewN G.out _⟩
      · have q1 : decide (x < 0) = false := by simp; omega
        by_cases h1 : y < x
        · have E : Hid (capsB L caps = false) := HNO.out (by rw [HCB.out]; simp; omega)
          have q2 : decide (y < x) = true := by simp [h1]
          clear HN HNO HCB
          go_wp2_with fail
          go_quiet (fail)
          go_wp2
          go_ret
          exact ⟨ret_bool (by rw [HMAY.out, E.out]; rfl), grown_drewN G.out _⟩
        · have E : Hid ((List.range (k + 1)).all (capB L caps) = true) := by rw [Hid, HN.out, HA.out, HCB.out]; simp; omega
          have q2 : decide (y < x) = false := by simp; omega
          clear HN HNO HCB
          go_wp2_with fail
          go_quiet (fail)
          go_wp2
          go_roundw
          case rel => exact ⟨k + 1, by omega, by go_num, grown_drewN G.out _, O.out.drewN _, E.out⟩
          case measure => simp [intOf]; omega
    · obtain rfl : k = m := by omega
      have E : Hid (capsB L caps = true) := capsB_all (by rw [HL.out, HLX.out]) (by rw [HLX.out]; exact HA.out)
      clear hg hall ob
      go_wp2
      go_ret
      exact ⟨ret_bool (by rw [HMAY.out, E.out]; rfl), G.out⟩

def UnRel (w : World) (n : Nat) (caps xs : List Int) (i : Value) (wr : World) : Prop :=
  ∃ k : Nat, k ≤ n ∧ i = .int .i64 (k : Nat) ∧ w.grownBy wr none ∧ (List.range k).all (fun i => decide (xs[i]?.getD 0 ≤ caps[i]?.getD 0)) = true

theorem under_stop {caps xs : List Int} {k : Nat} (h : k < xs.length) (e : caps[k]?.getD 0 < xs[k]?.getD 0) : underB caps xs = false :=
  range_stop h (by simp; omega)

set_option maxRecDepth 20000 in
set_option maxHeartbeats 2000000 in
theorem Within_any (X : Option Addr) (n d : Nat) (caps : List Int) (Y : Option Addr) (d' : Nat) (xs : List Int) (w : World) {B B' : Nat} (hx : Row w B X n caps) (hy : Row w B' Y n xs) (hnn : ∀ i : Nat, 0 ≤ xs[i]?.getD 0) :
    Calls Try.prog 54 #[.slice X n d, .slice Y n d'] w (Says w (.bool (underB caps xs))) := by
  have hn := hx.small
  have HLY := Lib.hid hy.len
  have HX := Lib.hid hx
  have HY := Lib.hid hy
  have HNN := Lib.hid hnn
  clear hx hy hnn
  have hne : ((n : Int) != (n : Int)) = false := by simp
  have HS : Hid (UnRel w n caps xs (.int .i64 0) w) := ⟨0, Nat.zero_le _, rfl, World.grownBy.refl w none, rfl⟩
  go_enter Try.func54, Try.ntmps54
  go_wp2
  go_loopw [5] (fun i wr => UnRel w n caps xs i wr) (fun i _ => n - (intOf i).toNat)
  case atStart => exact HS.out
  case round =>
    clear HS hne
    obtain ⟨k, hk, rfl, hg, hall⟩ := hrel
    have G := Lib.hid hg
    have HA := Lib.hid hall
    by_cases hlt : k < n
    · obtain ⟨b, off, hA, hb, hcell⟩ := HX.out.at_ (by omega)
      subst hA
      have d0 := kept hg (hcell k hlt)
      obtain ⟨b2, off2, hA2, hb2, hcell2⟩ := HY.out.at_ (by omega)
      subst hA2
      have e0 := kept hg (hcell2 k hlt)
      have HN := Lib.hid (range_next k (fun i => decide (xs[i]?.getD 0 ≤ caps[i]?.getD 0)))
      have HNO := Lib.hid (under_stop (caps := caps) (xs := xs) (k := k) (by rw [HLY.out]; exact hlt))
      have h0 := HNN.out k
      clear hcell hcell2 hg hall
      generalize hy : xs[k]?.getD 0 = x at *
      generalize hz : caps[k]?.getD 0 = y at *
      clear hy hz
      have q1 : decide (x < 0) = false := by simp; omega
      have h00 : ¬ x < 0 := by omega
      by_cases h1 : y < x
      · have E : Hid (underB caps xs = false) := HNO.out h1
        have q2 : decide (y < x) = true := by simp [h1]
        clear HN HNO
        go_wp2_with fail
        go_quiet (fail)
        go_wp2
        go_ret
        exact ⟨ret_bool E.out, grown_drewN G.out _⟩
      · have E : Hid ((List.range (k + 1)).all (fun i => decide (xs[i]?.getD 0 ≤ caps[i]?.getD 0)) = true) := by rw [Hid, HN.out, HA.out]; simp; omega
        have q2 : decide (y < x) = false := by simp; omega
        clear HN HNO
        go_wp2_with fail
        go_quiet (fail)
        go_wp2
        go_roundw
        case rel => exact ⟨k + 1, by omega, by go_num, grown_drewN G.out _, E.out⟩
        case measure => simp [intOf]; omega
    · obtain rfl : k = n := by omega
      have E : Hid (underB caps xs = true) := by rw [Hid, underB, HLY.out]; exact HA.out
      clear hg hall
      go_wp2
      go_ret
      exact ⟨ret_bool E.out, G.out⟩

theorem loadsV_len {V : Int} {L : List Lk} {ps : List Pth} (h : loadsE V L ps = 0) : (loadsV V L ps).length = L.length := by
  obtain ⟨a, b⟩ := loads_ok0 h
  rw [(loads_goes a b).2, loadsQ_len]

theorem loadsV_ok (V : Int) (L : List Lk) (ps : List Pth) : okI (loadsV V L ps) := fun i => by have := loads_bd (V := V) (L := L) (ps := ps) i; omega

theorem ret_fit {p q : Bool} {a b : Int} (h : q = p) (k : b = a) : Ending.returned (.tuple #[.bool p, .int .i64 a]) = .returned (.tuple #[.bool q, .int .i64 b]) := by rw [h, k]

def fitV (V : Int) (L : List Lk) (caps : List Int) (ps : List Pth) : Value := .tuple #[.bool (fitsV V L caps ps), .int .i64 (fitsE V L caps ps)]

set_option maxHeartbeats 1000000 in
theorem Fits_any (V : Int) (A : Option Addr) (n c : Nat) (L : List Lk) (X : Option Addr) (q e : Nat) (caps : List Int) (P : Option Addr) (m d : Nat) (ps : List Pth) (w : World) {B B' B'' : Nat} (h : Lks w B A n L) (hB : B ≤ w.heap.size) (hx : Row w B'' X q caps) (hB'' : B'' ≤ w.heap.size) (hp : Pths w B' P m ps) (hB' : B' ≤ w.heap.size) :
    Calls Try.prog 24 #[.agg #[.int .i64 V, .slice A n c], .slice X q e, .slice P m d] w (Says w (fitV V L caps ps)) := by
  have HL := Lib.hid h.len
  have HLX := Lib.hid hx.len
  have HR := Lib.hid h
  have HX := Lib.hid hx
  have HP := Lib.hid hp
  have HR1 := Lib.hid (h.grown hB (grow0 w (.cells #[.int .i64 V, .slice A n c] 24)))
  have HX1 := Lib.hid (hx.grown hB'' (grow0 w (.cells #[.int .i64 V, .slice A n c] 24)))
  clear h hx hp
  go_enter Try.func24, Try.ntmps24
  go_wp2_with fail
  refine (areCaps_any V A n c L X q e caps _ HR1.out HX1.out).mono ?_
  rintro e1 w1 ⟨rfl, g1⟩
  obtain ⟨g, o2⟩ := box1 [.int .i64 V, .slice A n c] g1
  obtain ⟨c0, c1⟩ := o2.two
  have G := Lib.hid g
  clear g g1 o2 HR1 HX1
  cases hcap : capsB L caps
  · have E := Lib.hid (fits_caps (V := V) (ps := ps) hcap)
    go_wp2
    go_ret2
    exact ⟨ret_fit E.out.2 E.out.1, G.out⟩
  have hqn : q = n := by
    simp only [capsB, Bool.and_eq_true, decide_eq_true_eq] at hcap
    have := HL.out; have := HLX.out; omega
  subst hqn
  go_wp2_with fail
  refine (Loads_any V A q c L P m d ps _ (HR.out.grown hB G.out) (by have := G.out.size; omega) (HP.out.grown hB' G.out) (by have := G.out.size; omega)).mono ?_
  rintro e2 w2 ⟨v, rfl, hv, g2⟩
  have G := Lib.hid (grown_trans G.out g2)
  clear g2 c0 c1
  by_cases hz : loadsE V L ps = 0
  case neg =>
    have E := Lib.hid (fits_err hcap hz)
    have hne : (loadsE V L ps != 0) = true := by simp [hz]
    clear hz hv hcap
    generalize loadsE V L ps = z at *
    go_wp2
    go_ret2
    exact ⟨ret_fit E.out.2 E.out.1, G.out⟩
  have E := Lib.hid (fits_ok hcap hz)
  have hlen : (loadsV V L ps).length = q := (loadsV_len hz).trans HL.out
  have HLV := Lib.hid hlen
  rw [hz]
  rw [hlen] at hv
  obtain ⟨Av, cv, rfl, _, hrv⟩ := hv.row (loadsV_ok V L ps)
  have HRV := Lib.hid hrv
  have hq := hrv.small
  have HXR := Lib.hid (HX.out.grown hB'' G.out)
  clear hz hcap hlen hv hrv
  generalize loadsV V L ps = xs at *
  have HS : Hid (UnRel w2 q caps xs (.int .i64 0) w2) := ⟨0, Nat.zero_le _, rfl, World.grownBy.refl w2 none, rfl⟩
  go_wp2
  go_loopw [27] (fun i wr => UnRel w2 q caps xs i wr) (fun i _ => q - (intOf i).toNat)
  case atStart => exact HS.out
  case round =>
    clear HS
    obtain ⟨k, hk, rfl, hg, hall⟩ := hrel
    have G2 := Lib.hid hg
    have HA := Lib.hid hall
    by_cases hlt : k < q
    · obtain ⟨b, off, hA, hb, hcell⟩ := HXR.out.at_ (by omega)
      subst hA
      have d0 := kept hg (hcell k hlt)
      obtain ⟨b2, off2, hA2, hb2, hcell2⟩ := HRV.out.at_ (by omega)
      subst hA2
      have e0 := kept hg (hcell2 k hlt)
      have HN := Lib.hid (range_next k (fun i => decide (xs[i]?.getD 0 ≤ caps[i]?.getD 0)))
      have HNO := Lib.hid (under_stop (caps := caps) (xs := xs) (k := k) (by rw [HLV.out]; exact hlt))
      clear hcell hcell2 hg hall
      generalize hy : xs[k]?.getD 0 = x at *
      generalize hz : caps[k]?.getD 0 = y at *
      clear hy hz
      by_cases h1 : y < x
      · have E2 : Hid (fitsV V L caps ps = false) := E.out.2.trans (HNO.out h1)
        clear HN HNO
        go_wp2
        go_ret2
        exact ⟨ret_fit E2.out E.out.1, grown_trans G.out G2.out⟩
      · have E2 : Hid ((List.range (k + 1)).all (fun i => decide (xs[i]?.getD 0 ≤ caps[i]?.getD 0)) = true) := by rw [Hid, HN.out, HA.out]; simp; omega
        clear HN HNO
        go_wp2
        go_roundw
        case rel => exact ⟨k + 1, by omega, by go_num, G2.out, E2.out⟩
        case measure => simp [intOf]; omega
    · obtain rfl : k = q := by omega
      have E2 : Hid (fitsV V L caps ps = true) := by rw [Hid, E.out.2, underB, HLV.out]; exact HA.out
      clear hg hall
      go_wp2
      go_ret2
      exact ⟨ret_fit E2.out E.out.1, grown_trans G.out G2.out⟩

set_option maxHeartbeats 1000000 in
theorem RFits_any (V : Int) (A : Option Addr) (n c : Nat) (L : List Lk) (X : Option Addr) (q e : Nat) (caps : List Int) (P : Option Addr) (m d : Nat) (ps : List Pth) (w : World) {B B' B'' : Nat} (h : Lks w B A n L) (hB : B ≤ w.heap.size) (hx : Row w B'' X q caps) (hB'' : B'' ≤ w.heap.size) (hp : Pths w B' P m ps) (hB' : B' ≤ w.heap.size) :
    Calls Try.prog 25 #[.agg #[.int .i64 V, .slice A n c], .slice X q e, .slice P m d] w (Says w (fitV V L caps ps)) := by
  have HL := Lib.hid h.len
  have HLX := Lib.hid hx.len
  have HR := Lib.hid h
  have HX := Lib.hid hx
  have HP := Lib.hid hp
  have HR1 := Lib.hid (h.grown hB (grow0 w (.cells #[.int .i64 V, .slice A n c] 24)))
  have HX1 := Lib.hid (hx.grown hB'' (grow0 w (.cells #[.int .i64 V, .slice A n c] 24)))
  clear h hx hp
  go_enter Try.func25, Try.ntmps25
  go_wp2_with fail
  refine (RCaps_any V A n c L X q e caps _ HR1.out (by simp; omega) HX1.out).mono ?_
  rintro e1 w1 ⟨he1, g1⟩
  obtain ⟨g, o2⟩ := box1 [.int .i64 V, .slice A n c] g1
  obtain ⟨c0, c1⟩ := o2.two
  have G := Lib.hid g
  clear g g1 o2 HR1 HX1
  cases hmay : mayG V L
  · rw [hmay] at he1
    subst he1
    have E := Lib.hid (fits_graph (caps := caps) (ps := ps) hmay)
    go_wp2
    go_ret2
    exact ⟨ret_fit E.out.2 E.out.1, G.out⟩
  cases hcap : capsB L caps
  · rw [hmay, hcap] at he1
    subst he1
    have E := Lib.hid (fits_caps (V := V) (ps := ps) hcap)
    go_wp2
    go_ret2
    exact ⟨ret_fit E.out.2 E.out.1, G.out⟩
  rw [hmay, hcap] at he1
  subst he1
  have hqn : q = n := by
    simp only [capsB, Bool.and_eq_true, decide_eq_true_eq] at hcap
    have := HL.out; have := HLX.out; omega
  subst hqn
  go_wp2_with fail
  refine (RLoads_any V A q c L P m d ps _ (HR.out.grown hB G.out) (by have := G.out.size; omega) (HP.out.grown hB' G.out) (by have := G.out.size; omega)).mono ?_
  rintro e2 w2 ⟨v, rfl, hv, g2⟩
  have G := Lib.hid (grown_trans G.out g2)
  clear g2 c0 c1
  by_cases hz : loadsE V L ps = 0
  case neg =>
    have E := Lib.hid (fits_err hcap hz)
    have hne : (loadsE V L ps != 0) = true := by simp [hz]
    clear hz hv hcap
    generalize loadsE V L ps = z at *
    go_wp2
    go_ret2
    exact ⟨ret_fit E.out.2 E.out.1, G.out⟩
  have E := Lib.hid (fits_ok hcap hz)
  have hlen : (loadsV V L ps).length = q := (loadsV_len hz).trans HL.out
  rw [hz]
  rw [hlen] at hv
  obtain ⟨Av, cv, rfl, _, hrv⟩ := hv.row (loadsV_ok V L ps)
  have HRV := Lib.hid hrv
  have HXR := Lib.hid (HX.out.grown hB'' G.out)
  have HNN : Hid (∀ i : Nat, 0 ≤ (loadsV V L ps)[i]?.getD 0) := fun i => (loads_bd i).1
  clear hz hcap hlen hv hrv hmay
  generalize loadsV V L ps = xs at *
  go_wp2_with fail
  refine (Within_any X q e caps Av cv xs _ HXR.out HRV.out HNN.out).mono ?_
  rintro e3 w3 ⟨rfl, g3⟩
  have G := Lib.hid (grown_trans G.out g3)
  clear g3
  generalize underB caps xs = ub at *
  go_wp2
  go_ret2
  exact ⟨ret_fit E.out.2 E.out.1, G.out⟩

end Go.Proofs.Ytnfickkhfacklaa
