/-
  Fits; the reference's Fits.
-/
import Derived.Test.YtmodkhcfihlhgaaBundleE
import Derived.Test.YtmodkhcfihlhgaaWithinB
namespace Go.Proofs.Ytmodkhcfihlhgaa
open Go.RowKit

def UnRel (w : World) (n : Nat) (caps xs : List Int) (i : Value) (wr : World) : Prop :=
  ∃ k : Nat, k ≤ n ∧ i = .int .i64 (k : Nat) ∧ w.grownBy wr none ∧ (List.range k).all (fun i => decide (xs[i]?.getD 0 ≤ caps[i]?.getD 0)) = true

theorem under_stop {caps xs : List Int} {k : Nat} (h : k < xs.length) (e : caps[k]?.getD 0 < xs[k]?.getD 0) : underB caps xs = false :=
  range_stop h (by simp; omega)

theorem under_rates {caps xs : List Int} (h : xs.length = caps.length) (nn : ∀ i : Nat, 0 ≤ xs[i]?.getD 0) : ratesB caps xs = underB caps xs := by
  unfold ratesB underB
  rw [decide_eq_true h, Bool.true_and]
  congr 1
  funext i
  simp [rateIn, nn i]

theorem Within_any (X : Option Addr) (n d : Nat) (caps : List Int) (Y : Option Addr) (d' : Nat) (xs : List Int) (w : World) {B B' : Nat} (hx : Row w B X n caps) (hy : Row w B' Y n xs) (hnn : ∀ i : Nat, 0 ≤ xs[i]?.getD 0) :
    Calls Try.prog 67 #[.slice X n d, .slice Y n d'] w (Says w (.bool (underB caps xs))) := by
  have := RWithin_any X n d caps Y n d' xs w hx hy
  rwa [under_rates (by rw [hx.len, hy.len]) hnn] at this

theorem may_n8 {V : Int} {L : List Lk} {n : Nat} (h : mayG V L = true) (hl : L.length = n) : n * 8 ≤ 140737488351232 := by
  have := (may_small h).2.2
  omega

theorem loadsV_len {V : Int} {L : List Lk} {ps : List Pth} (h : loadsE V L ps = 0) : (loadsV V L ps).length = L.length := by
  obtain ⟨a, b⟩ := loads_ok0 h
  rw [(loads_goes a b).2, loadsQ_len]

theorem loadsV_ok (V : Int) (L : List Lk) (ps : List Pth) : okI (loadsV V L ps) := fun i => by have := loads_bd (V := V) (L := L) (ps := ps) i; omega

theorem ret_fit {p q : Bool} {a b : Int} (h : q = p) (k : b = a) : Ending.returned (.tuple #[.bool p, .int .i64 a]) = .returned (.tuple #[.bool q, .int .i64 b]) := by rw [h, k]

def fitV (V : Int) (L : List Lk) (caps : List Int) (ps : List Pth) : Value := .tuple #[.bool (fitsV V L caps ps), .int .i64 (fitsE V L caps ps)]

set_option maxHeartbeats 1000000 in
theorem Fits_any (V : Int) (A : Option Addr) (n c : Nat) (L : List Lk) (X : Option Addr) (q e : Nat) (caps : List Int) (P : Option Addr) (m d : Nat) (ps : List Pth) (w : World) {B B' B'' : Nat} (h : Lks w B A n L) (hB : B ≤ w.heap.size) (hx : Row w B'' X q caps) (hB'' : B'' ≤ w.heap.size) (hp : Pths w B' P m ps) (hB' : B' ≤ w.heap.size) (h8 : n * 8 ≤ 140737488351232) :
    Calls Try.prog 28 #[.agg #[.int .i64 V, .slice A n c], .slice X q e, .slice P m d] w (Says w (fitV V L caps ps)) := by
  have HL := Lib.hid h.len
  have HLX := Lib.hid hx.len
  have HR := Lib.hid h
  have HX := Lib.hid hx
  have HP := Lib.hid hp
  have HR1 := Lib.hid (h.grown hB (grow0 w (.cells #[.int .i64 V, .slice A n c] 24)))
  have HX1 := Lib.hid (hx.grown hB'' (grow0 w (.cells #[.int .i64 V, .slice A n c] 24)))
  clear h hx hp
  go_enter Try.func28, Try.ntmps28
  go_wp2_with fail
  refine (areCaps_any V A n c L X q e caps _ HR1.out HX1.out (by simp; omega) h8).mono ?_
  rintro e1 w1 ⟨rfl, g1⟩
  obtain ⟨g, o2⟩ := box1 [.int .i64 V, .slice A n c] g1
  obtain ⟨c0, c1⟩ := o2.two
  have G := Lib.hid g
  clear g g1 o2 HR1 HX1
  cases hcap : capsB L caps
  · have E := Lib.hid (fits_caps (V := V) (ps := ps) hcap)
    go_wp2
    go_ret2
    exact ⟨ret_fit E.out.2 E.out.1, G.out⟩
  have hqn : q = n := by
    simp only [capsB, Bool.and_eq_true, decide_eq_true_eq] at hcap
    have := HL.out; have := HLX.out; omega
  subst hqn
  go_wp2_with fail
  refine (Loads_any V A q c L P m d ps _ (HR.out.grown hB G.out) (by have := G.out.size; omega) (HP.out.grown hB' G.out) (by have := G.out.size; omega)).mono ?_
  rintro e2 w2 ⟨v, rfl, hv, g2⟩
  have G := Lib.hid (grown_trans G.out g2)
  clear g2 c0 c1
  by_cases hz : loadsE V L ps = 0
  case neg =>
    have E := Lib.hid (fits_err hcap hz)
    have hne : (loadsE V L ps != 0) = true := by simp [hz]
    clear hz hv hcap
    generalize loadsE V L ps = z at *
    go_wp2
    go_ret2
    exact ⟨ret_fit E.out.2 E.out.1, G.out⟩
  have E := Lib.hid (fits_ok hcap hz)
  have hlen : (loadsV V L ps).length = q := (loadsV_len hz).trans HL.out
  have HLV := Lib.hid hlen
  rw [hz]
  rw [hlen] at hv
  obtain ⟨Av, cv, rfl, _, hrv⟩ := hv.row (loadsV_ok V L ps)
  have HRV := Lib.hid hrv
  have hq := hrv.small
  have HXR := Lib.hid (HX.out.grown hB'' G.out)
  clear hz hcap hlen hv hrv
  generalize loadsV V L ps = xs at *
  have HS : Hid (UnRel w2 q caps xs (.int .i64 0) w2) := ⟨0, Nat.zero_le _, rfl, World.grownBy.refl w2 none, rfl⟩
  go_wp2
  go_loopw [27] (fun i wr => UnRel w2 q caps xs i wr) (fun i _ => q - (intOf i).toNat)
  case atStart => exact HS.out
  case round =>
    clear HS
    obtain ⟨k, hk, rfl, hg, hall⟩ := hrel
    have G2 := Lib.hid hg
    have HA := Lib.hid hall
    by_cases hlt : k < q
    · obtain ⟨b, off, hA, hb, hcell⟩ := HXR.out.at_ (by omega)
      subst hA
      have d0 := kept hg (hcell k hlt)
      obtain ⟨b2, off2, hA2, hb2, hcell2⟩ := HRV.out.at_ (by omega)
      subst hA2
      have e0 := kept hg (hcell2 k hlt)
      have HN := Lib.hid (range_next k (fun i => decide (xs[i]?.getD 0 ≤ caps[i]?.getD 0)))
      have HNO := Lib.hid (under_stop (caps := caps) (xs := xs) (k := k) (by rw [HLV.out]; exact hlt))
      clear hcell hcell2 hg hall
      generalize hy : xs[k]?.getD 0 = x at *
      generalize hz : caps[k]?.getD 0 = y at *
      clear hy hz
      by_cases h1 : y < x
      · have E2 : Hid (fitsV V L caps ps = false) := E.out.2.trans (HNO.out h1)
        clear HN HNO
        go_wp2
        go_ret2
        exact ⟨ret_fit E2.out E.out.1, grown_trans G.out G2.out⟩
      · have E2 : Hid ((List.range (k + 1)).all (fun i => decide (xs[i]?.getD 0 ≤ caps[i]?.getD 0)) = true) := by rw [Hid, HN.out, HA.out]; simp; omega
        clear HN HNO
        go_wp2
        go_roundw
        case rel => exact ⟨k + 1, by omega, by go_num, G2.out, E2.out⟩
        case measure => simp [intOf]; omega
    · obtain rfl : k = q := by omega
      have E2 : Hid (fitsV V L caps ps = true) := by rw [Hid, E.out.2, underB, HLV.out]; exact HA.out
      clear hg hall
      go_wp2
      go_ret2
      exact ⟨ret_fit E2.out E.out.1, grown_trans G.out G2.out⟩

set_option maxHeartbeats 1000000 in
theorem RFits_any (V : Int) (A : Option Addr) (n c : Nat) (L : List Lk) (X : Option Addr) (q e : Nat) (caps : List Int) (P : Option Addr) (m d : Nat) (ps : List Pth) (w : World) {B B' B'' : Nat} (h : Lks w B A n L) (hB : B ≤ w.heap.size) (hx : Row w B'' X q caps) (hB'' : B'' ≤ w.heap.size) (hp : Pths w B' P m ps) (hB' : B' ≤ w.heap.size) :
    Calls Try.prog 29 #[.agg #[.int .i64 V, .slice A n c], .slice X q e, .slice P m d] w (Says w (fitV V L caps ps)) := by
  have HL := Lib.hid h.len
  have HLX := Lib.hid hx.len
  have HR := Lib.hid h
  have HX := Lib.hid hx
  have HP := Lib.hid hp
  have HR1 := Lib.hid (h.grown hB (grow0 w (.cells #[.int .i64 V, .slice A n c] 24)))
  have HX1 := Lib.hid (hx.grown hB'' (grow0 w (.cells #[.int .i64 V, .slice A n c] 24)))
  clear h hx hp
  go_enter Try.func29, Try.ntmps29
  go_wp2_with fail
  refine (RCaps_any V A n c L X q e caps _ HR1.out (by simp; omega) HX1.out).mono ?_
  rintro e1 w1 ⟨he1, g1⟩
  obtain ⟨g, o2⟩ := box1 [.int .i64 V, .slice A n c] g1
  obtain ⟨c0, c1⟩ := o2.two
  have G := Lib.hid g
  clear g g1 o2 HR1 HX1
  cases hmay : mayG V L
  · rw [hmay] at he1
    subst he1
    have E := Lib.hid (fits_graph (caps := caps) (ps := ps) hmay)
    go_wp2
    go_ret2
    exact ⟨ret_fit E.out.2 E.out.1, G.out⟩
  cases hcap : capsB L caps
  · rw [hmay, hcap] at he1
    subst he1
    have E := Lib.hid (fits_caps (V := V) (ps := ps) hcap)
    go_wp2
    go_ret2
    exact ⟨ret_fit E.out.2 E.out.1, G.out⟩
  rw [hmay, hcap] at he1
  subst he1
  have hqn : q = n := by
    simp only [capsB, Bool.and_eq_true, decide_eq_true_eq] at hcap
    have := HL.out; have := HLX.out; omega
  subst hqn
  go_wp2_with fail
  refine (RLoads_any V A q c L P m d ps _ (HR.out.grown hB G.out) (by have := G.out.size; omega) (HP.out.grown hB' G.out) (by have := G.out.size; omega)).mono ?_
  rintro e2 w2 ⟨v, rfl, hv, g2⟩
  have G := Lib.hid (grown_trans G.out g2)
  clear g2 c0 c1
  by_cases hz : loadsE V L ps = 0
  case neg =>
    have E := Lib.hid (fits_err hcap hz)
    have hne : (loadsE V L ps != 0) = true := by simp [hz]
    clear hz hv hcap
    generalize loadsE V L ps = z at *
    go_wp2
    go_ret2
    exact ⟨ret_fit E.out.2 E.out.1, G.out⟩
  have E := Lib.hid (fits_ok hcap hz)
  have hlen : (loadsV V L ps).length = q := (loadsV_len hz).trans HL.out
  rw [hz]
  rw [hlen] at hv
  obtain ⟨Av, cv, rfl, _, hrv⟩ := hv.row (loadsV_ok V L ps)
  have HRV := Lib.hid hrv
  have HXR := Lib.hid (HX.out.grown hB'' G.out)
  have HNN : Hid (∀ i : Nat, 0 ≤ (loadsV V L ps)[i]?.getD 0) := fun i => (loads_bd i).1
  clear hz hcap hlen hv hrv hmay
  generalize loadsV V L ps = xs at *
  go_wp2_with fail
  refine (Within_any X q e caps Av cv xs _ HXR.out HRV.out HNN.out).mono ?_
  rintro e3 w3 ⟨rfl, g3⟩
  have G := Lib.hid (grown_trans G.out g3)
  clear g3
  generalize underB caps xs = ub at *
  go_wp2
  go_ret2
  exact ⟨ret_fit E.out.2 E.out.1, G.out⟩

end Go.Proofs.Ytmodkhcfihlhgaa
