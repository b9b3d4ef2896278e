/-
  The law BundleParts, walked.
-/
import Derived.Test.YtmodkhcfihlhgaaBundleG
namespace Go.Proofs.Ytmodkhcfihlhgaa
open Go.RowKit

theorem at2_take {ps : List Pth} {k i : Nat} (h : i < k) : at2 (ps.take k) i = at2 ps i := by simp [at2, List.getElem?_take_of_lt h]
theorem at2_drop (ps : List Pth) (k i : Nat) : at2 (ps.drop k) i = at2 ps (k + i) := by simp [at2, List.getElem?_drop]

theorem Pths.head {w : World} {B : Nat} {A : Option Addr} {n k : Nat} {ps : List Pth} (h : Pths w B A n ps) (hk : k ≤ n) : Pths w B A k (ps.take k) := by
  have hl := h.len
  refine ⟨by simp; omega, by have := h.small; omega, fun i => ?_, fun i hi => ?_⟩
  · by_cases hi : i < k
    · rw [rt, at2_take hi]; exact h.ok i
    · rw [rt, at2, List.getElem?_eq_none (by simp; omega)]; simp [bd64]
  · rw [rt, lk, at2_take hi]
    exact h.at_ i (by omega)

theorem Pths.tail {w : World} {B : Nat} {A A' : Option Addr} {n k : Nat} {ps : List Pth} (h : Pths w B A n ps) (hk : k ≤ n) (hA' : k < n → A' = A.map (·.add (k * 2))) : Pths w B A' (n - k) (ps.drop k) := by
  have hl := h.len
  refine ⟨by simp; omega, by have := h.small; omega, fun i => ?_, fun i hi => ?_⟩
  · rw [rt, at2_drop]; exact h.ok _
  · rw [rt, lk, at2_drop]
    obtain ⟨b, off, X, m, d, hA, hb, c0, c1, hr⟩ := h.at_ (k + i) (by omega)
    have e : A' = some ⟨b, off + k * 2, none⟩ := by
      rw [hA' (by omega), hA]
      simp only [Option.map_some, Addr.add]
      by_cases hz : k * 2 = 0
      · rw [if_pos hz, hz]; rfl
      · rw [if_neg hz]
    have e2 : off + k * 2 + i * 2 = off + (k + i) * 2 := by omega
    exact ⟨b, off + k * 2, X, m, d, e, hb, by rw [e2]; exact c0, by rw [e2]; exact c1, hr⟩

def PartsRel (w1 : World) (n : Nat) (i : Value) (wr : World) : Prop := ∃ k : Nat, k ≤ n ∧ i = .int .i64 (k : Nat) ∧ w1.grownBy wr none

def PartsMid (w3 : World) (n : Nat) (zs : List Int) (v e : Value) (wx : World) : Prop := ∃ A c, v = .slice A n c ∧ e = .int .i64 0 ∧ w3.grownBy wx none ∧ Row wx wx.heap.size A n zs

/-- Behind both parts: three rows, the one the sum of the two others. -/
structure Trio (w : World) (n : Nat) (A1 A2 A3 : Option Addr) (x y z : List Int) : Prop where
  a : Row w w.heap.size A1 n x
  b : Row w w.heap.size A2 n y
  c : Row w w.heap.size A3 n z
  s : ∀ i, i < n → x[i]?.getD 0 = y[i]?.getD 0 + z[i]?.getD 0
  u : ∀ i : Nat, 0 ≤ y[i]?.getD 0 ∧ y[i]?.getD 0 ≤ 4611686018427387904 ∧ 0 ≤ z[i]?.getD 0 ∧ z[i]?.getD 0 ≤ 4611686018427387904
  v : ∀ i : Nat, x[i]?.getD 0 ≤ 4611686018427387904

set_option maxHeartbeats 4000000 in
theorem BundleParts_walk (V : Int) (A : Option Addr) (n c : Nat) (L : List Lk) (P : Option Addr) (m f : Nat) (ps : List Pth) (at_ : Int) (w : World) (h : InG w A n c L) (hP : InP w P m f ps) (hat : -9223372036854775808 ≤ at_ ∧ at_ ≤ 9223372036854775807) :
    Calls Try.prog 5 #[.agg #[.int .i64 V, .slice A n c], .slice P m f, .int .i64 at_] w (LawPost w) := by
  obtain ⟨hs, hnc, hc, hnil⟩ := h
  obtain ⟨hp, hmf, hf, hnilp, hbd⟩ := hP
  have hm := hp.small
  have hn := hs.small
  have HL := Lib.hid hs.len
  have HR := Lib.hid hs
  have HP := Lib.hid hp
  have HR1 := Lib.hid (hs.grown (Nat.le_refl _) (grow0 w (.cells #[.int .i64 V, .slice A n c] 24)))
  have HP1 := Lib.hid (hp.grown (Nat.le_refl _) (grow0 w (.cells #[.int .i64 V, .slice A n c] 24)))
  clear hs hnil hp hbd hnilp
  go_enter Try.func5, Try.ntmps5
  go_wp2_with fail
  refine (Loads_any V A n c L P m f ps _ HR1.out (by simp) HP1.out (by simp)).mono ?_
  rintro e w1 ⟨va, rfl, ha, k⟩
  obtain ⟨g1, ob⟩ := box1 [.int .i64 V, .slice A n c] k
  have G := Lib.hid g1
  have OB := Lib.hid ob
  have MA := Lib.hid ha
  clear k g1 ob ha HR1 HP1
  go_wp2_with fail
  refine (num_says _ _).mono ?_
  rintro e w2 ⟨rfl, k⟩
  have MA := Lib.hid (MA.out.kept k)
  have G := Lib.hid (grown_trans G.out k)
  have OB := Lib.hid (OB.out.kept k)
  clear k
  by_cases hz : loadsE V L ps = 0
  case neg =>
    have hne : (loadsE V L ps != 0) = true := by simp [hz]
    clear hz MA
    generalize loadsE V L ps = z at *
    go_wp2
    go_ret
    exact ⟨rfl, below_of G.out⟩
  have HZ := Lib.hid hz
  rw [hz]
  clear hz
  by_cases h0 : at_ < 0
  · clear MA
    go_wp2
    go_ret
    exact ⟨rfl, below_of G.out⟩
  by_cases h1 : (m : Int) < at_
  · clear MA
    go_wp2
    go_ret
    exact ⟨rfl, below_of G.out⟩
  obtain ⟨k, rfl⟩ : ∃ k : Nat, at_ = (k : Int) := ⟨at_.toNat, by omega⟩
  have hkm : k ≤ m := by omega
  have hkf : k ≤ f := by omega
  clear hat
  have hlen := loadsV_len HZ.out
  rw [HL.out] at hlen
  have ma := MA.out
  rw [hlen] at ma
  obtain ⟨Aa, ca, rfl, _, ra⟩ := ma.row (loadsV_ok V L ps)
  have RA := Lib.hid ra
  clear ma ra MA hlen
  obtain ⟨HT1, HT2, HT3⟩ := loads_take k HZ.out
  have HE1 := Lib.hid HT1
  have HE2 := Lib.hid HT2
  have HE3 := Lib.hid HT3
  have HL1 := Lib.hid ((loadsV_len HT1).trans HL.out)
  have HL2 := Lib.hid ((loadsV_len HT2).trans HL.out)
  clear HT1 HT2 HT3
  obtain ⟨c0, c1⟩ := OB.out.two
  have hs2 := G.out.size
  have HPX := Lib.hid (HP.out.grown (Nat.le_refl _) G.out)
  have HRX := Lib.hid (HR.out.grown (Nat.le_refl _) G.out)
  have HSS : Hid ((fun w' : World => w'.cell? ⟨w.heap.size, 0, none⟩ = some (.int .i64 V) ∧ w'.cell? ⟨w.heap.size, 1, none⟩ = some (.slice A n c)) w2) := ⟨c0, c1⟩
  have hk0 : (0 : Int) ≤ (k : Int) := by omega
  have hk1 : (k : Int) ≤ (f : Int) := by omega
  have CL : Hid (∀ wx : World, w2.grownBy wx none → Calls Try.prog 17 #[.agg #[.int .i64 V, .slice A n c], .slice P k f] wx (SelPost wx (loadsV V L (ps.take k)) (loadsE V L (ps.take k)))) := fun wx kx => Loads_any V A n c L P k f (ps.take k) wx (HRX.out.grown hs2 kx) (by have := kx.size; omega) ((HPX.out.head hkm).grown hs2 kx) (by have := kx.size; omega)
  go_upto_region 4 with fail
  go_region_held3 (fun w' : World => w'.cell? ⟨w.heap.size, 0, none⟩ = some (.int .i64 V) ∧ w'.cell? ⟨w.heap.size, 1, none⟩ = some (.slice A n c)) (exact HSS.out)
    (first
      | (go_at_call 17; refine (CL.out _ (by first | exact World.grownBy.refl _ _ | exact grown_drew (World.grownBy.refl _ _) | exact grown_drewN (World.grownBy.refl _ _) _)).mono ?_; rintro e w3 ⟨vb, he, hb, kb⟩; rw [HE1.out] at he; subst he; have K3 : Hid (w2.grownBy w3 none) := (by first | exact kb | exact grown_undrew kb); have HSS := Lib.hid (held2 K3.out HSS.out); have MB := Lib.hid hb; clear hb kb))
  have mb := MB.out
  rw [HL1.out] at mb
  obtain ⟨Ab, cb, rfl, _, rb⟩ := mb.row (loadsV_ok V L (ps.take k))
  have RB := Lib.hid rb
  have RA := Lib.hid ((RA.out.grown (Nat.le_refl _) K3.out).wide K3.out.size)
  have G := Lib.hid (grown_trans G.out K3.out)
  have OB := Lib.hid (OB.out.kept K3.out)
  have hs3 : w.heap.size ≤ w3.heap.size := G.out.size
  have HPX := Lib.hid (HP.out.grown (Nat.le_refl _) G.out)
  have HRX := Lib.hid (HR.out.grown (Nat.le_refl _) G.out)
  clear mb rb MB c0 c1 CL K3 hs2
  have CL2 : Hid (∀ (wx : World) (A' : Option Addr) (f' : Nat), (k < m → A' = P.map (·.add (k * 2))) → w3.grownBy wx none → Calls Try.prog 17 #[.agg #[.int .i64 V, .slice A n c], .slice A' (m - k) f'] wx (SelPost wx (loadsV V L (ps.drop k)) (loadsE V L (ps.drop k)))) := fun wx A' f' hA' kx => Loads_any V A n c L A' (m - k) f' (ps.drop k) wx (HRX.out.grown hs3 kx) (by have := kx.size; omega) ((HPX.out.tail hkm hA').grown hs3 kx) (by have := kx.size; omega)
  have hk2 : (k : Int) ≤ (m : Int) := by omega
  go_upto_region 5 with fail
  go_cut [11, 12] from 41 to 48 (fun v e wx => PartsMid w3 n (loadsV V L (ps.drop k)) v e wx)
  case first =>
    by_cases hfk : k = f
    · obtain rfl : k = m := by omega
      subst hfk
      have CL3 := Lib.hid CL2.out
      rw [Nat.sub_self] at CL3
      have CL2 := CL3
      clear CL3
      go_region_held3 (fun w' : World => w'.cell? ⟨w.heap.size, 0, none⟩ = some (.int .i64 V) ∧ w'.cell? ⟨w.heap.size, 1, none⟩ = some (.slice A n c)) (exact HSS.out)
        (first
          | (go_at_call 17; refine (CL2.out _ _ _ (fun hh => absurd hh (by omega)) (by first | exact World.grownBy.refl _ _ | exact grown_drew (World.grownBy.refl _ _) | exact grown_drewN (World.grownBy.refl _ _) _)).mono ?_; rintro e w4 ⟨vc, he, hb, kb⟩; rw [HE2.out] at he; rw [HL2.out] at hb; subst he; have K4 : Hid (w3.grownBy w4 none) := (by first | exact kb | exact grown_undrew kb); have HSS := Lib.hid (held2 K4.out HSS.out); obtain ⟨Ac, cc, rfl, _, rc⟩ := hb.row (loadsV_ok V L (ps.drop k)); have RC := Lib.hid rc; clear hb kb rc))
      go_wp2_with fail
      go_meet
      exact ⟨Ac, cc, rfl, rfl, K4.out, RC.out⟩
    · have hc2 : ¬ (f : Int) = (k : Int) := by omega
      have hc3 : ¬ k = f := hfk
      have hc4 : ¬ f = k := by omega
      go_region_held3 (fun w' : World => w'.cell? ⟨w.heap.size, 0, none⟩ = some (.int .i64 V) ∧ w'.cell? ⟨w.heap.size, 1, none⟩ = some (.slice A n c)) (exact HSS.out)
        (first
          | (go_at_call 17; refine (CL2.out _ _ _ (fun _ => rfl) (by first | exact World.grownBy.refl _ _ | exact grown_drew (World.grownBy.refl _ _) | exact grown_drewN (World.grownBy.refl _ _) _)).mono ?_; rintro e w4 ⟨vc, he, hb, kb⟩; rw [HE2.out] at he; rw [HL2.out] at hb; subst he; have K4 : Hid (w3.grownBy w4 none) := (by first | exact kb | exact grown_undrew kb); have HSS := Lib.hid (held2 K4.out HSS.out); obtain ⟨Ac, cc, rfl, _, rc⟩ := hb.row (loadsV_ok V L (ps.drop k)); have RC := Lib.hid rc; clear hb kb rc))
      go_wp2_with fail
      go_meet
      exact ⟨Ac, cc, rfl, rfl, K4.out, RC.out⟩
  case rest =>
    obtain ⟨Ac, cc, rfl, rfl, k4, rc⟩ := hcut
    have T3 : Hid (Trio wc n Aa Ab Ac (loadsV V L ps) (loadsV V L (ps.take k)) (loadsV V L (ps.drop k))) :=
      ⟨(RA.out.grown (Nat.le_refl _) k4).wide k4.size, (RB.out.grown (Nat.le_refl _) k4).wide k4.size, rc, fun i hi => HE3.out i (by rw [HL.out]; exact hi), fun i => ⟨(loads_bd i).1, (loads_bd i).2, (loads_bd i).1, (loads_bd i).2⟩, fun i => (loads_bd i).2⟩
    have G := Lib.hid (grown_trans G.out k4)
    have OB := Lib.hid (OB.out.kept k4)
    clear k4 rc RA RB HE1 HE2 HE3 HL1 HL2 HSS CL2 HZ HPX HRX
    generalize loadsV V L ps = xa at *
    generalize loadsV V L (ps.take k) = xb at *
    generalize loadsV V L (ps.drop k) = xc at *
    go_wp2_with fail
    refine (Num0_any _ _).mono ?_
    rintro e w5 ⟨rfl, rfl⟩
    go_wp2_with fail
    refine (Num0_any _ _).mono ?_
    rintro e w5 ⟨rfl, rfl⟩
    obtain ⟨c0, c1⟩ := OB.out.two
    have hnn : ((n : Int) != (n : Int)) = false := by simp
    have HS : Hid (PartsRel wc n (.int .i64 0) wc) := ⟨0, Nat.zero_le _, rfl, World.grownBy.refl wc none⟩
    go_wp2
    go_loopw [13] (fun i wr => PartsRel wc n i wr) (fun i _ => n - (intOf i).toNat)
    case atStart => exact HS.out
    case round =>
      clear HS c0 c1 hnn
      obtain ⟨j, hj, rfl, hg⟩ := hrel
      have G2 := Lib.hid hg
      by_cases hlt : j < n
      · obtain ⟨ba, oa, hAa, _, ha⟩ := T3.out.a.at_ (by omega)
        obtain ⟨bb, ob, hAb, _, hb⟩ := T3.out.b.at_ (by omega)
        obtain ⟨bc, oc, hAc, _, hcc⟩ := T3.out.c.at_ (by omega)
        subst hAa hAb hAc
        have d0 := kept hg (ha j hlt)
        have d1 := kept hg (hb j hlt)
        have d2 := kept hg (hcc j hlt)
        have hsum := T3.out.s j hlt
        have hbd := T3.out.u j
        have hbv := T3.out.v j
        rw [hsum] at d0 hbv
        clear ha hb hcc hg hsum
        generalize xb[j]?.getD 0 = y at *
        generalize xc[j]?.getD 0 = z at *
        have hw : IntKind.i64.wrap (y + z) = y + z := IntWalk.i64_in _ (by omega)
        have hne : (y + z != y + z) = false := by simp
        clear hbd hbv
        go_wp2_with fail
        go_quiet (fail)
        clear hw
        go_wp2
        go_roundw
        case rel => exact ⟨j + 1, by omega, by go_num, grown_drewN G2.out _⟩
        case measure => simp [intOf]; omega
      · clear hg
        go_wp2_with fail
        refine (awake7_any _).mono ?_
        rintro e w6 ⟨rfl, k6⟩
        have G := Lib.hid (grown_trans G.out (grown_trans G2.out k6))
        clear k6
        go_wp2
        go_ret
        exact ⟨rfl, below_of G.out⟩

end Go.Proofs.Ytmodkhcfihlhgaa
