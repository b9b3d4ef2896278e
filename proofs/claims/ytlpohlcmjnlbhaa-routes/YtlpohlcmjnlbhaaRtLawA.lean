/-
  The law Routes, walked.
-/
import Derived.Test.YtlpohlcmjnlbhaaRouteG
import Derived.Test.YtlpohlcmjnlbhaaJK
import Derived.Test.YtlpohlcmjnlbhaaJI
import Derived.Test.YtlpohlcmjnlbhaaBlkB
set_option maxRecDepth 20000
namespace Go.Proofs.Ytlpohlcmjnlbhaa
open Go.RowKit

theorem routeB_mk {V : Int} {L : List Lk} {caps : List Int} {s t R : Int} (h1 : (mayG V L && capsB L caps) = true) (h3 : 0 ≤ s ∧ s < V) (h4 : 0 ≤ t ∧ t < V) (h5 : s ≠ t) (h6 : 1 ≤ R) (h7 : R ≤ 4611686018427387904) : routeB V L caps s t R = true := by
  rw [Bool.and_eq_true] at h1
  simp [routeB, isV, h1.1, h1.2, h3.1, h3.2, h4.1, h4.2, h5, h6, h7]

set_option maxHeartbeats 8000000 in
theorem Routes_walk (V : Int) (A : Option Addr) (n c : Nat) (ls : List Lk) (X : Option Addr) (m d : Nat) (caps : List Int) (s t R : Int) (w : World) (h : InG w A n c ls) (hX : In w X m d caps) :
    Calls Try.prog 3 #[.agg #[.int .i64 V, .slice A n c], .slice X m d, .int .i64 s, .int .i64 t, .int .i64 R] w (LawPost w) := by
  obtain ⟨hs, hnc, hc, hnil⟩ := h
  obtain ⟨hx, hpd, hd, hnilx⟩ := hX
  have HR := Lib.hid hs
  have HL := Lib.hid hs.len
  have HX := Lib.hid hx
  have HLX := Lib.hid hx.len
  have HNIX := Lib.hid hnilx
  have HX1 := Lib.hid (hx.grown (Nat.le_refl _) (grow0 w (.cells #[.int .i64 V, .slice A n c] 24)))
  clear hs hnil hx hnilx
  go_enter Try.func3, Try.ntmps3
  go_wp2_with fail
  refine (LendInts_any X m d caps _ HX1.out (by simp) HNIX.out (by omega)).mono ?_
  rintro e w1 ⟨gl, cl, rfl, hcl, hrow, bel⟩
  obtain ⟨g1, ob⟩ := box1 [.int .i64 V, .slice A n c] (grown_of_below bel)
  have RX := Lib.hid hrow
  have G := Lib.hid g1
  have OB := Lib.hid ob
  have HCL := Lib.hid hcl
  clear bel g1 ob hrow HX1 hcl
  obtain ⟨p0, p1⟩ := OB.out.two
  go_wp2_with fail
  refine (Route_any V s t R A n c ls (some ⟨gl, 0, none⟩) m cl caps _ (HR.out.grown (Nat.le_refl _) G.out) G.out.size (RX.out.unmark HLX.out) (Nat.le_refl _)).mono ?_
  rintro e w2 ⟨ps, vs, z, hb, u2, v2, rfl, h2, hv2, k⟩
  have HB := Lib.hid hb
  have hlg := G.out.size
  have s2 := k.size
  obtain ⟨⟨Aa, ca, rfl, ra⟩, hp16, okv⟩ := route_pths hb h2
  obtain ⟨Av, cv, rfl, _, _, rv⟩ := hv2.rowN okv
  have M2 := Lib.hid h2
  have RA := Lib.hid ra
  have RV := Lib.hid rv
  have G := Lib.hid (grown_trans G.out k)
  have OB := Lib.hid (OB.out.kept k)
  have RX := Lib.hid (RX.out.grown (Nat.le_refl _) k)
  clear k p0 p1 hb h2 ra rv hv2 okv
  obtain ⟨p0, p1⟩ := OB.out.two
  unfold rouV
  go_wp2_with fail
  refine (RCaps_any V A n c ls X m d caps _ (HR.out.grown (Nat.le_refl _) G.out) G.out.size (HX.out.grown (Nat.le_refl _) G.out)).mono ?_
  rintro e w3 ⟨rfl, k⟩
  have s3 := k.size
  have G := Lib.hid (grown_trans G.out k)
  have OB := Lib.hid (OB.out.kept k)
  have RX := Lib.hid (RX.out.grown s2 k)
  have M2 := Lib.hid (M2.out.kept k)
  have RA := Lib.hid ((RA.out.grown (Nat.le_refl _) k).wide s3)
  have RV := Lib.hid ((RV.out.grown (Nat.le_refl _) k).wide s3)
  clear k p0 p1
  obtain ⟨p0, p1⟩ := OB.out.two
  rcases HB.out with ⟨hr, rfl, hk⟩ | ⟨hr, rfl, rfl, rfl⟩
  case inr =>
    have HRT := Lib.hid hr
    clear hr HB RA RV M2 RX
    cases hf : (mayG V ls && capsB ls caps)
    · clear hf HRT
      go_wp2_with fail
      refine (awake16_any _).mono ?_
      rintro e w4 ⟨rfl, k⟩
      have G := Lib.hid (grown_trans G.out k)
      clear k
      go_wp2_with fail
      refine (num_says _ _).mono ?_
      rintro e w5 ⟨rfl, k⟩
      have G := Lib.hid (grown_trans G.out k)
      clear k
      go_wp2
      go_ret
      exact ⟨rfl, below_of G.out⟩
    by_cases s0 : s < 0
    · clear hf HRT
      go_wp2_with fail
      refine (awake16_any _).mono ?_
      rintro e w4 ⟨rfl, k⟩
      have G := Lib.hid (grown_trans G.out k)
      clear k
      go_wp2_with fail
      refine (num_says _ _).mono ?_
      rintro e w5 ⟨rfl, k⟩
      have G := Lib.hid (grown_trans G.out k)
      clear k
      go_wp2
      go_ret
      exact ⟨rfl, below_of G.out⟩
    by_cases s1 : V ≤ s
    · clear hf HRT
      go_wp2_with fail
      refine (awake16_any _).mono ?_
      rintro e w4 ⟨rfl, k⟩
      have G := Lib.hid (grown_trans G.out k)
      clear k
      go_wp2_with fail
      refine (num_says _ _).mono ?_
      rintro e w5 ⟨rfl, k⟩
      have G := Lib.hid (grown_trans G.out k)
      clear k
      go_wp2
      go_ret
      exact ⟨rfl, below_of G.out⟩
    by_cases t0 : t < 0
    · clear hf HRT
      go_wp2_with fail
      refine (awake16_any _).mono ?_
      rintro e w4 ⟨rfl, k⟩
      have G := Lib.hid (grown_trans G.out k)
      clear k
      go_wp2_with fail
      refine (num_says _ _).mono ?_
      rintro e w5 ⟨rfl, k⟩
      have G := Lib.hid (grown_trans G.out k)
      clear k
      go_wp2
      go_ret
      exact ⟨rfl, below_of G.out⟩
    by_cases t1 : V ≤ t
    · clear hf HRT
      go_wp2_with fail
      refine (awake16_any _).mono ?_
      rintro e w4 ⟨rfl, k⟩
      have G := Lib.hid (grown_trans G.out k)
      clear k
      go_wp2_with fail
      refine (num_says _ _).mono ?_
      rintro e w5 ⟨rfl, k⟩
      have G := Lib.hid (grown_trans G.out k)
      clear k
      go_wp2
      go_ret
      exact ⟨rfl, below_of G.out⟩
    by_cases hst : s = t
    · have q : (s == t) = true := by simp [hst]
      clear hf HRT hst
      go_wp2_with fail
      refine (awake16_any _).mono ?_
      rintro e w4 ⟨rfl, k⟩
      have G := Lib.hid (grown_trans G.out k)
      clear k
      go_wp2_with fail
      refine (num_says _ _).mono ?_
      rintro e w5 ⟨rfl, k⟩
      have G := Lib.hid (grown_trans G.out k)
      clear k
      go_wp2
      go_ret
      exact ⟨rfl, below_of G.out⟩
    have q : (s == t) = false := by simp [hst]
    by_cases r0 : R < 1
    · clear hf HRT hst
      go_wp2_with fail
      refine (awake16_any _).mono ?_
      rintro e w4 ⟨rfl, k⟩
      have G := Lib.hid (grown_trans G.out k)
      clear k
      go_wp2_with fail
      refine (num_says _ _).mono ?_
      rintro e w5 ⟨rfl, k⟩
      have G := Lib.hid (grown_trans G.out k)
      clear k
      go_wp2
      go_ret
      exact ⟨rfl, below_of G.out⟩
    by_cases r1 : 4611686018427387904 < R
    · clear hf HRT hst
      go_wp2_with fail
      refine (awake16_any _).mono ?_
      rintro e w4 ⟨rfl, k⟩
      have G := Lib.hid (grown_trans G.out k)
      clear k
      go_wp2_with fail
      refine (num_says _ _).mono ?_
      rintro e w5 ⟨rfl, k⟩
      have G := Lib.hid (grown_trans G.out k)
      clear k
      go_wp2
      go_ret
      exact ⟨rfl, below_of G.out⟩
    exfalso
    have := routeB_mk (R := R) hf ⟨by omega, by omega⟩ ⟨by omega, by omega⟩ hst (by omega) (by omega)
    rw [HRT.out] at this
    cases this
  obtain ⟨hm, hcb, hs1, ht1, hne, m0, m1⟩ := routeB_parts hr
  have hf : (mayG V ls && capsB ls caps) = true := by rw [hm, hcb]; rfl
  rw [hf]
  have h16 := may_small hm
  obtain ⟨vn, rfl⟩ : ∃ vn : Nat, V = (vn : Nat) := ⟨V.toNat, by omega⟩
  obtain ⟨sn, rfl⟩ : ∃ sn : Nat, s = (sn : Nat) := ⟨s.toNat, by omega⟩
  obtain ⟨tn, rfl⟩ : ∃ tn : Nat, t = (tn : Nat) := ⟨t.toNat, by omega⟩
  have hsn : sn < vn := by omega
  have htn : tn < vn := by omega
  have q : ((sn : Int) == (tn : Int)) = false := by simp; omega
  have HM := Lib.hid hm
  have HC := Lib.hid hcb
  have HK := Lib.hid hk
  clear hf hm hcb hs1 ht1 hne hr HB hk
  go_wp2_with fail
  refine (num_says _ _).mono ?_
  rintro e w4 ⟨rfl, k⟩
  have s4 := k.size
  have G := Lib.hid (grown_trans G.out k)
  have OB := Lib.hid (OB.out.kept k)
  have RX := Lib.hid (RX.out.grown (by omega) k)
  have M2 := Lib.hid (M2.out.kept k)
  have RA := Lib.hid ((RA.out.grown (Nat.le_refl _) k).wide s4)
  have RV := Lib.hid ((RV.out.grown (Nat.le_refl _) k).wide s4)
  clear k p0 p1
  obtain ⟨p0, p1⟩ := OB.out.two
  have HLE : Hid (leastN (okC sn tn) (wtC ls caps) (2 ^ vn) = leastC vn ls caps sn tn) := rfl
  go_wp2_with fail
  refine (RLeast_any vn sn tn A n c ls X m d caps _ (HR.out.grown (Nat.le_refl _) G.out) G.out.size (HX.out.grown (Nat.le_refl _) G.out) G.out.size HM.out HC.out hsn htn).mono ?_
  rintro e w5 ⟨rfl, k⟩
  have s5 := k.size
  have G := Lib.hid (grown_trans G.out k)
  have OB := Lib.hid (OB.out.kept k)
  have RX := Lib.hid (RX.out.grown (by omega) k)
  have M2 := Lib.hid (M2.out.kept k)
  have RA := Lib.hid ((RA.out.grown (Nat.le_refl _) k).wide s5)
  have RV := Lib.hid ((RV.out.grown (Nat.le_refl _) k).wide s5)
  clear k p0 p1
  obtain ⟨p0, p1⟩ := OB.out.two
  generalize leastN (okC sn tn) (wtC ls caps) (2 ^ vn) = L0 at *
  rcases HK.out with ⟨hb, hfi, rfl⟩ | ⟨rfl, hpr⟩
  · have hle : ¬ L0 < R := by have := route_least hb hfi; rw [← HLE.out] at this; omega
    have FV : Hid (fitV (vn : Nat) ls caps ps = .tuple #[.bool true, .int .i64 0]) := by
      obtain ⟨f1, f2, _⟩ := fits_rates hfi
      have e1 : fitsE (vn : Nat) ls caps ps = 0 := by rw [fitsE, if_pos f1, f2]
      rw [Hid, fitV, hfi, e1]
    have HBM := Lib.hid hb
    have hl1 := (bmay_parts hb).1
    obtain ⟨pl, hpl⟩ : ∃ pl, ps.length = pl := ⟨_, rfl⟩
    rw [hpl] at RA M2 hp16 hl1
    rw [hpl]
    clear hb hfi HK HLE hpl RV
    go_wp2_with fail
    refine (RFits_any (vn : Nat) A n c ls X m d caps Aa pl ca ps _ (HR.out.grown (Nat.le_refl _) G.out) G.out.size (HX.out.grown (Nat.le_refl _) G.out) G.out.size RA.out (Nat.le_refl _)).mono ?_
    rintro e w6 ⟨he, k⟩
    rw [FV.out] at he
    subst he
    have s6 := k.size
    have G := Lib.hid (grown_trans G.out k)
    have OB := Lib.hid (OB.out.kept k)
    have RX := Lib.hid (RX.out.grown (by omega) k)
    have M2 := Lib.hid (M2.out.kept k)
    have RA := Lib.hid ((RA.out.grown (Nat.le_refl _) k).wide s6)
    clear k p0 p1
    obtain ⟨p0, p1⟩ := OB.out.two
    go_wp2_with fail
    refine (RBMay_any (vn : Nat) (sn : Nat) (tn : Nat) R A n c ls Aa pl ca ps _ (HR.out.grown (Nat.le_refl _) G.out) G.out.size RA.out (Nat.le_refl _)).mono ?_
    rintro e w7 ⟨he, k⟩
    rw [HBM.out] at he
    subst he
    have s7 := k.size
    have G := Lib.hid (grown_trans G.out k)
    have RX := Lib.hid (RX.out.grown (by omega) k)
    have M2 := Lib.hid (M2.out.kept k)
    clear k p0 p1 OB RA
    go_wp2_with fail
    refine (SpoilPaths_any (.slice Aa pl ca) pl ps _ M2.out (by omega) hp16).mono ?_
    rintro e w8 ⟨rfl, be⟩
    have s8 := be.size
    have G := Lib.hid (grown_below G.out hlg be)
    have RX := Lib.hid (RX.out.belowB (Nat.le_refl _) be)
    clear be M2
    go_wp2_with fail
    refine (awake16_any _).mono ?_
    rintro e w9 ⟨rfl, k⟩
    have G := Lib.hid (grown_trans G.out k)
    have RX := Lib.hid (RX.out.grown (by omega) k)
    clear k
    go_wp2_with fail
    refine (KeptInts_any gl m cl caps X d _ RX.out HLX.out HCL.out (HX.out.grown (Nat.le_refl _) G.out)).mono ?_
    rintro e wa ⟨rfl, j, rfl⟩
    go_wp2
    go_ret
    exact ⟨rfl, below_of (grown_drewN G.out _)⟩
  · have hle : L0 < R := by have := prov_least hpr hsn htn; rw [← HLE.out] at this; exact this
    have PV : Hid (prvV (vn : Nat) ls caps (sn : Nat) (tn : Nat) R vs = .tuple #[.bool true, .int .i64 0]) := by
      have e1 : provE (vn : Nat) ls caps = 0 := by rw [provE, HM.out, HC.out]; rfl
      rw [Hid, prvV, hpr, e1]
    clear hpr HK HLE RA M2
    generalize vs.length = vl at *
    go_wp2_with fail
    refine (RProves_any (vn : Nat) (sn : Nat) (tn : Nat) R A n c ls X m d caps Av vl cv vs _ (HR.out.grown (Nat.le_refl _) G.out) G.out.size (HX.out.grown (Nat.le_refl _) G.out) G.out.size RV.out (Nat.le_refl _)).mono ?_
    rintro e w6 ⟨he, k⟩
    rw [PV.out] at he
    subst he
    have s6 := k.size
    have G := Lib.hid (grown_trans G.out k)
    have RX := Lib.hid (RX.out.grown (by omega) k)
    clear k p0 p1 OB RV
    go_wp2_with fail
    refine (awake16_any _).mono ?_
    rintro e w7 ⟨rfl, k⟩
    have G := Lib.hid (grown_trans G.out k)
    have RX := Lib.hid (RX.out.grown (by omega) k)
    clear k
    go_wp2_with fail
    refine (KeptInts_any gl m cl caps X d _ RX.out HLX.out HCL.out (HX.out.grown (Nat.le_refl _) G.out)).mono ?_
    rintro e w8 ⟨rfl, j, rfl⟩
    go_wp2
    go_ret
    exact ⟨rfl, below_of (grown_drewN G.out _)⟩

end Go.Proofs.Ytlpohlcmjnlbhaa
