/-
  The laws Strands, StrandWhole and StrandBack, walked.
-/
import Derived.Test.YtodjehljnmfbpaaStrandG
set_option maxRecDepth 20000
namespace Go.Proofs.Ytodjehljnmfbpaa
open Go.RowKit

set_option maxHeartbeats 4000000 in
theorem Strands_walk (V : Int) (A : Option Addr) (n c : Nat) (ls : List Lk) (X : Option Addr) (m d : Nat) (f : List Int) (s t : Int) (w : World) (h : InG w A n c ls) (hX : In w X m d f) :
    Calls Try.prog 3 #[.agg #[.int .i64 V, .slice A n c], .slice X m d, .int .i64 s, .int .i64 t] w (LawPost w) := by
  obtain ⟨hs, hnc, hc, hnil⟩ := h
  obtain ⟨hx, hpd, hd, hnilx⟩ := hX
  have HR := Lib.hid hs
  have HL := Lib.hid hs.len
  have HX := Lib.hid hx
  have HLX := Lib.hid hx.len
  have HNIX := Lib.hid hnilx
  have HX1 := Lib.hid (hx.grown (Nat.le_refl _) (grow0 w (.cells #[.int .i64 V, .slice A n c] 24)))
  clear hs hnil hx hnilx
  go_enter Try.func3, Try.ntmps3
  go_wp2_with fail
  refine (LendInts_any X m d f _ HX1.out (by simp) HNIX.out (by omega)).mono ?_
  rintro e w1 ⟨gl, cl, rfl, hcl, hrow, bel⟩
  obtain ⟨g1, ob⟩ := box1 [.int .i64 V, .slice A n c] (grown_of_below bel)
  have RX := Lib.hid hrow
  have G := Lib.hid g1
  have OB := Lib.hid ob
  have HCL := Lib.hid hcl
  clear bel g1 ob hrow HX1 hcl
  obtain ⟨p0, p1⟩ := OB.out.two
  go_wp2_with fail
  refine (Split_any V s t A n c ls (some ⟨gl, 0, none⟩) m cl f _ (HR.out.grown (Nat.le_refl _) G.out) G.out.size (RX.out.unmark HLX.out) (Nat.le_refl _)).mono ?_
  rintro e w2 ⟨ps, z, hb, v2, rfl, h2, k⟩
  have HB := Lib.hid hb
  have M2 := Lib.hid h2
  have hlg := G.out.size
  have s2 := k.size
  have G := Lib.hid (grown_trans G.out k)
  have OB := Lib.hid (OB.out.kept k)
  have RX := Lib.hid (RX.out.grown (Nat.le_refl _) k)
  clear k p0 p1 hb h2
  obtain ⟨p0, p1⟩ := OB.out.two
  go_wp2_with fail
  refine (RFlow_any V s t A n c ls X m d f X m d f _ (HR.out.grown (Nat.le_refl _) G.out) G.out.size (HX.out.grown (Nat.le_refl _) G.out) G.out.size (HX.out.grown (Nat.le_refl _) G.out) G.out.size).mono ?_
  rintro e w3 ⟨rfl, k⟩
  have s3 := k.size
  have G := Lib.hid (grown_trans G.out k)
  have OB := Lib.hid (OB.out.kept k)
  have RX := Lib.hid (RX.out.grown s2 k)
  have M2 := Lib.hid (M2.out.kept k)
  clear k p0 p1
  obtain ⟨p0, p1⟩ := OB.out.two
  cases hfl : flowB V ls f f s t
  · obtain ⟨rfl, rfl⟩ : z = 1500 ∧ ps = [] := by
      rcases HB.out with ⟨q, _⟩ | ⟨_, h1, h2⟩
      · rw [hfl] at q; cases q
      · exact ⟨h1, h2⟩
    obtain ⟨Ab, cb, rfl⟩ := M2.out.sl
    clear hfl HB
    go_wp2_with fail
    refine (awake15_any _).mono ?_
    rintro e w4 ⟨rfl, k⟩
    have G := Lib.hid (grown_trans G.out k)
    clear k
    go_wp2_with fail
    refine (num_says _ _).mono ?_
    rintro e w5 ⟨rfl, k⟩
    have G := Lib.hid (grown_trans G.out k)
    clear k
    go_wp2
    go_ret
    exact ⟨rfl, below_of G.out⟩
  obtain ⟨hm, hcf⟩ := flow_v hfl
  have h16 := may_small hm
  rw [HL.out] at h16
  obtain ⟨vn, rfl⟩ : ∃ vn : Nat, V = (vn : Nat) := ⟨V.toNat, by omega⟩
  obtain ⟨rfl, sf⟩ := split_flow hfl HB.out
  obtain ⟨z0, zp⟩ := splitF_may hfl sf
  obtain ⟨hp16, hok, hoks⟩ := splitF_ok hfl sf
  have hmost := flow_most hfl
  have hpn : ps.length ≤ n := by have := sf.most; rw [HL.out] at this; exact this
  have HM := Lib.hid hm
  have HCF := Lib.hid hcf
  have LV := Lib.hid sf.loads
  have LE := Lib.hid sf.err
  have WI := Lib.hid sf.within
  have Z0 := Lib.hid z0
  have ZP := Lib.hid zp
  have M2B := M2
  obtain ⟨Ab, cb, rfl, rP⟩ := M2.out.pths hp16 hok hoks
  have RP := Lib.hid rP
  obtain ⟨pl, hpl⟩ : ∃ pl, ps.length = pl := ⟨_, rfl⟩
  have HPL := Lib.hid hpl
  rw [hpl] at hp16 hpn RP M2
  rw [hpl]
  clear hm hcf z0 zp sf hok hoks rP HB hfl M2B hpl
  go_wp2_with fail
  refine (RGain_any (vn : Nat) A n c ls X m d f s _ (HR.out.grown (Nat.le_refl _) G.out) (HX.out.grown (Nat.le_refl _) G.out) HM.out HCF.out).mono ?_
  rintro e w4 ⟨rfl, k⟩
  have s4 := k.size
  have G := Lib.hid (grown_trans G.out k)
  have OB := Lib.hid (OB.out.kept k)
  have RX := Lib.hid (RX.out.grown (by omega) k)
  have M2 := Lib.hid (M2.out.kept k)
  have RP := Lib.hid ((RP.out.grown (Nat.le_refl _) k).wide s4)
  clear k p0 p1
  generalize gainOf ls f s = gv at *
  go_wp2_with fail
  refine (num_says _ _).mono ?_
  rintro e w5 ⟨rfl, k⟩
  have s5 := k.size
  have G := Lib.hid (grown_trans G.out k)
  have OB := Lib.hid (OB.out.kept k)
  have RX := Lib.hid (RX.out.grown (by omega) k)
  have M2 := Lib.hid (M2.out.kept k)
  have RP := Lib.hid ((RP.out.grown (Nat.le_refl _) k).wide s5)
  clear k
  obtain ⟨p0, p1⟩ := OB.out.two
  have CL : Hid (∀ (wx : World), w5.grownBy wx none → Calls Try.prog 15 #[.agg #[.int .i64 (vn : Nat), .slice A n c], .slice Ab pl cb] wx (SelPost wx (loadsQ ls.length (pairsOf ps)) 0)) := fun wx g => by
    have q := RLoads_any (vn : Nat) A n c ls Ab pl cb ps wx (HR.out.grown (Nat.le_refl _) (grown_trans G.out g)) (grown_trans G.out g).size (RP.out.grown (Nat.le_refl _) g) g.size
    rw [LV.out, LE.out] at q
    exact q
  have CB : Hid (0 < gv → ∀ (wx : World), w5.grownBy wx none → Calls Try.prog 14 #[.agg #[.int .i64 (vn : Nat), .slice A n c], .int .i64 s, .int .i64 t, .int .i64 gv, .slice Ab pl cb] wx (Says wx (.bool true))) := fun hg wx g => by
    have q := RBMay_any (vn : Nat) s t gv A n c ls Ab pl cb ps wx (HR.out.grown (Nat.le_refl _) (grown_trans G.out g)) (grown_trans G.out g).size (RP.out.grown (Nat.le_refl _) g) g.size
    rw [ZP.out hg] at q
    exact q
  have OKL : Hid (okI (loadsQ ls.length (pairsOf ps))) := fun i => by
    have := loads_bd (V := (vn : Nat)) (L := ls) (ps := ps) i
    rw [LV.out] at this
    omega
  have G5 := Lib.hid (World.grownBy.refl w5 none)
  have z1 : decide (n < pl) = false := decide_eq_false (by omega)
  by_cases hg0 : gv = 0
  · have hps := Z0.out hg0
    have hpl0 : pl = 0 := by rw [← HPL.out, hps]; rfl
    subst hg0
    subst hpl0
    clear CB hps
    go_wp2_with fail
    refine (CL.out _ G5.out).mono ?_
    rintro e w6 ⟨v6, rfl, h6, k⟩
    obtain ⟨Al, cl6, rfl, _, _, rl⟩ := h6.rowN OKL.out
    have RL := Lib.hid rl
    have s6 := k.size
    have G := Lib.hid (grown_trans G.out k)
    have RX := Lib.hid (RX.out.grown (by omega) k)
    have M2 := Lib.hid (M2.out.kept k)
    clear k h6 rl p0 p1 OB
    generalize (loadsQ ls.length (pairsOf ps)).length = ll at *
    go_wp2_with fail
    refine (RWithin_any X m d f Al ll cl6 _ _ (HX.out.grown (Nat.le_refl _) G.out) RL.out).mono ?_
    rintro e w7 ⟨he, k⟩
    rw [WI.out] at he
    subst he
    have s7 := k.size
    have G := Lib.hid (grown_trans G.out k)
    have RX := Lib.hid (RX.out.grown (by omega) k)
    have M2 := Lib.hid (M2.out.kept k)
    clear k RL
    go_wp2_with fail
    refine (SpoilPaths_any (.slice Ab 0 cb) 0 ps _ M2.out (by omega) (by omega)).mono ?_
    rintro e w8 ⟨rfl, be⟩
    have s8 := be.size
    have G := Lib.hid (grown_below G.out hlg be)
    have RX := Lib.hid (RX.out.belowB (Nat.le_refl _) be)
    clear be M2
    go_wp2_with fail
    refine (awake15_any _).mono ?_
    rintro e w9 ⟨rfl, k⟩
    have G := Lib.hid (grown_trans G.out k)
    have RX := Lib.hid (RX.out.grown (by omega) k)
    clear k
    go_wp2_with fail
    refine (KeptInts_any gl m cl f X d _ RX.out HLX.out HCL.out (HX.out.grown (Nat.le_refl _) G.out)).mono ?_
    rintro e wa ⟨rfl, j, rfl⟩
    go_wp2
    go_ret
    exact ⟨rfl, below_of (grown_drewN G.out _)⟩
  · have hgp : 0 < gv := by omega
    have q1 : (gv == 0) = false := by simp [hg0]
    go_wp2_with fail
    refine (CB.out hgp _ G5.out).mono ?_
    rintro e w5b ⟨rfl, k⟩
    have s5b := k.size
    have G := Lib.hid (grown_trans G.out k)
    have G5 := Lib.hid (grown_trans G5.out k)
    have OB := Lib.hid (OB.out.kept k)
    have RX := Lib.hid (RX.out.grown (by omega) k)
    have M2 := Lib.hid (M2.out.kept k)
    clear k p0 p1 CB
    obtain ⟨p0, p1⟩ := OB.out.two
    go_wp2_with fail
    refine (CL.out _ G5.out).mono ?_
    rintro e w6 ⟨v6, rfl, h6, k⟩
    obtain ⟨Al, cl6, rfl, _, _, rl⟩ := h6.rowN OKL.out
    have RL := Lib.hid rl
    have s6 := k.size
    have G := Lib.hid (grown_trans G.out k)
    have RX := Lib.hid (RX.out.grown (by omega) k)
    have M2 := Lib.hid (M2.out.kept k)
    clear k h6 rl p0 p1 OB
    generalize (loadsQ ls.length (pairsOf ps)).length = ll at *
    go_wp2_with fail
    refine (RWithin_any X m d f Al ll cl6 _ _ (HX.out.grown (Nat.le_refl _) G.out) RL.out).mono ?_
    rintro e w7 ⟨he, k⟩
    rw [WI.out] at he
    subst he
    have s7 := k.size
    have G := Lib.hid (grown_trans G.out k)
    have RX := Lib.hid (RX.out.grown (by omega) k)
    have M2 := Lib.hid (M2.out.kept k)
    clear k RL
    go_wp2_with fail
    refine (SpoilPaths_any (.slice Ab pl cb) pl ps _ M2.out (by omega) hp16).mono ?_
    rintro e w8 ⟨rfl, be⟩
    have s8 := be.size
    have G := Lib.hid (grown_below G.out hlg be)
    have RX := Lib.hid (RX.out.belowB (Nat.le_refl _) be)
    clear be M2
    go_wp2_with fail
    refine (awake15_any _).mono ?_
    rintro e w9 ⟨rfl, k⟩
    have G := Lib.hid (grown_trans G.out k)
    have RX := Lib.hid (RX.out.grown (by omega) k)
    clear k
    go_wp2_with fail
    refine (KeptInts_any gl m cl f X d _ RX.out HLX.out HCL.out (HX.out.grown (Nat.le_refl _) G.out)).mono ?_
    rintro e wa ⟨rfl, j, rfl⟩
    go_wp2
    go_ret
    exact ⟨rfl, below_of (grown_drewN G.out _)⟩

end Go.Proofs.Ytodjehljnmfbpaa
