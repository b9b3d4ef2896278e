/-
  The law Reaches, walked.
-/
import Derived.Test.YtppcncblmakekaaReachG
set_option maxRecDepth 20000
namespace Go.Proofs.Ytppcncblmakekaa
open Go.RowKit

set_option maxHeartbeats 4000000 in
theorem Reaches_walk (V : Int) (A : Option Addr) (n c : Nat) (ls : List Lk) (X : Option Addr) (m d : Nat) (caps : List Int) (Y : Option Addr) (r e0 : Nat) (f : List Int) (s t : Int) (w : World) (h : InG w A n c ls) (hX : In w X m d caps) (hY : In w Y r e0 f) :
    Calls Try.prog 3 #[.agg #[.int .i64 V, .slice A n c], .slice X m d, .slice Y r e0, .int .i64 s, .int .i64 t] w (LawPost w) := by
  obtain ⟨hs, hnc, hc, hnil⟩ := h
  obtain ⟨hx, hpd, hd, hnilx⟩ := hX
  obtain ⟨hy, hqf, hf, hnily⟩ := hY
  have HR := Lib.hid hs
  have HL := Lib.hid hs.len
  have HX := Lib.hid hx
  have HLX := Lib.hid hx.len
  have HNIX := Lib.hid hnilx
  have HY := Lib.hid hy
  have HLY := Lib.hid hy.len
  have HNIY := Lib.hid hnily
  have HX1 := Lib.hid (hx.grown (Nat.le_refl _) (grow0 w (.cells #[.int .i64 V, .slice A n c] 24)))
  obtain ⟨M, z, hM⟩ := lvIs_there V ls caps f s
  have HM := Lib.hid hM
  obtain ⟨_, hm8⟩ := lvIs_okI hM
  have OKR := Lib.hid (reach_ok hm8).1
  have HMC : Hid ((z = 0 ∧ (M.length : Int) = V ∧ 2 ≤ V) ∨ (z = 1000 ∧ M = [])) := by
    rcases hM with ⟨h1, h2, h3⟩ | ⟨_, h2, h3⟩
    · have h8 := may_small (fits_parts (lvB_parts h1).1).1
      exact .inl ⟨h2, by have := h3.len; omega, by omega⟩
    · exact .inr ⟨h2, h3⟩
  clear hs hnil hx hnilx hy hnily hM hm8
  go_enter Try.func3, Try.ntmps3
  go_wp2_with fail
  refine (LendInts_any X m d caps _ HX1.out (by simp) HNIX.out (by omega)).mono ?_
  rintro e w1 ⟨gl, cl, rfl, hcl, hrow, bel⟩
  obtain ⟨g1, ob⟩ := box1 [.int .i64 V, .slice A n c] (grown_of_below bel)
  have RX := Lib.hid hrow
  have G := Lib.hid g1
  have OB := Lib.hid ob
  have HCL := Lib.hid hcl
  clear bel g1 ob hrow HX1 hcl
  go_wp2_with fail
  refine (LendInts_any Y r e0 f _ (HY.out.grown (Nat.le_refl _) G.out) G.out.size HNIY.out (by omega)).mono ?_
  rintro e w2 ⟨gm, cm, rfl, hcm, hrow, bel⟩
  have k := grown_of_below bel
  have RY := Lib.hid hrow
  have HCM := Lib.hid hcm
  have G := Lib.hid (grown_trans G.out k)
  have OB := Lib.hid (OB.out.kept k)
  have RX := Lib.hid ((RX.out.grown (Nat.le_refl _) k).wide k.size)
  clear hrow bel k hcm
  obtain ⟨p0, p1⟩ := OB.out.two
  go_wp2_with fail
  refine (Reach_any V s A n c ls (some ⟨gl, 0, none⟩) m cl caps (some ⟨gm, 0, none⟩) r cm f _ (HR.out.grown (Nat.le_refl _) G.out) G.out.size (RX.out.unmark HLX.out) (Nat.le_refl _) (RY.out.unmark HLY.out) (Nat.le_refl _) M z HM.out).mono ?_
  rintro e w3 ⟨va, rfl, ha, k⟩
  have s3 := k.size
  have hba := ha.own_ge
  have hlg := G.out.size
  have MA := Lib.hid ha
  have G := Lib.hid (grown_trans G.out k)
  have OB := Lib.hid (OB.out.kept k)
  have RX := Lib.hid (RX.out.grown (Nat.le_refl _) k)
  have RY := Lib.hid (RY.out.grown (Nat.le_refl _) k)
  clear k p0 p1 ha
  obtain ⟨p0, p1⟩ := OB.out.two
  go_wp2_with fail
  refine (RReach_any V s A n c ls X m d caps Y r e0 f _ (HR.out.grown (Nat.le_refl _) G.out) G.out.size (HX.out.grown (Nat.le_refl _) G.out) G.out.size (HY.out.grown (Nat.le_refl _) G.out) G.out.size M z HM.out).mono ?_
  rintro e w4 ⟨vb, rfl, hb, k⟩
  have s4 := k.size
  have MA := Lib.hid (MA.out.kept k)
  have MB := Lib.hid hb
  have G := Lib.hid (grown_trans G.out k)
  have OB := Lib.hid (OB.out.kept k)
  have RX := Lib.hid (RX.out.grown s3 k)
  have RY := Lib.hid (RY.out.grown s3 k)
  clear k p0 p1 hb
  obtain ⟨p0, p1⟩ := OB.out.two
  go_wp2_with fail
  refine (Shut_any V s t A n c ls (some ⟨gl, 0, none⟩) m cl caps (some ⟨gm, 0, none⟩) r cm f _ (HR.out.grown (Nat.le_refl _) G.out) G.out.size (RX.out.unmark HLX.out) (by omega) (RY.out.unmark HLY.out) (by omega) M z HM.out).mono ?_
  rintro e w5 ⟨he, k⟩
  have s5 := k.size
  have MA := Lib.hid (MA.out.kept k)
  have MB := Lib.hid (MB.out.kept k)
  have G := Lib.hid (grown_trans G.out k)
  have OB := Lib.hid (OB.out.kept k)
  have RX := Lib.hid (RX.out.grown (by omega) k)
  have RY := Lib.hid (RY.out.grown (by omega) k)
  clear k p0 p1
  obtain ⟨p0, p1⟩ := OB.out.two
  obtain ⟨Aa, ca, rfl, _, _, ra⟩ := MA.out.rowN OKR.out
  obtain ⟨Ab, cb, rfl, _, _, rb⟩ := MB.out.rowN OKR.out
  have RA := Lib.hid ra
  have RB := Lib.hid rb
  clear ra rb MB
  have CS : Hid (∀ (wx : World), w5.grownBy wx none → Calls Try.prog 10 #[.slice Aa (reachL M).length ca, .slice Ab (reachL M).length cb] wx (Says wx (.bool true))) := fun wx g => by
    have k := same_says (SameInts0_any Aa (reachL M).length ca (reachL M) Ab (reachL M).length cb (reachL M) wx (RA.out.grown (Nat.le_refl _) g) (RB.out.grown (Nat.le_refl _) g))
    rw [sameB_refl] at k
    exact k
  have CA : Hid (∀ (wx : World), w5.grownBy wx none → Calls Try.prog 12 #[.slice Ab (reachL M).length cb, .int .i64 t] wx (Says wx (.bool (decide (t ∈ reachL M))))) := fun wx g => Among_any t Ab (reachL M).length cb (reachL M) wx (RB.out.grown (Nat.le_refl _) g)
  rcases HMC.out with ⟨rfl, hV, h2⟩ | ⟨rfl, rfl⟩
  case inr =>
    have e1 : shutB V [] 1000 t = false := by simp [shutB]
    have e2 : shutE V 1000 t = 1300 := by simp [shutE]
    have e3 : reachE 1000 = 1300 := by simp [reachE]
    rw [e1, e2] at he
    subst he
    rw [e3]
    clear e1 e2 e3
    have G5 := Lib.hid (World.grownBy.refl w5 none)
    go_wp2_with fail
    refine (CS.out _ G5.out).mono ?_
    rintro e w6 ⟨rfl, k⟩
    have G5 := Lib.hid (grown_trans G5.out k)
    clear k
    go_wp2_with fail
    refine (num_says _ _).mono ?_
    rintro e w6 ⟨rfl, k⟩
    have G5 := Lib.hid (grown_trans G5.out k)
    clear k
    go_wp2_with fail
    refine (num_says _ _).mono ?_
    rintro e w6 ⟨rfl, k⟩
    have G5 := Lib.hid (grown_trans G5.out k)
    clear k
    go_wp2_with fail
    refine (num_says _ _).mono ?_
    rintro e w6 ⟨rfl, k⟩
    have G5 := Lib.hid (grown_trans G5.out k)
    clear k
    go_wp2_with fail
    refine (SpoilInts_any (.slice Aa (reachL []).length ca) (reachL []).length (reachL []) _ (MA.out.kept G5.out)).mono ?_
    rintro e w7 ⟨rfl, k⟩
    have k7 := grown_more G5.out k
    have s7 := k7.size
    have G := Lib.hid (grown_none G.out k7 (fun g hg => by have := hba g hg; omega))
    have RX := Lib.hid (RX.out.grown' (by omega) k7 hba)
    have RY := Lib.hid (RY.out.grown' (by omega) k7 hba)
    clear k k7 p0 p1 G5 CS CA RA RB MA OB
    go_wp2_with fail
    refine (awake13_any _).mono ?_
    rintro e w8 ⟨rfl, k⟩
    have G := Lib.hid (grown_trans G.out k)
    have RX := Lib.hid (RX.out.grown (by omega) k)
    have RY := Lib.hid (RY.out.grown (by omega) k)
    clear k
    go_wp2_with fail
    refine (KeptInts_any gl m cl caps X d _ RX.out HLX.out HCL.out (HX.out.grown (Nat.le_refl _) G.out)).mono ?_
    rintro e w9 ⟨rfl, j, rfl⟩
    have GX := G
    have G : Hid (w.grownBy (w8.drewN j) none) := grown_drewN G.out _
    have RY := Lib.hid (RY.out.drewN j)
    go_wp2_with fail
    refine (KeptInts_any gm r cm f Y e0 _ RY.out HLY.out HCM.out (HY.out.grown (Nat.le_refl _) G.out)).mono ?_
    rintro e wa ⟨rfl, j2, rfl⟩
    go_wp2
    go_ret
    exact ⟨rfl, below_of (grown_drewN GX.out _)⟩
  have e3 : reachE 0 = 0 := by simp [reachE]
  rw [e3]
  clear e3
  by_cases t0 : t < 0
  · have e1 : shutB V M 0 t = false := by rw [shutB, isV_no0 (by omega)]; simp
    have e2 : shutE V 0 t = 1300 := by rw [shutE, isV_no0 (by omega)]; simp
    rw [e1, e2] at he
    subst he
    clear e1 e2
    have G5 := Lib.hid (World.grownBy.refl w5 none)
    go_wp2_with fail
    refine (CS.out _ G5.out).mono ?_
    rintro e w6 ⟨rfl, k⟩
    have G5 := Lib.hid (grown_trans G5.out k)
    clear k
    go_wp2_with fail
    refine (num_says _ _).mono ?_
    rintro e w6 ⟨rfl, k⟩
    have G5 := Lib.hid (grown_trans G5.out k)
    clear k
    go_wp2_with fail
    refine (num_says _ _).mono ?_
    rintro e w6 ⟨rfl, k⟩
    have G5 := Lib.hid (grown_trans G5.out k)
    clear k
    go_wp2_with fail
    refine (num_says _ _).mono ?_
    rintro e w6 ⟨rfl, k⟩
    have G5 := Lib.hid (grown_trans G5.out k)
    clear k
    go_wp2_with fail
    refine (SpoilInts_any (.slice Aa (reachL M).length ca) (reachL M).length (reachL M) _ (MA.out.kept G5.out)).mono ?_
    rintro e w7 ⟨rfl, k⟩
    have k7 := grown_more G5.out k
    have s7 := k7.size
    have G := Lib.hid (grown_none G.out k7 (fun g hg => by have := hba g hg; omega))
    have RX := Lib.hid (RX.out.grown' (by omega) k7 hba)
    have RY := Lib.hid (RY.out.grown' (by omega) k7 hba)
    clear k k7 p0 p1 G5 CS CA RA RB MA OB
    go_wp2_with fail
    refine (awake13_any _).mono ?_
    rintro e w8 ⟨rfl, k⟩
    have G := Lib.hid (grown_trans G.out k)
    have RX := Lib.hid (RX.out.grown (by omega) k)
    have RY := Lib.hid (RY.out.grown (by omega) k)
    clear k
    go_wp2_with fail
    refine (KeptInts_any gl m cl caps X d _ RX.out HLX.out HCL.out (HX.out.grown (Nat.le_refl _) G.out)).mono ?_
    rintro e w9 ⟨rfl, j, rfl⟩
    have GX := G
    have G : Hid (w.grownBy (w8.drewN j) none) := grown_drewN G.out _
    have RY := Lib.hid (RY.out.drewN j)
    go_wp2_with fail
    refine (KeptInts_any gm r cm f Y e0 _ RY.out HLY.out HCM.out (HY.out.grown (Nat.le_refl _) G.out)).mono ?_
    rintro e wa ⟨rfl, j2, rfl⟩
    go_wp2
    go_ret
    exact ⟨rfl, below_of (grown_drewN GX.out _)⟩
  by_cases t1 : V ≤ t
  · have e1 : shutB V M 0 t = false := by rw [shutB, isV_no1 (by omega)]; simp
    have e2 : shutE V 0 t = 1300 := by rw [shutE, isV_no1 (by omega)]; simp
    rw [e1, e2] at he
    subst he
    clear e1 e2
    have G5 := Lib.hid (World.grownBy.refl w5 none)
    go_wp2_with fail
    refine (CS.out _ G5.out).mono ?_
    rintro e w6 ⟨rfl, k⟩
    have G5 := Lib.hid (grown_trans G5.out k)
    clear k
    go_wp2_with fail
    refine (num_says _ _).mono ?_
    rintro e w6 ⟨rfl, k⟩
    have G5 := Lib.hid (grown_trans G5.out k)
    clear k
    go_wp2_with fail
    refine (num_says _ _).mono ?_
    rintro e w6 ⟨rfl, k⟩
    have G5 := Lib.hid (grown_trans G5.out k)
    clear k
    go_wp2_with fail
    refine (num_says _ _).mono ?_
    rintro e w6 ⟨rfl, k⟩
    have G5 := Lib.hid (grown_trans G5.out k)
    clear k
    go_wp2_with fail
    refine (SpoilInts_any (.slice Aa (reachL M).length ca) (reachL M).length (reachL M) _ (MA.out.kept G5.out)).mono ?_
    rintro e w7 ⟨rfl, k⟩
    have k7 := grown_more G5.out k
    have s7 := k7.size
    have G := Lib.hid (grown_none G.out k7 (fun g hg => by have := hba g hg; omega))
    have RX := Lib.hid (RX.out.grown' (by omega) k7 hba)
    have RY := Lib.hid (RY.out.grown' (by omega) k7 hba)
    clear k k7 p0 p1 G5 CS CA RA RB MA OB
    go_wp2_with fail
    refine (awake13_any _).mono ?_
    rintro e w8 ⟨rfl, k⟩
    have G := Lib.hid (grown_trans G.out k)
    have RX := Lib.hid (RX.out.grown (by omega) k)
    have RY := Lib.hid (RY.out.grown (by omega) k)
    clear k
    go_wp2_with fail
    refine (KeptInts_any gl m cl caps X d _ RX.out HLX.out HCL.out (HX.out.grown (Nat.le_refl _) G.out)).mono ?_
    rintro e w9 ⟨rfl, j, rfl⟩
    have GX := G
    have G : Hid (w.grownBy (w8.drewN j) none) := grown_drewN G.out _
    have RY := Lib.hid (RY.out.drewN j)
    go_wp2_with fail
    refine (KeptInts_any gm r cm f Y e0 _ RY.out HLY.out HCM.out (HY.out.grown (Nat.le_refl _) G.out)).mono ?_
    rintro e wa ⟨rfl, j2, rfl⟩
    go_wp2
    go_ret
    exact ⟨rfl, below_of (grown_drewN GX.out _)⟩
  have e1 : shutB V M 0 t = decide (lvAt M t < 0) := by rw [shutB, isV_yes (by omega) (by omega)]; simp
  have e2 : shutE V 0 t = 0 := by rw [shutE, isV_yes (by omega) (by omega)]; simp
  have HIN : Hid (decide (t ∈ reachL M) = decide (0 ≤ lvAt M t)) := by
    rw [Hid, decide_eq_decide]
    exact reach_mem (by omega) (by omega)
  rw [e1, e2] at he
  subst he
  clear e1 e2
  generalize lvAt M t = lt at *
  by_cases hlt : lt < 0
  · have q1 : decide (lt < 0) = true := decide_eq_true hlt
    have q2 : decide (0 ≤ lt) = false := decide_eq_false (by omega)
    rw [q2] at HIN
    rw [q1]
    clear q1 q2
    have G5 := Lib.hid (World.grownBy.refl w5 none)
    go_wp2_with fail
    refine (CS.out _ G5.out).mono ?_
    rintro e w6 ⟨rfl, k⟩
    have G5 := Lib.hid (grown_trans G5.out k)
    clear k
    go_wp2_with fail
    refine (num_says _ _).mono ?_
    rintro e w6 ⟨rfl, k⟩
    have G5 := Lib.hid (grown_trans G5.out k)
    clear k
    go_wp2_with fail
    refine (num_says _ _).mono ?_
    rintro e w6 ⟨rfl, k⟩
    have G5 := Lib.hid (grown_trans G5.out k)
    clear k
    go_wp2_with fail
    refine (CA.out _ G5.out).mono ?_
    rintro e w6 ⟨he, k⟩
    rw [HIN.out] at he
    subst he
    have G5 := Lib.hid (grown_trans G5.out k)
    clear k
    go_wp2_with fail
    refine (SpoilInts_any (.slice Aa (reachL M).length ca) (reachL M).length (reachL M) _ (MA.out.kept G5.out)).mono ?_
    rintro e w7 ⟨rfl, k⟩
    have k7 := grown_more G5.out k
    have s7 := k7.size
    have G := Lib.hid (grown_none G.out k7 (fun g hg => by have := hba g hg; omega))
    have RX := Lib.hid (RX.out.grown' (by omega) k7 hba)
    have RY := Lib.hid (RY.out.grown' (by omega) k7 hba)
    clear k k7 p0 p1 G5 CS CA RA RB MA OB
    go_wp2_with fail
    refine (awake13_any _).mono ?_
    rintro e w8 ⟨rfl, k⟩
    have G := Lib.hid (grown_trans G.out k)
    have RX := Lib.hid (RX.out.grown (by omega) k)
    have RY := Lib.hid (RY.out.grown (by omega) k)
    clear k
    go_wp2_with fail
    refine (KeptInts_any gl m cl caps X d _ RX.out HLX.out HCL.out (HX.out.grown (Nat.le_refl _) G.out)).mono ?_
    rintro e w9 ⟨rfl, j, rfl⟩
    have GX := G
    have G : Hid (w.grownBy (w8.drewN j) none) := grown_drewN G.out _
    have RY := Lib.hid (RY.out.drewN j)
    go_wp2_with fail
    refine (KeptInts_any gm r cm f Y e0 _ RY.out HLY.out HCM.out (HY.out.grown (Nat.le_refl _) G.out)).mono ?_
    rintro e wa ⟨rfl, j2, rfl⟩
    go_wp2
    go_ret
    exact ⟨rfl, below_of (grown_drewN GX.out _)⟩
  · have q1 : decide (lt < 0) = false := decide_eq_false hlt
    have q2 : decide (0 ≤ lt) = true := decide_eq_true (by omega)
    rw [q2] at HIN
    rw [q1]
    clear q1 q2
    have G5 := Lib.hid (World.grownBy.refl w5 none)
    go_wp2_with fail
    refine (CS.out _ G5.out).mono ?_
    rintro e w6 ⟨rfl, k⟩
    have G5 := Lib.hid (grown_trans G5.out k)
    clear k
    go_wp2_with fail
    refine (num_says _ _).mono ?_
    rintro e w6 ⟨rfl, k⟩
    have G5 := Lib.hid (grown_trans G5.out k)
    clear k
    go_wp2_with fail
    refine (num_says _ _).mono ?_
    rintro e w6 ⟨rfl, k⟩
    have G5 := Lib.hid (grown_trans G5.out k)
    clear k
    go_wp2_with fail
    refine (CA.out _ G5.out).mono ?_
    rintro e w6 ⟨he, k⟩
    rw [HIN.out] at he
    subst he
    have G5 := Lib.hid (grown_trans G5.out k)
    clear k
    go_wp2_with fail
    refine (SpoilInts_any (.slice Aa (reachL M).length ca) (reachL M).length (reachL M) _ (MA.out.kept G5.out)).mono ?_
    rintro e w7 ⟨rfl, k⟩
    have k7 := grown_more G5.out k
    have s7 := k7.size
    have G := Lib.hid (grown_none G.out k7 (fun g hg => by have := hba g hg; omega))
    have RX := Lib.hid (RX.out.grown' (by omega) k7 hba)
    have RY := Lib.hid (RY.out.grown' (by omega) k7 hba)
    clear k k7 p0 p1 G5 CS CA RA RB MA OB
    go_wp2_with fail
    refine (awake13_any _).mono ?_
    rintro e w8 ⟨rfl, k⟩
    have G := Lib.hid (grown_trans G.out k)
    have RX := Lib.hid (RX.out.grown (by omega) k)
    have RY := Lib.hid (RY.out.grown (by omega) k)
    clear k
    go_wp2_with fail
    refine (KeptInts_any gl m cl caps X d _ RX.out HLX.out HCL.out (HX.out.grown (Nat.le_refl _) G.out)).mono ?_
    rintro e w9 ⟨rfl, j, rfl⟩
    have GX := G
    have G : Hid (w.grownBy (w8.drewN j) none) := grown_drewN G.out _
    have RY := Lib.hid (RY.out.drewN j)
    go_wp2_with fail
    refine (KeptInts_any gm r cm f Y e0 _ RY.out HLY.out HCM.out (HY.out.grown (Nat.le_refl _) G.out)).mono ?_
    rintro e wa ⟨rfl, j2, rfl⟩
    go_wp2
    go_ret
    exact ⟨rfl, below_of (grown_drewN GX.out _)⟩

end Go.Proofs.Ytppcncblmakekaa
