/-
  The law Levels, walked.
-/
import Derived.Test.YtmamnjnmcipjbaaLevelG
namespace Go.Proofs.Ytmamnjnmcipjbaa
open Go.RowKit

set_option maxRecDepth 20000 in
set_option maxHeartbeats 8000000 in
theorem Levels_walk (V : Int) (A : Option Addr) (n c : Nat) (L : List Lk) (X : Option Addr) (p d : Nat) (caps : List Int) (Y : Option Addr) (q f0 : Nat) (f : List Int) (s : Int) (w : World) (h : InG w A n c L) (hX : In w X p d caps) (hY : In w Y q f0 f) :
    Calls Try.prog 3 #[.agg #[.int .i64 V, .slice A n c], .slice X p d, .slice Y q f0, .int .i64 s] w (LawPost w) := by
  obtain ⟨hs, hnc, hc, hnil⟩ := h
  obtain ⟨hx, hpd, hd, hnilx⟩ := hX
  obtain ⟨hy, hqf, hf, hnily⟩ := hY
  have HR := Lib.hid hs
  have HX := Lib.hid hx
  have HY := Lib.hid hy
  have HLX := Lib.hid hx.len
  have HLY := Lib.hid hy.len
  have HNIX := Lib.hid hnilx
  have HNIY := Lib.hid hnily
  have HX1 := Lib.hid (hx.grown (Nat.le_refl _) (grow0 w (.cells #[.int .i64 V, .slice A n c] 24)))
  clear hs hnil hx hnilx hy hnily
  go_enter Try.func3, Try.ntmps3
  go_wp2_with fail
  refine (LendInts_any X p d caps _ HX1.out (by simp) HNIX.out (by omega)).mono ?_
  rintro e w2 ⟨gl, cl, rfl, hcl, hrow, bel⟩
  obtain ⟨g1, ob⟩ := box1 [.int .i64 V, .slice A n c] (grown_of_below bel)
  have RX := Lib.hid hrow
  have G := Lib.hid g1
  have OB := Lib.hid ob
  have s2 := g1.size
  clear bel g1 ob hrow HX1
  go_wp2_with fail
  refine (LendInts_any Y q f0 f _ (HY.out.grown (Nat.le_refl _) G.out) G.out.size HNIY.out (by omega)).mono ?_
  rintro e w3 ⟨gm, cm, rfl, hcm, hrow, bel⟩
  have k := grown_of_below bel
  have s3 := k.size
  have RY := Lib.hid hrow
  have G := Lib.hid (grown_trans G.out k)
  have OB := Lib.hid (OB.out.kept k)
  have RX := Lib.hid ((RX.out.grown (Nat.le_refl _) k).wide s3)
  clear hrow bel k
  obtain ⟨p0, p1⟩ := OB.out.two
  go_wp2_with fail
  refine (Levels_any V s A n c L (some ⟨gl, 0, none⟩) p cl caps (some ⟨gm, 0, none⟩) q cm f _ (HR.out.grown (Nat.le_refl _) G.out) G.out.size (RX.out.unmark HLX.out) (Nat.le_refl _) (RY.out.unmark HLY.out) (Nat.le_refl _)).mono ?_
  rintro e w4 ⟨M, z, hM, va, rfl, ha, k⟩
  have HM := Lib.hid hM
  have OKM := Lib.hid (lvIs_okI hM).1
  have s4 := k.size
  have G := Lib.hid (grown_trans G.out k)
  have OB := Lib.hid (OB.out.kept k)
  have RY := Lib.hid (RY.out.grown (by omega) k)
  have RX := Lib.hid (RX.out.grown (by omega) k)
  have MA := Lib.hid ha
  clear k p0 p1 hM ha
  obtain ⟨p0, p1⟩ := OB.out.two
  go_wp2_with fail
  refine (RLevels_any V s A n c L X p d caps Y q f0 f _ (HR.out.grown (Nat.le_refl _) G.out) G.out.size (HX.out.grown (Nat.le_refl _) G.out) G.out.size (HY.out.grown (Nat.le_refl _) G.out) G.out.size M z HM.out).mono ?_
  rintro e w5 ⟨vb, rfl, hb, k⟩
  have s5 := k.size
  have G := Lib.hid (grown_trans G.out k)
  have RY := Lib.hid (RY.out.grown (by omega) k)
  have RX := Lib.hid (RX.out.grown (by omega) k)
  have ma := MA.out.kept k
  obtain ⟨Aa, ca, rfl, _, hna, ra⟩ := ma.rowN OKM.out
  obtain ⟨Ab, cb, rfl, _, hnb, rb⟩ := hb.rowN OKM.out
  have MA := Lib.hid ma
  have RA := Lib.hid ra
  have RB := Lib.hid rb
  clear k p0 p1 hb ma ra rb
  go_wp2_with fail
  refine (same_says (SameInts0_any Aa M.length ca M Ab M.length cb M _ RA.out RB.out)).mono ?_
  rintro e w6 ⟨he, k⟩
  rw [sameB_refl] at he
  subst he
  have s6 := k.size
  have G := Lib.hid (grown_trans G.out k)
  have RY := Lib.hid (RY.out.grown (by omega) k)
  have RX := Lib.hid (RX.out.grown (by omega) k)
  have MA := Lib.hid (MA.out.kept k)
  clear k RA RB
  have zz : (z != z) = false := by simp
  go_wp2_with fail
  refine (num_says _ _).mono ?_
  rintro e w7 ⟨rfl, k⟩
  have s7 := k.size
  have G := Lib.hid (grown_trans G.out k)
  have RY := Lib.hid (RY.out.grown (by omega) k)
  have RX := Lib.hid (RX.out.grown (by omega) k)
  have MA := Lib.hid (MA.out.kept k)
  clear k
  have hba := MA.out.own_ge
  go_wp2_with fail
  refine (SpoilInts_any (.slice Aa M.length ca) M.length M _ MA.out).mono ?_
  rintro e w9 ⟨rfl, k9⟩
  have s9 := k9.size
  have G := Lib.hid (grown_none G.out k9 (fun g hg => by have := hba g hg; omega))
  have RX := Lib.hid (RX.out.grown' (by omega) k9 (fun g hg => by have := hba g hg; omega))
  have RY := Lib.hid (RY.out.grown' (by omega) k9 (fun g hg => by have := hba g hg; omega))
  clear k9 MA hba
  go_wp2_with fail
  refine (awake10_any _).mono ?_
  rintro e w10 ⟨rfl, k⟩
  have s10 := k.size
  have G := Lib.hid (grown_trans G.out k)
  have RX := Lib.hid (RX.out.grown (by omega) k)
  have RY := Lib.hid (RY.out.grown (by omega) k)
  clear k
  go_wp2_with fail
  refine (same_says (KeptInts_any gl p cl caps X d _ RX.out HLX.out hcl (HX.out.grown (Nat.le_refl _) G.out))).mono ?_
  rintro e w11 ⟨rfl, k⟩
  have s11 := k.size
  have G := Lib.hid (grown_trans G.out k)
  have RY := Lib.hid (RY.out.grown (by omega) k)
  clear k
  go_wp2_with fail
  refine (same_says (KeptInts_any gm q cm f Y f0 _ RY.out HLY.out hcm (HY.out.grown (Nat.le_refl _) G.out))).mono ?_
  rintro e w12 ⟨rfl, k⟩
  have G := Lib.hid (grown_trans G.out k)
  clear k
  go_wp2
  go_ret
  exact ⟨rfl, below_of G.out⟩

end Go.Proofs.Ytmamnjnmcipjbaa
