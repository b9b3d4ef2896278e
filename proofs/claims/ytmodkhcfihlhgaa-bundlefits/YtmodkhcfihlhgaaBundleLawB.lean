/-
  The law BundleFits, walked.
-/
import Derived.Test.YtmodkhcfihlhgaaBundleG
namespace Go.Proofs.Ytmodkhcfihlhgaa
open Go.RowKit

set_option maxHeartbeats 2000000 in
theorem BundleFits_walk (V : Int) (A : Option Addr) (n c : Nat) (L : List Lk) (X : Option Addr) (q d : Nat) (caps : List Int) (P : Option Addr) (m f : Nat) (ps : List Pth) (w : World) (h : InG w A n c L) (hI : In w X q d caps) (hP : InP w P m f ps) :
    Calls Try.prog 4 #[.agg #[.int .i64 V, .slice A n c], .slice X q d, .slice P m f] w (LawPost w) := by
  obtain ⟨hs, hnc, hc, hnil⟩ := h
  obtain ⟨hx, hqd, hd, hnilx⟩ := hI
  obtain ⟨hp, hmf, hf, hnilp, hbd⟩ := hP
  have HR := Lib.hid hs
  have HX := Lib.hid hx
  have HLX := Lib.hid hx.len
  have HP := Lib.hid hp
  have HBD := Lib.hid hbd
  have HNIX := Lib.hid hnilx
  have HX1 := Lib.hid (hx.grown (Nat.le_refl _) (grow0 w (.cells #[.int .i64 V, .slice A n c] 24)))
  clear hs hnil hx hnilx hp hbd hnilp
  go_enter Try.func4, Try.ntmps4
  go_wp2_with fail
  refine (LendInts_any X q d caps _ HX1.out (by simp) HNIX.out (by omega)).mono ?_
  rintro e w2 ⟨gl, cl, rfl, hcl, hrow, bel⟩
  obtain ⟨g1, ob⟩ := box1 [.int .i64 V, .slice A n c] (grown_of_below bel)
  have RY := Lib.hid hrow
  have G := Lib.hid g1
  have OB := Lib.hid ob
  clear bel g1 ob hrow HX1
  have HBD2 : Hid (Bds w2 P m) := fun i hi b off Y r e hA hce => by
    obtain ⟨b', off', X', m', d', hA', hb', _, c1', _⟩ := HP.out.at_ i hi
    have hcw := kept G.out c1'
    rw [hA] at hA'
    injection hA' with hA'
    injection hA' with e1 e2
    subst e1 e2
    rw [hce] at hcw
    injection hcw with hcw
    injection hcw with e1 e2 e3
    subst e1 e2 e3
    exact HBD.out i hi b off Y r e hA c1'
  go_wp2_with fail
  refine (CopyPaths_any P m f ps _ (HP.out.grown (Nat.le_refl _) G.out) G.out.size (by omega) HBD2.out).mono ?_
  rintro e w3 ⟨Ay, cy, rfl, hy, k⟩
  have s3 := k.size
  have PY := Lib.hid hy
  have G := Lib.hid (grown_trans G.out k)
  have OB := Lib.hid (OB.out.kept k)
  have RY := Lib.hid (RY.out.grown (Nat.le_refl _) k)
  clear hy k HBD2
  obtain ⟨p0, p1⟩ := OB.out.two
  go_wp2_with fail
  refine (Fits_any V A n c L (some ⟨gl, 0, none⟩) q cl caps Ay m cy ps _ (HR.out.grown (Nat.le_refl _) G.out) G.out.size (RY.out.unmark HLX.out) s3 PY.out (Nat.le_refl _) (by omega)).mono ?_
  rintro e w4 ⟨he, k⟩
  unfold fitV at he
  subst he
  have s4 := k.size
  have PY := Lib.hid (PY.out.grown (Nat.le_refl _) k)
  have G := Lib.hid (grown_trans G.out k)
  have OB := Lib.hid (OB.out.kept k)
  have RY := Lib.hid (RY.out.grown s3 k)
  clear k p0 p1
  obtain ⟨p0, p1⟩ := OB.out.two
  go_wp2_with fail
  refine (RFits_any V A n c L X q d caps P m f ps _ (HR.out.grown (Nat.le_refl _) G.out) G.out.size (HX.out.grown (Nat.le_refl _) G.out) G.out.size (HP.out.grown (Nat.le_refl _) G.out) G.out.size).mono ?_
  rintro e w5 ⟨he, k⟩
  unfold fitV at he
  subst he
  have s5 := k.size
  have PY := Lib.hid (PY.out.grown s4 k)
  have G := Lib.hid (grown_trans G.out k)
  have RY := Lib.hid (RY.out.grown (by omega) k)
  clear k p0 p1 OB
  generalize fitsV V L caps ps = fv at *
  generalize fitsE V L caps ps = fe at *
  go_wp2_with fail
  refine (awake7_any _).mono ?_
  rintro e w6 ⟨rfl, k⟩
  have s6 := k.size
  have PY := Lib.hid (PY.out.grown (by omega) k)
  have G := Lib.hid (grown_trans G.out k)
  have RY := Lib.hid (RY.out.grown (by omega) k)
  clear k
  have hvv : (fv == fv) = true := by simp
  have hee : (fe == fe) = true := by simp
  go_wp2_with fail
  refine (num_says _ _).mono ?_
  rintro e w7 ⟨rfl, k⟩
  have s7 := k.size
  have PY := Lib.hid (PY.out.grown (by omega) k)
  have G := Lib.hid (grown_trans G.out k)
  have RY := Lib.hid (RY.out.grown (by omega) k)
  clear k
  go_wp2_with fail
  refine (KeptInts_any gl q cl caps X d _ RY.out HLX.out hcl (HX.out.grown (Nat.le_refl _) G.out)).mono ?_
  rintro e w8 ⟨rfl, j, rfl⟩
  have G : Hid (w.grownBy (w7.drewN j) none) := grown_drewN G.out _
  have PY := Lib.hid (PY.out.grown (by omega) (grown_drewN (World.grownBy.refl w7 none) j))
  go_wp2_with fail
  refine (SamePaths0_same Ay P m cy f ps _ PY.out (HP.out.grown (Nat.le_refl _) G.out)).mono ?_
  rintro e w9 ⟨rfl, k⟩
  have G := Lib.hid (grown_trans G.out k)
  clear k
  go_wp2
  go_ret
  exact ⟨rfl, below_of G.out⟩

end Go.Proofs.Ytmodkhcfihlhgaa
