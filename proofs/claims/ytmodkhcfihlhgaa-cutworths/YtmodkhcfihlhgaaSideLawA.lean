/-
  The law CutWorths, walked.
-/
import Derived.Test.YtmodkhcfihlhgaaSideG
import Derived.Test.YtmodkhcfihlhgaaPathLawA
namespace Go.Proofs.Ytmodkhcfihlhgaa
open Go.RowKit

set_option maxHeartbeats 2000000 in
theorem CutWorths_walk (V : Int) (A : Option Addr) (n c : Nat) (L : List Lk) (Y : Option Addr) (p f : Nat) (caps : List Int) (s t R : Int) (X : Option Addr) (m d : Nat) (vs : List Int) (w : World) (h : InG w A n c L) (hY : In w Y p f caps) (hX : In w X m d vs) :
    Calls Try.prog 8 #[.agg #[.int .i64 V, .slice A n c], .slice Y p f, .int .i64 s, .int .i64 t, .int .i64 R, .slice X m d] w (LawPost w) := by
  obtain ⟨hs, hnc, hc, hnil⟩ := h
  obtain ⟨hy, hpf, hf, hnily⟩ := hY
  obtain ⟨hx, hmd, hd, hnilx⟩ := hX
  have HR := Lib.hid hs
  have HX := Lib.hid hx
  have HY := Lib.hid hy
  have HLX := Lib.hid hx.len
  have HLY := Lib.hid hy.len
  have HNIX := Lib.hid hnilx
  have HNIY := Lib.hid hnily
  have HY1 := Lib.hid (hy.grown (Nat.le_refl _) (grow0 w (.cells #[.int .i64 V, .slice A n c] 24)))
  clear hs hnil hx hnilx hy hnily
  go_enter Try.func8, Try.ntmps8
  go_wp2_with fail
  refine (LendInts_any Y p f caps _ HY1.out (by simp) HNIY.out (by omega)).mono ?_
  rintro e w2 ⟨gl, cl, rfl, hcl, hrow, bel⟩
  obtain ⟨g1, ob⟩ := box1 [.int .i64 V, .slice A n c] (grown_of_below bel)
  have RY := Lib.hid hrow
  have G := Lib.hid g1
  have OB := Lib.hid ob
  have s2 := g1.size
  clear bel g1 ob hrow HY1
  go_wp2_with fail
  refine (LendInts_any X m d vs _ (HX.out.grown (Nat.le_refl _) G.out) G.out.size HNIX.out (by omega)).mono ?_
  rintro e w3 ⟨gm, cm, rfl, hcm, hrow, bel⟩
  have k := grown_of_below bel
  have s3 := k.size
  have RX := Lib.hid hrow
  have G := Lib.hid (grown_trans G.out k)
  have OB := Lib.hid (OB.out.kept k)
  have RY := Lib.hid ((RY.out.grown (Nat.le_refl _) k).wide s3)
  clear hrow bel k
  obtain ⟨p0, p1⟩ := OB.out.two
  go_wp2_with fail
  refine (Worth_any V A n c L (some ⟨gl, 0, none⟩) p cl caps (some ⟨gm, 0, none⟩) m cm vs _ (HR.out.grown (Nat.le_refl _) G.out) G.out.size (RY.out.unmark HLY.out) (Nat.le_refl _) (RX.out.unmark HLX.out) (Nat.le_refl _)).mono ?_
  rintro e w4 ⟨he, k⟩
  unfold wthV at he
  subst he
  have s4 := k.size
  have G := Lib.hid (grown_trans G.out k)
  have OB := Lib.hid (OB.out.kept k)
  have RY := Lib.hid ((RY.out.grown (Nat.le_refl _) k).wide s4)
  have RX := Lib.hid ((RX.out.grown (Nat.le_refl _) k).wide s4)
  clear k p0 p1
  obtain ⟨p0, p1⟩ := OB.out.two
  go_wp2_with fail
  refine (RWorth_any V A n c L Y p f caps X m d vs _ (HR.out.grown (Nat.le_refl _) G.out) G.out.size (HY.out.grown (Nat.le_refl _) G.out) G.out.size (HX.out.grown (Nat.le_refl _) G.out) G.out.size).mono ?_
  rintro e w5 ⟨he, k⟩
  unfold wthV at he
  subst he
  have s5 := k.size
  have G := Lib.hid (grown_trans G.out k)
  have OB := Lib.hid (OB.out.kept k)
  have RY := Lib.hid ((RY.out.grown (Nat.le_refl _) k).wide s5)
  have RX := Lib.hid ((RX.out.grown (Nat.le_refl _) k).wide s5)
  clear k p0 p1
  obtain ⟨p0, p1⟩ := OB.out.two
  generalize worthX V L caps vs = wx at *
  generalize worthE V L caps vs = we at *
  go_wp2_with fail
  refine (Proves_any V s t R A n c L (some ⟨gl, 0, none⟩) p cl caps (some ⟨gm, 0, none⟩) m cm vs _ (HR.out.grown (Nat.le_refl _) G.out) G.out.size (RY.out.unmark HLY.out) (Nat.le_refl _) (RX.out.unmark HLX.out) (Nat.le_refl _)).mono ?_
  rintro e w6 ⟨he, k⟩
  unfold prvV at he
  subst he
  have s6 := k.size
  have G := Lib.hid (grown_trans G.out k)
  have OB := Lib.hid (OB.out.kept k)
  have RY := Lib.hid ((RY.out.grown (Nat.le_refl _) k).wide s6)
  have RX := Lib.hid ((RX.out.grown (Nat.le_refl _) k).wide s6)
  clear k p0 p1
  obtain ⟨p0, p1⟩ := OB.out.two
  go_wp2_with fail
  refine (RProves_any V s t R A n c L Y p f caps X m d vs _ (HR.out.grown (Nat.le_refl _) G.out) G.out.size (HY.out.grown (Nat.le_refl _) G.out) G.out.size (HX.out.grown (Nat.le_refl _) G.out) G.out.size).mono ?_
  rintro e w7 ⟨he, k⟩
  unfold prvV at he
  subst he
  have s7 := k.size
  have G := Lib.hid (grown_trans G.out k)
  have RY := Lib.hid ((RY.out.grown (Nat.le_refl _) k).wide s7)
  have RX := Lib.hid ((RX.out.grown (Nat.le_refl _) k).wide s7)
  clear k p0 p1 OB
  generalize provB V L caps s t R vs = pb at *
  generalize provE V L caps = pe at *
  go_wp2_with fail
  refine (awake8_any _).mono ?_
  rintro e w8 ⟨rfl, k⟩
  have s8 := k.size
  have G := Lib.hid (grown_trans G.out k)
  have RY := Lib.hid ((RY.out.grown (Nat.le_refl _) k).wide s8)
  have RX := Lib.hid ((RX.out.grown (Nat.le_refl _) k).wide s8)
  clear k
  have q1 : (wx == wx) = true := by simp
  have q2 : (we == we) = true := by simp
  have q3 : (pb == pb) = true := by simp
  have q4 : (pe == pe) = true := by simp
  go_wp2_with fail
  refine (num_says _ _).mono ?_
  rintro e w9 ⟨rfl, k⟩
  have s9 := k.size
  have G := Lib.hid (grown_trans G.out k)
  have RY := Lib.hid ((RY.out.grown (Nat.le_refl _) k).wide s9)
  have RX := Lib.hid ((RX.out.grown (Nat.le_refl _) k).wide s9)
  clear k
  go_wp2_with fail
  refine (num_says _ _).mono ?_
  rintro e w10 ⟨rfl, k⟩
  have s10 := k.size
  have G := Lib.hid (grown_trans G.out k)
  have RY := Lib.hid ((RY.out.grown (Nat.le_refl _) k).wide s10)
  have RX := Lib.hid ((RX.out.grown (Nat.le_refl _) k).wide s10)
  clear k
  go_wp2_with fail
  refine (KeptInts_any gl p cl caps Y f _ RY.out HLY.out hcl (HY.out.grown (Nat.le_refl _) G.out)).mono ?_
  rintro e w11 ⟨rfl, j, rfl⟩
  have GX := G
  have G : Hid (w.grownBy (w10.drewN j) none) := grown_drewN G.out _
  have RX := Lib.hid (RX.out.drewN j)
  go_wp2_with fail
  refine (KeptInts_any gm m cm vs X d _ RX.out HLX.out hcm (HX.out.grown (Nat.le_refl _) G.out)).mono ?_
  rintro e w12 ⟨rfl, j2, rfl⟩
  go_wp2
  go_ret
  exact ⟨rfl, below_of (grown_drewN GX.out _)⟩

end Go.Proofs.Ytmodkhcfihlhgaa
