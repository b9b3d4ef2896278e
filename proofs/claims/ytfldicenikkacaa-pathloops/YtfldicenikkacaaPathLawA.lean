/-
  The law PathSimples, walked.
-/
import Derived.Test.YtfldicenikkacaaPathG
namespace Go.Proofs.Ytfldicenikkacaa
open Go.RowKit

set_option maxHeartbeats 2000000 in
theorem PathSimples_walk (V : Int) (A : Option Addr) (n c : Nat) (L : List Lk) (s : Int) (X : Option Addr) (m d : Nat) (xs : List Int) (w : World) (h : InG w A n c L) (hI : In w X m d xs) :
    Calls Try.prog 11 #[.agg #[.int .i64 V, .slice A n c], .int .i64 s, .slice X m d] w (LawPost w) := by
  obtain ⟨hs, hnc, hc, hnil⟩ := h
  obtain ⟨hx, hmd, hd, hnilx⟩ := hI
  have HR := Lib.hid hs
  have HX := Lib.hid hx
  have HLX := Lib.hid hx.len
  have HNIL := Lib.hid hnilx
  have HX1 := Lib.hid (hx.grown (Nat.le_refl _) (grow0 w (.cells #[.int .i64 V, .slice A n c] 24)))
  clear hs hnil hx hnilx
  go_enter Try.func11, Try.ntmps11
  go_wp2_with fail
  refine (LendInts_any X m d xs _ HX1.out (by simp) HNIL.out (by omega)).mono ?_
  rintro e w1 ⟨gl, cl, rfl, hcl, hrow, bel⟩
  obtain ⟨g, ob⟩ := box1 [.int .i64 V, .slice A n c] (grown_of_below bel)
  have G := Lib.hid g
  have OB := Lib.hid ob
  have RY := Lib.hid hrow
  have s1 := ob.lt
  clear g ob hrow bel HX1
  obtain ⟨p0, p1⟩ := OB.out.two
  go_wp2_with fail
  refine (Simple_any V s A n c L _ m cl xs _ (HR.out.grown (Nat.le_refl _) G.out) G.out.size (RY.out.unmark HLX.out) (Nat.le_refl _)).mono ?_
  rintro e w2 ⟨va, rfl, ha, k⟩
  have s2 := k.size
  have hba := ha.own_ge
  have MA := Lib.hid ha
  have G := Lib.hid (grown_trans G.out k)
  have OB := Lib.hid (OB.out.kept k)
  have RY := Lib.hid (RY.out.grown (Nat.le_refl _) k)
  clear ha k p0 p1
  obtain ⟨p0, p1⟩ := OB.out.two
  go_wp2_with fail
  refine (RSimple_any V s A n c L X m d xs _ (HR.out.grown (Nat.le_refl _) G.out) G.out.size (HX.out.grown (Nat.le_refl _) G.out) G.out.size).mono ?_
  rintro e w3 ⟨vb, rfl, hb, k⟩
  have s3 := k.size
  have MA := Lib.hid (MA.out.kept k)
  have MB := Lib.hid hb
  have G := Lib.hid (grown_trans G.out k)
  have RY := Lib.hid (RY.out.grown (by omega) k)
  clear hb k p0 p1 OB
  have okA := simV_ok V L s xs
  generalize simV V L s xs = xa at *
  generalize walkE V L s xs = z at *
  obtain ⟨Aa, ca, rfl, _, ra⟩ := MA.out.row okA
  obtain ⟨Ab, cb, rfl, _, rb⟩ := MB.out.row okA
  have RA := Lib.hid ra
  have RB := Lib.hid rb
  have hzz : (z != z) = false := by simp
  clear ra rb okA MB
  go_wp2_with fail
  refine (SameInts0_any Aa xa.length ca xa Ab xa.length cb xa _ RA.out RB.out).mono ?_
  rintro e w4 ⟨rfl, j4, rfl⟩
  rw [sameB_refl]
  have k4 : w3.grownBy (w3.drewN j4) none := grown_drewN (World.grownBy.refl _ _) _
  have s4 := k4.size
  have MA := Lib.hid (MA.out.kept k4)
  have G := Lib.hid (grown_trans G.out k4)
  have RY := Lib.hid (RY.out.grown (by omega) k4)
  clear RA RB k4
  generalize w3.drewN j4 = w4 at *
  go_wp2_with fail
  refine (Num0_any _ _).mono ?_
  rintro e w5 ⟨rfl, rfl⟩
  go_wp2_with fail
  refine (SpoilInts_any _ xa.length xa _ MA.out).mono ?_
  rintro e w6 ⟨rfl, k⟩
  have s6 := k.size
  have G := Lib.hid (grown_none G.out k (fun g hg => by have := hba g hg; omega))
  have RY := Lib.hid (RY.out.grown' (by omega) k (fun g hg => by have := hba g hg; omega))
  clear k MA hba
  go_wp2_with fail
  refine (awake6_any _).mono ?_
  rintro e w7 ⟨rfl, k⟩
  have G := Lib.hid (grown_trans G.out k)
  have RY := Lib.hid (RY.out.grown (by omega) k)
  clear k
  go_wp2_with fail
  refine (KeptInts_any gl m cl xs X d _ RY.out HLX.out hcl (HX.out.grown (Nat.le_refl _) G.out)).mono ?_
  rintro e w8 ⟨rfl, j8, rfl⟩
  have G : Hid (w.grownBy (w7.drewN j8) none) := grown_drewN G.out _
  go_wp2
  go_ret
  exact ⟨rfl, below_of G.out⟩

end Go.Proofs.Ytfldicenikkacaa
