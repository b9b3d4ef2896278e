/-
  The law Bundles, walked.
-/
import Derived.Test.YtmodkhcfihlhgaaBundleG
namespace Go.Proofs.Ytmodkhcfihlhgaa
open Go.RowKit

theorem Bds.grown {w w' : World} {P : Option Addr} {m : Nat} {ps : List Pth} (h : Bds w P m) (hp : Pths w w.heap.size P m ps) (k : w.grownBy w' none) : Bds w' P m := fun i hi b off Y r e hA hce => by
  obtain ⟨b', off', X', m', d', hA', hb', _, c1', _⟩ := hp.at_ i hi
  have hcw := kept k c1'
  rw [hA] at hA'
  injection hA' with hA'
  injection hA' with e1 e2
  subst e1 e2
  rw [hce] at hcw
  injection hcw with hcw
  injection hcw with e1 e2 e3
  subst e1 e2 e3
  exact h i hi b off Y r e hA c1'

set_option maxHeartbeats 4000000 in
theorem Bundles_walk (V : Int) (A : Option Addr) (n c : Nat) (L : List Lk) (s t R : Int) (P : Option Addr) (m f : Nat) (ps : List Pth) (w : World) (h : InG w A n c L) (hP : InP w P m f ps) :
    Calls Try.prog 3 #[.agg #[.int .i64 V, .slice A n c], .int .i64 s, .int .i64 t, .int .i64 R, .slice P m f] w (LawPost w) := by
  obtain ⟨hs, hnc, hc, hnil⟩ := h
  obtain ⟨hp, hmf, hf, hnilp, hbd⟩ := hP
  have HR := Lib.hid hs
  have HP := Lib.hid hp
  have HBD := Lib.hid hbd
  have HNIL := Lib.hid hnil
  have HR1 := Lib.hid (hs.grown (Nat.le_refl _) (grow0 w (.cells #[.int .i64 V, .slice A n c] 24)))
  clear hs hnil hp hbd hnilp
  go_enter Try.func3, Try.ntmps3
  go_wp2_with fail
  refine (CopyGraph_any V A n c L _ HR1.out (by simp) HNIL.out (by omega)).mono ?_
  rintro e w1 ⟨x, rfl, hm, k1⟩
  obtain ⟨g1, ob⟩ := box1 [.int .i64 V, .slice A n c] k1
  obtain ⟨A1, c1, rfl, _, _, hrow⟩ := hm.row
  have b1 := ob.lt
  have hlx : Lks w1 w1.heap.size A1 n L := ⟨hrow, HR.out.ok⟩
  have LX := Lib.hid hlx
  have G := Lib.hid g1
  have OB := Lib.hid ob
  clear k1 g1 ob hm hrow hlx HR1
  go_wp2_with fail
  refine (CopyPaths_any P m f ps _ (HP.out.grown (Nat.le_refl _) G.out) G.out.size (by omega) (HBD.out.grown HP.out G.out)).mono ?_
  rintro e w2 ⟨Ay, cy, rfl, hy, k⟩
  have k2 := grown_trans k (grow0 w2 (.cells #[.int .i64 V, .slice A1 n c1] 24))
  have s2 := k.size
  have PY := Lib.hid (hy.grown (Nat.le_refl _) (grow0 w2 (.cells #[.int .i64 V, .slice A1 n c1] 24)))
  have LX := Lib.hid (LX.out.grown (Nat.le_refl _) k2)
  have G := Lib.hid (grown_trans G.out k2)
  have OB := Lib.hid (OB.out.kept k2)
  have OX := Lib.hid (Own.new w2 24 [.int .i64 V, .slice A1 n c1])
  clear k k2 hy
  go_wp2_with fail
  refine (Loads_any V A1 n c1 L Ay m cy ps _ LX.out (by simp; omega) PY.out (by simp)).mono ?_
  rintro e w3 ⟨va, rfl, ha, k⟩
  have s3 : w2.heap.size + 1 ≤ w3.heap.size := by have := k.size; simpa using this
  have hba := ha.own_ge
  have hla := ha.own_lt
  rw [World.size_alloc] at hba
  have MA := Lib.hid ha
  have LX := Lib.hid (LX.out.grown (by simp; omega) k)
  have PY := Lib.hid (PY.out.grown (by simp) k)
  have G := Lib.hid (grown_trans G.out k)
  have OB := Lib.hid (OB.out.kept k)
  have OX := Lib.hid (OX.out.kept k)
  clear ha k
  obtain ⟨p0, p1⟩ := OB.out.two
  obtain ⟨q0, q1⟩ := OX.out.two
  go_wp2_with fail
  refine (RLoads_any V A n c L P m f ps _ (HR.out.grown (Nat.le_refl _) G.out) G.out.size (HP.out.grown (Nat.le_refl _) G.out) G.out.size).mono ?_
  rintro e w7 ⟨vb, rfl, hb, k⟩
  have s7 := k.size
  have MA := Lib.hid (MA.out.kept k)
  have MB := Lib.hid hb
  have LX := Lib.hid (LX.out.grown (by omega) k)
  have PY := Lib.hid (PY.out.grown (by omega) k)
  have G := Lib.hid (grown_trans G.out k)
  have OB := Lib.hid (OB.out.kept k)
  have OX := Lib.hid (OX.out.kept k)
  clear hb k p0 p1 q0 q1
  obtain ⟨p0, p1⟩ := OB.out.two
  obtain ⟨q0, q1⟩ := OX.out.two
  have okA := loadsV_ok V L ps
  generalize loadsV V L ps = xa at *
  generalize loadsE V L ps = z at *
  obtain ⟨Aa, ca, rfl, _, ra⟩ := MA.out.row okA
  obtain ⟨Ab, cb, rfl, _, rb⟩ := MB.out.row okA
  have HG7 := Lib.hid (HR.out.grown (Nat.le_refl _) G.out)
  have HP7 := Lib.hid (HP.out.grown (Nat.le_refl _) G.out)
  have G7s := G.out.size
  have C1 : Hid (∀ wx : World, w7.grownBy wx none → Calls Try.prog 21 #[.agg #[.int .i64 V, .slice A1 n c1], .int .i64 s, .int .i64 t, .int .i64 R, .slice Ay m cy] wx (Says wx (.bool (bmay V L s t R ps)))) := fun wx k => BMay_any V s t R A1 n c1 L Ay m cy ps wx (LX.out.grown (by omega) k) (by have := k.size; omega) (PY.out.grown (by omega) k) (by have := k.size; omega)
  have C2 : Hid (∀ wx : World, w7.grownBy wx none → Calls Try.prog 22 #[.agg #[.int .i64 V, .slice A n c], .int .i64 s, .int .i64 t, .int .i64 R, .slice P m f] wx (Says wx (.bool (bmay V L s t R ps)))) := fun wx k => RBMay_any V s t R A n c L P m f ps wx (HG7.out.grown G7s k) (by have := k.size; omega) (HP7.out.grown G7s k) (by have := k.size; omega)
  have C3 : Hid (∀ wx : World, w7.grownBy wx none → Calls Try.prog 19 #[.slice Aa xa.length ca, .slice Ab xa.length cb] wx (Says wx (.bool true))) := fun wx k => sameB_refl xa ▸ same_says (SameInts0_any Aa xa.length ca xa Ab xa.length cb xa wx (ra.grown (Nat.le_refl _) k) (rb.grown (Nat.le_refl _) k))
  have hzz : (z != z) = false := by simp
  clear ra rb okA HG7 HP7
  generalize bmay V L s t R ps = mp at *
  have hmm : (mp != mp) = false := by cases mp <;> rfl
  have hS : (fun w' : World => w'.cell? ⟨w.heap.size, 0, none⟩ = some (.int .i64 V) ∧ w'.cell? ⟨w.heap.size, 1, none⟩ = some (.slice A n c) ∧ w'.cell? ⟨w2.heap.size, 0, none⟩ = some (.int .i64 V) ∧ w'.cell? ⟨w2.heap.size, 1, none⟩ = some (.slice A1 n c1)) w7 := ⟨p0, p1, q0, q1⟩
  have HS := Lib.hid hS
  have GK := Lib.hid (World.grownBy.refl w7 none)
  clear hS
  go_upto_region 4 with fail
  go_region_held3 (fun w' : World => w'.cell? ⟨w.heap.size, 0, none⟩ = some (.int .i64 V) ∧ w'.cell? ⟨w.heap.size, 1, none⟩ = some (.slice A n c) ∧ w'.cell? ⟨w2.heap.size, 0, none⟩ = some (.int .i64 V) ∧ w'.cell? ⟨w2.heap.size, 1, none⟩ = some (.slice A1 n c1))
    (exact HS.out)
    (first
      | (go_at_call 21; refine (C1.out _ (by first | exact GK.out | exact grown_drew GK.out | exact grown_drewN GK.out _)).mono ?_; rintro e w8 ⟨rfl, g⟩; have GK : Hid (w7.grownBy w8 none) := (by first | exact grown_trans GK.out g | exact grown_trans (grown_drew GK.out) g | exact grown_trans (grown_drewN GK.out _) g); have HS := Lib.hid (held4 g HS.out); clear g)
      | (go_at_call 22; refine (C2.out _ (by first | exact GK.out | exact grown_drew GK.out | exact grown_drewN GK.out _)).mono ?_; rintro e w8 ⟨rfl, g⟩; have GK : Hid (w7.grownBy w8 none) := (by first | exact grown_trans GK.out g | exact grown_trans (grown_drew GK.out) g | exact grown_trans (grown_drewN GK.out _) g); have HS := Lib.hid (held4 g HS.out); clear g)
      | (go_at_call 19; refine (C3.out _ (by first | exact GK.out | exact grown_drew GK.out | exact grown_drewN GK.out _)).mono ?_; rintro e w8 ⟨rfl, g⟩; have GK : Hid (w7.grownBy w8 none) := (by first | exact grown_trans GK.out g | exact grown_trans (grown_drew GK.out) g | exact grown_trans (grown_drewN GK.out _) g); have HS := Lib.hid (held4 g HS.out); clear g)
      | (go_at_call 20; refine (num_says _ _).mono ?_; rintro e w8 ⟨rfl, g⟩; have GK : Hid (w7.grownBy w8 none) := (by first | exact grown_trans GK.out g | exact grown_trans (grown_drew GK.out) g | exact grown_trans (grown_drewN GK.out _) g); have HS := Lib.hid (held4 g HS.out); clear g))
  go_wp2_with fail
  refine (SpoilInts_any (.slice Aa xa.length ca) xa.length xa _ (by first | exact MA.out.kept GK.out | exact MA.out.kept (grown_drew GK.out))).mono ?_
  rintro e w9 ⟨rfl, k⟩
  have k9 : w7.grownBy w9 (Value.slice Aa xa.length ca).ownBlock := by first | exact grown_more GK.out k | exact grown_more (grown_drew GK.out) k
  have s9 := k9.size
  have G := Lib.hid (grown_none G.out k9 (fun g hg => by have := hba g hg; omega))
  have LX := Lib.hid (LX.out.grown' (by omega) k9 (fun g hg => by have := hba g hg; omega))
  have PY := Lib.hid (PY.out.grown' (by omega) k9 (fun g hg => by have := hba g hg; omega))
  have OB := Lib.hid (OB.out.kept' k9 (fun hg => by have := hba _ hg; omega))
  have OX := Lib.hid (OX.out.kept' k9 (fun hg => by have := hba _ hg; omega))
  clear k k9 GK HS p0 p1 q0 q1 C1 C2 C3
  go_wp2_with fail
  refine (awake7_any _).mono ?_
  rintro e w11 ⟨rfl, k⟩
  have s11 := k.size
  have G := Lib.hid (grown_trans G.out k)
  have LX := Lib.hid (LX.out.grown (by omega) k)
  have PY := Lib.hid (PY.out.grown (by omega) k)
  have OB := Lib.hid (OB.out.kept k)
  have OX := Lib.hid (OX.out.kept k)
  clear k
  obtain ⟨p0, p1⟩ := OB.out.two
  obtain ⟨q0, q1⟩ := OX.out.two
  go_wp2_with fail
  refine (SameGraph_same V A1 A n c1 c L _ LX.out (HR.out.grown (Nat.le_refl _) G.out)).mono ?_
  rintro e w12 ⟨rfl, k⟩
  have G := Lib.hid (grown_trans G.out k)
  have PY := Lib.hid (PY.out.grown (by omega) k)
  clear k p0 p1 q0 q1
  go_wp2_with fail
  refine (SamePaths0_same Ay P m cy f ps _ PY.out (HP.out.grown (Nat.le_refl _) G.out)).mono ?_
  rintro e w13 ⟨rfl, k⟩
  have G := Lib.hid (grown_trans G.out k)
  clear k
  go_wp2
  go_ret
  exact ⟨rfl, below_of G.out⟩

end Go.Proofs.Ytmodkhcfihlhgaa
