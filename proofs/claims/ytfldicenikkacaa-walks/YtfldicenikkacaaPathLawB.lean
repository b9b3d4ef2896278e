/-
  The law Walks, walked.
-/
import Derived.Test.YtfldicenikkacaaPathLawA
namespace Go.Proofs.Ytfldicenikkacaa
open Go.RowKit

set_option maxHeartbeats 4000000 in
theorem Walks_walk (V : Int) (A : Option Addr) (n c : Nat) (L : List Lk) (s t : Int) (X : Option Addr) (m d : Nat) (xs : List Int) (w : World) (h : InG w A n c L) (hI : In w X m d xs) :
    Calls Try.prog 10 #[.agg #[.int .i64 V, .slice A n c], .int .i64 s, .int .i64 t, .slice X m d] w (LawPost w) := by
  obtain ⟨hs, hnc, hc, hnil⟩ := h
  obtain ⟨hx, hmd, hd, hnilx⟩ := hI
  have HR := Lib.hid hs
  have HX := Lib.hid hx
  have HLX := Lib.hid hx.len
  have HNIL := Lib.hid hnil
  have HNIX := Lib.hid hnilx
  have HR1 := Lib.hid (hs.grown (Nat.le_refl _) (grow0 w (.cells #[.int .i64 V, .slice A n c] 24)))
  clear hs hnil hx hnilx
  go_enter Try.func10, Try.ntmps10
  go_wp2_with fail
  refine (CopyGraph_any V A n c L _ HR1.out (by simp) HNIL.out (by omega)).mono ?_
  rintro e w1 ⟨x, rfl, hm, k1⟩
  obtain ⟨g1, ob⟩ := box1 [.int .i64 V, .slice A n c] k1
  obtain ⟨A1, c1, rfl, _, _, hrow⟩ := hm.row
  have b1 := ob.lt
  have hlx : Lks w1 w1.heap.size A1 n L := ⟨hrow, HR.out.ok⟩
  have LX := Lib.hid hlx
  have G := Lib.hid g1
  have OB := Lib.hid ob
  clear k1 g1 ob hm hrow hlx HR1
  go_wp2_with fail
  refine (LendInts_any X m d xs _ (HX.out.grown (Nat.le_refl _) G.out) G.out.size HNIX.out (by omega)).mono ?_
  rintro e w2 ⟨gl, cl, rfl, hcl, hrow, bel⟩
  have k2 := grown_trans (grown_of_below bel) (grow0 w2 (.cells #[.int .i64 V, .slice A1 n c1] 24))
  have s2 := bel.size
  have LX := Lib.hid (LX.out.grown (Nat.le_refl _) k2)
  have G := Lib.hid (grown_trans G.out k2)
  have OB := Lib.hid (OB.out.kept k2)
  have RY := Lib.hid (hrow.grown (Nat.le_refl _) (grow0 w2 (.cells #[.int .i64 V, .slice A1 n c1] 24)))
  have OX := Lib.hid (Own.new w2 24 [.int .i64 V, .slice A1 n c1])
  clear k2 hrow bel
  go_wp2_with fail
  refine (Walk_any V s A1 n c1 L _ m cl xs _ LX.out (by simp; omega) (RY.out.unmark HLX.out) (by simp)).mono ?_
  rintro e w3 ⟨va, rfl, ha, k⟩
  have s3 : w2.heap.size + 1 ≤ w3.heap.size := by have := k.size; simpa using this
  have hba := ha.own_ge
  have hla := ha.own_lt
  rw [World.size_alloc] at hba
  have MA := Lib.hid ha
  have LX := Lib.hid (LX.out.grown (by simp; omega) k)
  have RY := Lib.hid (RY.out.grown (by simp) k)
  have G := Lib.hid (grown_trans G.out k)
  have OB := Lib.hid (OB.out.kept k)
  have OX := Lib.hid (OX.out.kept k)
  clear ha k
  obtain ⟨p0, p1⟩ := OB.out.two
  obtain ⟨q0, q1⟩ := OX.out.two
  go_wp2_with fail
  refine (RWalk_any V s A n c L X m d xs _ (HR.out.grown (Nat.le_refl _) G.out) G.out.size (HX.out.grown (Nat.le_refl _) G.out) G.out.size).mono ?_
  rintro e w7 ⟨vb, rfl, hb, k⟩
  have s7 := k.size
  have MA := Lib.hid (MA.out.kept k)
  have MB := Lib.hid hb
  have LX := Lib.hid (LX.out.grown (by omega) k)
  have RY := Lib.hid (RY.out.grown (by omega) k)
  have G := Lib.hid (grown_trans G.out k)
  have OB := Lib.hid (OB.out.kept k)
  have OX := Lib.hid (OX.out.kept k)
  clear hb k p0 p1 q0 q1
  obtain ⟨p0, p1⟩ := OB.out.two
  obtain ⟨q0, q1⟩ := OX.out.two
  have okA := walkV_ok V L s xs
  generalize walkV V L s xs = xa at *
  generalize walkE V L s xs = z at *
  obtain ⟨Aa, ca, rfl, _, ra⟩ := MA.out.row okA
  obtain ⟨Ab, cb, rfl, _, rb⟩ := MB.out.row okA
  have HG7 := Lib.hid (HR.out.grown (Nat.le_refl _) G.out)
  have HX7 := Lib.hid (HX.out.grown (Nat.le_refl _) G.out)
  have G7s := G.out.size
  have C1 : Hid (∀ wx : World, w7.grownBy wx none → Calls Try.prog 40 #[.agg #[.int .i64 V, .slice A1 n c1], .int .i64 s, .int .i64 t, .slice (some ⟨gl, 0, none⟩) m cl] wx (Says wx (.bool (mayP V L s t xs)))) := fun wx k => PMay_any V s t A1 n c1 L _ m cl xs wx (LX.out.grown (by omega) k) (by have := k.size; omega) ((RY.out.unmark HLX.out).grown (by omega) k) (by have := k.size; omega)
  have C2 : Hid (∀ wx : World, w7.grownBy wx none → Calls Try.prog 41 #[.agg #[.int .i64 V, .slice A n c], .int .i64 s, .int .i64 t, .slice X m d] wx (Says wx (.bool (mayP V L s t xs)))) := fun wx k => RPMay_any V s t A n c L X m d xs wx (HG7.out.grown G7s k) (by have := k.size; omega) (HX7.out.grown G7s k) (by have := k.size; omega)
  have C3 : Hid (∀ wx : World, w7.grownBy wx none → Calls Try.prog 24 #[.slice Aa xa.length ca, .slice Ab xa.length cb] wx (Says wx (.bool true))) := fun wx k => sameB_refl xa ▸ same_says (SameInts0_any Aa xa.length ca xa Ab xa.length cb xa wx (ra.grown (Nat.le_refl _) k) (rb.grown (Nat.le_refl _) k))
  have hzz : (z != z) = false := by simp
  clear ra rb okA HG7 HX7
  generalize mayP V L s t xs = mp at *
  have hmm : (mp != mp) = false := by cases mp <;> rfl
  have hS : (fun w' : World => w'.cell? ⟨w.heap.size, 0, none⟩ = some (.int .i64 V) ∧ w'.cell? ⟨w.heap.size, 1, none⟩ = some (.slice A n c) ∧ w'.cell? ⟨w2.heap.size, 0, none⟩ = some (.int .i64 V) ∧ w'.cell? ⟨w2.heap.size, 1, none⟩ = some (.slice A1 n c1)) w7 := ⟨p0, p1, q0, q1⟩
  have HS := Lib.hid hS
  have GK := Lib.hid (World.grownBy.refl w7 none)
  clear hS
  go_upto_region 4 with fail
  go_region_held3 (fun w' : World => w'.cell? ⟨w.heap.size, 0, none⟩ = some (.int .i64 V) ∧ w'.cell? ⟨w.heap.size, 1, none⟩ = some (.slice A n c) ∧ w'.cell? ⟨w2.heap.size, 0, none⟩ = some (.int .i64 V) ∧ w'.cell? ⟨w2.heap.size, 1, none⟩ = some (.slice A1 n c1))
    (exact HS.out)
    (first
      | (go_at_call 40; refine (C1.out _ (by first | exact GK.out | exact grown_drew GK.out | exact grown_drewN GK.out _)).mono ?_; rintro e w8 ⟨rfl, g⟩; have GK : Hid (w7.grownBy w8 none) := (by first | exact grown_trans GK.out g | exact grown_trans (grown_drew GK.out) g | exact grown_trans (grown_drewN GK.out _) g); have HS := Lib.hid (held4 g HS.out); clear g)
      | (go_at_call 41; refine (C2.out _ (by first | exact GK.out | exact grown_drew GK.out | exact grown_drewN GK.out _)).mono ?_; rintro e w8 ⟨rfl, g⟩; have GK : Hid (w7.grownBy w8 none) := (by first | exact grown_trans GK.out g | exact grown_trans (grown_drew GK.out) g | exact grown_trans (grown_drewN GK.out _) g); have HS := Lib.hid (held4 g HS.out); clear g)
      | (go_at_call 24; refine (C3.out _ (by first | exact GK.out | exact grown_drew GK.out | exact grown_drewN GK.out _)).mono ?_; rintro e w8 ⟨rfl, g⟩; have GK : Hid (w7.grownBy w8 none) := (by first | exact grown_trans GK.out g | exact grown_trans (grown_drew GK.out) g | exact grown_trans (grown_drewN GK.out _) g); have HS := Lib.hid (held4 g HS.out); clear g)
      | (go_at_call 25; refine (num_says _ _).mono ?_; rintro e w8 ⟨rfl, g⟩; have GK : Hid (w7.grownBy w8 none) := (by first | exact grown_trans GK.out g | exact grown_trans (grown_drew GK.out) g | exact grown_trans (grown_drewN GK.out _) g); have HS := Lib.hid (held4 g HS.out); clear g))
  go_wp2_with fail
  refine (SpoilInts_any (.slice Aa xa.length ca) xa.length xa _ (by first | exact MA.out.kept GK.out | exact MA.out.kept (grown_drew GK.out))).mono ?_
  rintro e w9 ⟨rfl, k⟩
  have k9 : w7.grownBy w9 (Value.slice Aa xa.length ca).ownBlock := by first | exact grown_more GK.out k | exact grown_more (grown_drew GK.out) k
  have s9 := k9.size
  have G := Lib.hid (grown_none G.out k9 (fun g hg => by have := hba g hg; omega))
  have LX := Lib.hid (LX.out.grown' (by omega) k9 (fun g hg => by have := hba g hg; omega))
  have RY := Lib.hid (RY.out.grown' (by omega) k9 (fun g hg => by have := hba g hg; omega))
  have OB := Lib.hid (OB.out.kept' k9 (fun hg => by have := hba _ hg; omega))
  have OX := Lib.hid (OX.out.kept' k9 (fun hg => by have := hba _ hg; omega))
  clear k k9 GK HS p0 p1 q0 q1 C1 C2 C3
  go_wp2_with fail
  refine (awake6_any _).mono ?_
  rintro e w11 ⟨rfl, k⟩
  have s11 := k.size
  have G := Lib.hid (grown_trans G.out k)
  have LX := Lib.hid (LX.out.grown (by omega) k)
  have RY := Lib.hid (RY.out.grown (by omega) k)
  have OB := Lib.hid (OB.out.kept k)
  have OX := Lib.hid (OX.out.kept k)
  clear k
  obtain ⟨p0, p1⟩ := OB.out.two
  obtain ⟨q0, q1⟩ := OX.out.two
  go_wp2_with fail
  refine (SameGraph_same V A1 A n c1 c L _ LX.out (HR.out.grown (Nat.le_refl _) G.out)).mono ?_
  rintro e w12 ⟨rfl, k⟩
  have G := Lib.hid (grown_trans G.out k)
  have RY := Lib.hid (RY.out.grown (by omega) k)
  clear k p0 p1 q0 q1
  go_wp2_with fail
  refine (KeptInts_any gl m cl xs X d _ RY.out HLX.out hcl (HX.out.grown (Nat.le_refl _) G.out)).mono ?_
  rintro e w13 ⟨rfl, j, rfl⟩
  have G : Hid (w.grownBy (w12.drewN j) none) := grown_drewN G.out _
  go_wp2
  go_ret
  exact ⟨rfl, below_of G.out⟩

end Go.Proofs.Ytfldicenikkacaa
