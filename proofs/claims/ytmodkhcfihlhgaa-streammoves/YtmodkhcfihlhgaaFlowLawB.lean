/-
  The law StreamMoves, walked.
-/
import Derived.Test.YtmodkhcfihlhgaaFlowG
namespace Go.Proofs.Ytmodkhcfihlhgaa
open Go.RowKit

theorem movV_ok {w : World} {B : Nat} {X : Option Addr} {p : Nat} {caps : List Int} (hx : Row w B X p caps) (V : Int) (L : List Lk) (f : List Int) (b : Int) (rs : List Int) : okI (movV V L caps f b rs) := by
  cases hf : formM V L caps f b rs
  · rw [(mov_form hf).2]; intro i; simp
  · cases hk : movK caps b f rs with
    | none => rw [(mov_none hf hk).2]; intro i; simp
    | some g =>
      rw [(mov_some hf hk).2]
      simp only [formM, Bool.and_eq_true, decide_eq_true_eq, rateF] at hf
      obtain ⟨⟨⟨a, b1, b2⟩, c⟩, d⟩ := hf
      obtain ⟨p1, p2, p3, _⟩ := fits_parts a
      exact rates_ok2 (mov_back (capsB_parts p2).1 b1 d p3 hk).2 hx.ok

set_option maxHeartbeats 4000000 in
theorem StreamMoves_walk (V : Int) (A : Option Addr) (n c : Nat) (L : List Lk) (X : Option Addr) (p d : Nat) (caps : List Int) (Y : Option Addr) (q f0 : Nat) (f : List Int) (b : Int) (Z : Option Addr) (m d0 : Nat) (rs : List Int) (w : World) (h : InG w A n c L) (hX : In w X p d caps) (hY : In w Y q f0 f) (hZ : In w Z m d0 rs) :
    Calls Try.prog 12 #[.agg #[.int .i64 V, .slice A n c], .slice X p d, .slice Y q f0, .int .i64 b, .slice Z m d0] w (LawPost w) := by
  obtain ⟨hs, hnc, hc, hnil⟩ := h
  obtain ⟨hx, hpd, hd, hnilx⟩ := hX
  obtain ⟨hy, hqf, hf, hnily⟩ := hY
  obtain ⟨hz, hmd, hd0, hnilz⟩ := hZ
  have HR := Lib.hid hs
  have HX := Lib.hid hx
  have HY := Lib.hid hy
  have HZ := Lib.hid hz
  have HLX := Lib.hid hx.len
  have HLY := Lib.hid hy.len
  have HLZ := Lib.hid hz.len
  have HNIX := Lib.hid hnilx
  have HNIY := Lib.hid hnily
  have HNIZ := Lib.hid hnilz
  have HOKM := Lib.hid (movV_ok hx V L f b rs)
  have HX1 := Lib.hid (hx.grown (Nat.le_refl _) (grow0 w (.cells #[.int .i64 V, .slice A n c] 24)))
  clear hs hnil hx hnilx hy hnily hz hnilz
  go_enter Try.func12, Try.ntmps12
  go_wp2_with fail
  refine (LendInts_any X p d caps _ HX1.out (by simp) HNIX.out (by omega)).mono ?_
  rintro e w2 ⟨gl, cl, rfl, hcl, hrow, bel⟩
  obtain ⟨g1, ob⟩ := box1 [.int .i64 V, .slice A n c] (grown_of_below bel)
  have RX := Lib.hid hrow
  have G := Lib.hid g1
  have OB := Lib.hid ob
  have s2 := g1.size
  clear bel g1 ob hrow HX1
  go_wp2_with fail
  refine (LendInts_any Y q f0 f _ (HY.out.grown (Nat.le_refl _) G.out) G.out.size HNIY.out (by omega)).mono ?_
  rintro e w3 ⟨gm, cm, rfl, hcm, hrow, bel⟩
  have k := grown_of_below bel
  have s3 := k.size
  have RY := Lib.hid hrow
  have G := Lib.hid (grown_trans G.out k)
  have OB := Lib.hid (OB.out.kept k)
  have RX := Lib.hid ((RX.out.grown (Nat.le_refl _) k).wide s3)
  clear hrow bel k
  go_wp2_with fail
  refine (LendInts_any Z m d0 rs _ (HZ.out.grown (Nat.le_refl _) G.out) G.out.size HNIZ.out (by omega)).mono ?_
  rintro e w4 ⟨gn, cn, rfl, hcn, hrow, bel⟩
  have k := grown_of_below bel
  have s4 := k.size
  have RZ := Lib.hid hrow
  have G := Lib.hid (grown_trans G.out k)
  have OB := Lib.hid (OB.out.kept k)
  have RX := Lib.hid ((RX.out.grown (Nat.le_refl _) k).wide s4)
  have RY := Lib.hid ((RY.out.grown (Nat.le_refl _) k).wide s4)
  clear hrow bel k
  obtain ⟨p0, p1⟩ := OB.out.two
  go_wp2_with fail
  refine (Move_any V b A n c L (some ⟨gl, 0, none⟩) p cl caps (some ⟨gm, 0, none⟩) q cm f (some ⟨gn, 0, none⟩) m cn rs _ (HR.out.grown (Nat.le_refl _) G.out) G.out.size (RX.out.unmark HLX.out) (Nat.le_refl _) (RY.out.unmark HLY.out) (Nat.le_refl _) (RZ.out.unmark HLZ.out) (Nat.le_refl _)).mono ?_
  rintro e w5 ⟨va, rfl, ha, k⟩
  have s5 := k.size
  have hba := ha.own_ge
  have MA := Lib.hid ha
  have G := Lib.hid (grown_trans G.out k)
  have OB := Lib.hid (OB.out.kept k)
  have RX := Lib.hid (RX.out.grown (Nat.le_refl _) k)
  have RY := Lib.hid (RY.out.grown (Nat.le_refl _) k)
  have RZ := Lib.hid (RZ.out.grown (Nat.le_refl _) k)
  clear k p0 p1 ha
  obtain ⟨p0, p1⟩ := OB.out.two
  go_wp2_with fail
  refine (RMove_any V b A n c L X p d caps Y q f0 f Z m d0 rs _ (HR.out.grown (Nat.le_refl _) G.out) G.out.size (HX.out.grown (Nat.le_refl _) G.out) G.out.size (HY.out.grown (Nat.le_refl _) G.out) G.out.size (HZ.out.grown (Nat.le_refl _) G.out) G.out.size HNIY.out).mono ?_
  rintro e w6 ⟨vb, rfl, hb, k⟩
  have s6 := k.size
  have MA := Lib.hid (MA.out.kept k)
  have MB := Lib.hid hb
  have G := Lib.hid (grown_trans G.out k)
  have RX := Lib.hid (RX.out.grown s5 k)
  have RY := Lib.hid (RY.out.grown s5 k)
  have RZ := Lib.hid (RZ.out.grown s5 k)
  clear k p0 p1 hb OB
  have okA := HOKM.out
  generalize movV V L caps f b rs = xa at *
  generalize movE V L caps f b rs = z at *
  obtain ⟨Aa, ca, rfl, _, ra⟩ := MA.out.row okA
  obtain ⟨Ab, cb, rfl, _, rb⟩ := MB.out.row okA
  have HRA := Lib.hid ra
  have HRB := Lib.hid rb
  clear ra rb okA
  go_wp2_with fail
  refine (same_says (SameInts0_any Aa xa.length ca xa Ab xa.length cb xa _ HRA.out HRB.out)).mono ?_
  rintro e w7 ⟨he, k⟩
  rw [sameB_refl] at he
  subst he
  have s7 := k.size
  have MA := Lib.hid (MA.out.kept k)
  have G := Lib.hid (grown_trans G.out k)
  have RX := Lib.hid (RX.out.grown (by omega) k)
  have RY := Lib.hid (RY.out.grown (by omega) k)
  have RZ := Lib.hid (RZ.out.grown (by omega) k)
  clear k HRA HRB MB
  have hzz : (z != z) = false := by simp
  go_wp2_with fail
  refine (num_says _ _).mono ?_
  rintro e w8 ⟨rfl, k⟩
  have s8 := k.size
  have MA := Lib.hid (MA.out.kept k)
  have G := Lib.hid (grown_trans G.out k)
  have RX := Lib.hid (RX.out.grown (by omega) k)
  have RY := Lib.hid (RY.out.grown (by omega) k)
  have RZ := Lib.hid (RZ.out.grown (by omega) k)
  clear k
  go_wp2_with fail
  refine (SpoilInts_any (.slice Aa xa.length ca) xa.length xa _ MA.out).mono ?_
  rintro e w9 ⟨rfl, k9⟩
  have s9 := k9.size
  have G := Lib.hid (grown_none G.out k9 (fun g hg => by have := hba g hg; omega))
  have RX := Lib.hid (RX.out.grown' (by omega) k9 (fun g hg => by have := hba g hg; omega))
  have RY := Lib.hid (RY.out.grown' (by omega) k9 (fun g hg => by have := hba g hg; omega))
  have RZ := Lib.hid (RZ.out.grown' (by omega) k9 (fun g hg => by have := hba g hg; omega))
  clear k9 MA
  go_wp2_with fail
  refine (awake9_any _).mono ?_
  rintro e w10 ⟨rfl, k⟩
  have s10 := k.size
  have G := Lib.hid (grown_trans G.out k)
  have RX := Lib.hid (RX.out.grown (by omega) k)
  have RY := Lib.hid (RY.out.grown (by omega) k)
  have RZ := Lib.hid (RZ.out.grown (by omega) k)
  clear k
  go_wp2_with fail
  refine (same_says (KeptInts_any gl p cl caps X d _ RX.out HLX.out hcl (HX.out.grown (Nat.le_refl _) G.out))).mono ?_
  rintro e w11 ⟨rfl, k⟩
  have s11 := k.size
  have G := Lib.hid (grown_trans G.out k)
  have RY := Lib.hid (RY.out.grown (by omega) k)
  have RZ := Lib.hid (RZ.out.grown (by omega) k)
  clear k
  go_wp2_with fail
  refine (same_says (KeptInts_any gm q cm f Y f0 _ RY.out HLY.out hcm (HY.out.grown (Nat.le_refl _) G.out))).mono ?_
  rintro e w12 ⟨rfl, k⟩
  have s12 := k.size
  have G := Lib.hid (grown_trans G.out k)
  have RZ := Lib.hid (RZ.out.grown (by omega) k)
  clear k
  go_wp2_with fail
  refine (same_says (KeptInts_any gn m cn rs Z d0 _ RZ.out HLZ.out hcn (HZ.out.grown (Nat.le_refl _) G.out))).mono ?_
  rintro e w13 ⟨rfl, k⟩
  have G := Lib.hid (grown_trans G.out k)
  clear k
  go_wp2
  go_ret
  exact ⟨rfl, below_of G.out⟩

end Go.Proofs.Ytmodkhcfihlhgaa
