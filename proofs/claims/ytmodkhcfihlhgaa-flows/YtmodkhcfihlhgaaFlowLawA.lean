/-
  The law Flows, walked.
-/
import Derived.Test.YtmodkhcfihlhgaaFlowG
namespace Go.Proofs.Ytmodkhcfihlhgaa
open Go.RowKit

theorem held2 {w w1 : World} {k : Nat} {x0 x1 : Value} (g : w.grownBy w1 none) (h : (fun w' : World => w'.cell? ⟨k, 0, none⟩ = some x0 ∧ w'.cell? ⟨k, 1, none⟩ = some x1) w) :
    (fun w' : World => w'.cell? ⟨k, 0, none⟩ = some x0 ∧ w'.cell? ⟨k, 1, none⟩ = some x1) w1 := ⟨kept g h.1, kept g h.2⟩

theorem kept_says {f : FuncId} {args : Array Value} {w : World} (h : Calls Try.prog f args w (SamePost w true)) : Calls Try.prog f args w (Says w (.bool true)) := same_says h

set_option maxRecDepth 20000 in
set_option maxHeartbeats 8000000 in
theorem Flows_walk (V : Int) (A : Option Addr) (n c : Nat) (L : List Lk) (X : Option Addr) (p d : Nat) (caps : List Int) (Y : Option Addr) (q f0 : Nat) (f : List Int) (s t a : Int) (w : World) (h : InG w A n c L) (hX : In w X p d caps) (hY : In w Y q f0 f) :
    Calls Try.prog 11 #[.agg #[.int .i64 V, .slice A n c], .slice X p d, .slice Y q f0, .int .i64 s, .int .i64 t, .int .i64 a] w (LawPost w) := by
  obtain ⟨hs, hnc, hc, hnil⟩ := h
  obtain ⟨hx, hpd, hd, hnilx⟩ := hX
  obtain ⟨hy, hqf, hf, hnily⟩ := hY
  have HR := Lib.hid hs
  have HX := Lib.hid hx
  have HY := Lib.hid hy
  have HLX := Lib.hid hx.len
  have HLY := Lib.hid hy.len
  have HNIX := Lib.hid hnilx
  have HNIY := Lib.hid hnily
  have HX1 := Lib.hid (hx.grown (Nat.le_refl _) (grow0 w (.cells #[.int .i64 V, .slice A n c] 24)))
  clear hs hnil hx hnilx hy hnily
  go_enter Try.func11, Try.ntmps11
  go_wp2_with fail
  refine (LendInts_any X p d caps _ HX1.out (by simp) HNIX.out (by omega)).mono ?_
  rintro e w2 ⟨gl, cl, rfl, hcl, hrow, bel⟩
  obtain ⟨g1, ob⟩ := box1 [.int .i64 V, .slice A n c] (grown_of_below bel)
  have RX := Lib.hid hrow
  have G := Lib.hid g1
  have OB := Lib.hid ob
  have s2 := g1.size
  clear bel g1 ob hrow HX1
  go_wp2_with fail
  refine (LendInts_any Y q f0 f _ (HY.out.grown (Nat.le_refl _) G.out) G.out.size HNIY.out (by omega)).mono ?_
  rintro e w3 ⟨gm, cm, rfl, hcm, hrow, bel⟩
  have k := grown_of_below bel
  have s3 := k.size
  have RY := Lib.hid hrow
  have G := Lib.hid (grown_trans G.out k)
  have OB := Lib.hid (OB.out.kept k)
  have RX := Lib.hid ((RX.out.grown (Nat.le_refl _) k).wide s3)
  clear hrow bel k
  obtain ⟨p0, p1⟩ := OB.out.two
  go_wp2_with fail
  refine (Value_any V s A n c L (some ⟨gm, 0, none⟩) q cm f _ (HR.out.grown (Nat.le_refl _) G.out) G.out.size (RY.out.unmark HLY.out) (Nat.le_refl _)).mono ?_
  rintro e w4 ⟨he, k⟩
  unfold valV at he
  subst he
  have s4 := k.size
  have G := Lib.hid (grown_trans G.out k)
  have OB := Lib.hid (OB.out.kept k)
  have RY := Lib.hid ((RY.out.grown (Nat.le_refl _) k).wide s4)
  have RX := Lib.hid ((RX.out.grown (Nat.le_refl _) k).wide s4)
  clear k p0 p1
  obtain ⟨p0, p1⟩ := OB.out.two
  go_wp2_with fail
  refine (RValue_any V s A n c L Y q f0 f _ (HR.out.grown (Nat.le_refl _) G.out) G.out.size (HY.out.grown (Nat.le_refl _) G.out) G.out.size).mono ?_
  rintro e w5 ⟨he, k⟩
  unfold valV at he
  subst he
  have s5 := k.size
  have G := Lib.hid (grown_trans G.out k)
  have OB := Lib.hid (OB.out.kept k)
  have RY := Lib.hid ((RY.out.grown (Nat.le_refl _) k).wide s5)
  have RX := Lib.hid ((RX.out.grown (Nat.le_refl _) k).wide s5)
  clear k p0 p1
  obtain ⟨p0, p1⟩ := OB.out.two
  generalize valX V L f s = vx at *
  generalize valE V L f s = ve at *
  go_wp2_with fail
  refine (SRoom_any V a A n c L (some ⟨gl, 0, none⟩) p cl caps (some ⟨gm, 0, none⟩) q cm f _ (HR.out.grown (Nat.le_refl _) G.out) G.out.size (RX.out.unmark HLX.out) (Nat.le_refl _) (RY.out.unmark HLY.out) (Nat.le_refl _)).mono ?_
  rintro e w6 ⟨he, k⟩
  unfold roomV at he
  subst he
  have s6 := k.size
  have G := Lib.hid (grown_trans G.out k)
  have OB := Lib.hid (OB.out.kept k)
  have RY := Lib.hid ((RY.out.grown (Nat.le_refl _) k).wide s6)
  have RX := Lib.hid ((RX.out.grown (Nat.le_refl _) k).wide s6)
  clear k p0 p1
  obtain ⟨p0, p1⟩ := OB.out.two
  go_wp2_with fail
  refine (RRoom_any V a A n c L X p d caps Y q f0 f _ (HR.out.grown (Nat.le_refl _) G.out) G.out.size (HX.out.grown (Nat.le_refl _) G.out) G.out.size (HY.out.grown (Nat.le_refl _) G.out) G.out.size).mono ?_
  rintro e w7 ⟨he, k⟩
  unfold roomV at he
  subst he
  have s7 := k.size
  have G := Lib.hid (grown_trans G.out k)
  have OB := Lib.hid (OB.out.kept k)
  have RY := Lib.hid ((RY.out.grown (Nat.le_refl _) k).wide s7)
  have RX := Lib.hid ((RX.out.grown (Nat.le_refl _) k).wide s7)
  clear k p0 p1
  obtain ⟨p0, p1⟩ := OB.out.two
  generalize roomX V L caps f a = rx at *
  generalize roomE V L caps f a = re at *
  have G7s := G.out.size
  have HG7 := Lib.hid (HR.out.grown (Nat.le_refl _) G.out)
  have HX7 := Lib.hid (HX.out.grown (Nat.le_refl _) G.out)
  have HY7 := Lib.hid (HY.out.grown (Nat.le_refl _) G.out)
  have C1 : Hid (∀ wx : World, w7.grownBy wx none → Calls Try.prog 49 #[.agg #[.int .i64 V, .slice A n c], .slice (some ⟨gl, 0, none⟩) p cl, .slice (some ⟨gm, 0, none⟩) q cm, .int .i64 s, .int .i64 t] wx (Says wx (.bool (flowB V L caps f s t)))) :=
    fun wx k => FMay_any V s t A n c L (some ⟨gl, 0, none⟩) p cl caps (some ⟨gm, 0, none⟩) q cm f wx (HG7.out.grown G7s k) (by have := k.size; omega) ((RX.out.unmark HLX.out).grown (Nat.le_refl _) k) k.size ((RY.out.unmark HLY.out).grown (Nat.le_refl _) k) k.size
  have C2 : Hid (∀ wx : World, w7.grownBy wx none → Calls Try.prog 50 #[.agg #[.int .i64 V, .slice A n c], .slice X p d, .slice Y q f0, .int .i64 s, .int .i64 t] wx (Says wx (.bool (flowB V L caps f s t)))) :=
    fun wx k => RFlow_any V s t A n c L X p d caps Y q f0 f wx (HG7.out.grown G7s k) (by have := k.size; omega) (HX7.out.grown G7s k) (by have := k.size; omega) (HY7.out.grown G7s k) (by have := k.size; omega)
  have C3 : Hid (∀ wx : World, w7.grownBy wx none → Calls Try.prog 30 #[.slice (some ⟨gl, 0, none⟩) p cl, .slice X p d] wx (Says wx (.bool true))) :=
    fun wx k => kept_says (KeptInts_any gl p cl caps X d wx (RX.out.grown (Nat.le_refl _) k) HLX.out hcl (HX7.out.grown G7s k))
  have C4 : Hid (∀ wx : World, w7.grownBy wx none → Calls Try.prog 30 #[.slice (some ⟨gm, 0, none⟩) q cm, .slice Y q f0] wx (Says wx (.bool true))) :=
    fun wx k => kept_says (KeptInts_any gm q cm f Y f0 wx (RY.out.grown (Nat.le_refl _) k) HLY.out hcm (HY7.out.grown G7s k))
  clear HG7 HX7 HY7
  generalize flowB V L caps f s t = mp at *
  have q1 : (vx == vx) = true := by simp
  have q2 : (ve == ve) = true := by simp
  have q3 : (rx == rx) = true := by simp
  have q4 : (re == re) = true := by simp
  have q5 : (mp == mp) = true := by simp
  have hS : (fun w' : World => w'.cell? ⟨w.heap.size, 0, none⟩ = some (.int .i64 V) ∧ w'.cell? ⟨w.heap.size, 1, none⟩ = some (.slice A n c)) w7 := ⟨p0, p1⟩
  have HS := Lib.hid hS
  have GK := Lib.hid (World.grownBy.refl w7 none)
  clear hS RX RY
  go_upto_region 6 with fail
  go_region_held3 (fun w' : World => w'.cell? ⟨w.heap.size, 0, none⟩ = some (.int .i64 V) ∧ w'.cell? ⟨w.heap.size, 1, none⟩ = some (.slice A n c))
    (exact HS.out)
    (first
      | (go_at_call 48; refine (awake9_any _).mono ?_; rintro e w8 ⟨rfl, g⟩; have GK : Hid (w7.grownBy w8 none) := (by first | exact grown_trans GK.out g | exact grown_trans (grown_drew GK.out) g | exact grown_trans (grown_drewN GK.out _) g); have HS := Lib.hid (held2 g HS.out); clear g)
      | (go_at_call 49; refine (C1.out _ (by first | exact GK.out | exact grown_drew GK.out | exact grown_drewN GK.out _)).mono ?_; rintro e w8 ⟨rfl, g⟩; have GK : Hid (w7.grownBy w8 none) := (by first | exact grown_trans GK.out g | exact grown_trans (grown_drew GK.out) g | exact grown_trans (grown_drewN GK.out _) g); have HS := Lib.hid (held2 g HS.out); clear g)
      | (go_at_call 50; refine (C2.out _ (by first | exact GK.out | exact grown_drew GK.out | exact grown_drewN GK.out _)).mono ?_; rintro e w8 ⟨rfl, g⟩; have GK : Hid (w7.grownBy w8 none) := (by first | exact grown_trans GK.out g | exact grown_trans (grown_drew GK.out) g | exact grown_trans (grown_drewN GK.out _) g); have HS := Lib.hid (held2 g HS.out); clear g)
      | (go_at_call 20; refine (num_says _ _).mono ?_; rintro e w8 ⟨rfl, g⟩; have GK : Hid (w7.grownBy w8 none) := (by first | exact grown_trans GK.out g | exact grown_trans (grown_drew GK.out) g | exact grown_trans (grown_drewN GK.out _) g); have HS := Lib.hid (held2 g HS.out); clear g)
      | (go_at_call 30; refine (C3.out _ (by first | exact GK.out | exact grown_drew GK.out | exact grown_drewN GK.out _)).mono ?_; clear C3; rintro e w8 ⟨rfl, g⟩; have GK : Hid (w7.grownBy w8 none) := (by first | exact grown_trans GK.out g | exact grown_trans (grown_drew GK.out) g | exact grown_trans (grown_drewN GK.out _) g); have HS := Lib.hid (held2 g HS.out); clear g)
      | (go_at_call 30; refine (C4.out _ (by first | exact GK.out | exact grown_drew GK.out | exact grown_drewN GK.out _)).mono ?_; rintro e w8 ⟨rfl, g⟩; have GK : Hid (w7.grownBy w8 none) := (by first | exact grown_trans GK.out g | exact grown_trans (grown_drew GK.out) g | exact grown_trans (grown_drewN GK.out _) g); have HS := Lib.hid (held2 g HS.out); clear g))
  go_wp2
  go_ret
  exact ⟨rfl, below_of (grown_trans G.out (by first | exact GK.out | exact grown_drew GK.out | exact grown_drewN GK.out _))⟩

end Go.Proofs.Ytmodkhcfihlhgaa
