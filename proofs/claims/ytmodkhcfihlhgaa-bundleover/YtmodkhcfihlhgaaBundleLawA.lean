/-
  The law BundleOver, walked.
-/
import Derived.Test.YtmodkhcfihlhgaaBundleG
namespace Go.Proofs.Ytmodkhcfihlhgaa
open Go.RowKit

def psO (x y : Int) : List Pth := [(x, [0]), (y, [0, 1])]

theorem over_form {x y : Int} (hx : 0 ≤ x ∧ x ≤ 4611686018427387904) (hy : 0 ≤ y ∧ y ≤ 4611686018427387904) : formB 3 smallL (psO x y) = true := by
  have a : rateB x = true := by simp [rateB, hx]
  have b : rateB y = true := by simp [rateB, hy]
  have c : linksR 3 [0] = true := by decide
  have d : linksR 3 [0, 1] = true := by decide
  have e : soundL 3 (psO x y) = true := by simp [soundL, psO, soundB, a, b, c, d]
  exact formB_yes (by decide) (by simp [psO]) e

theorem over_loads (x y : Int) : loadsQ 3 (pairsOf (psO x y)) = [x + y, y, 0] := by
  have h : pairsOf (psO x y) = [(x, 0), (y, 0), (y, 1)] := rfl
  rw [h]
  have e : List.range 3 = [0, 1, 2] := by decide
  simp [loadsQ, e, loadQ]

theorem over_just {x : Int} (h1 : 1 ≤ x) (h2 : x ≤ 4611686018427387904) : loadsV 3 smallL (psO x (4611686018427387904 - x)) = [4611686018427387904, 4611686018427387904 - x, 0] ∧ loadsE 3 smallL (psO x (4611686018427387904 - x)) = 0 := by
  have hf := over_form (x := x) (y := 4611686018427387904 - x) ⟨by omega, h2⟩ ⟨by omega, by omega⟩
  have e := over_loads x (4611686018427387904 - x)
  have s : x + (4611686018427387904 - x) = 4611686018427387904 := by omega
  rw [s] at e
  have k : fineL 3 (pairsOf (psO x (4611686018427387904 - x))) = true := by
    rw [fineL, e]
    simp; omega
  have := loads_goes hf k
  exact ⟨this.2.trans e, this.1⟩

theorem over_more {x : Int} (h1 : 1 ≤ x) (h2 : x ≤ 4611686018427387904) : loadsE 3 smallL (psO x (4611686018427387904 - x + 1)) = 701 ∧ fitV 3 smallL [0, 0, 0] (psO x (4611686018427387904 - x + 1)) = .tuple #[.bool false, .int .i64 701] := by
  have hf := over_form (x := x) (y := 4611686018427387904 - x + 1) ⟨by omega, h2⟩ ⟨by omega, by omega⟩
  have e := over_loads x (4611686018427387904 - x + 1)
  have k : fineL 3 (pairsOf (psO x (4611686018427387904 - x + 1))) = false := by
    rw [fineL, e]
    simp; omega
  have a := (loads_over hf k).1
  have c : capsB smallL [0, 0, 0] = true := by decide
  have f := fits_err (V := 3) c (ps := psO x (4611686018427387904 - x + 1)) (by rw [a]; decide)
  refine ⟨a, ?_⟩
  rw [fitV, f.2, f.1, a]

/-- What BundleOver carries from world to world: its small graph's links, the boxes of the graph and of p, p's links. -/
structure SO (w0 : World) (x : Int) (gs gg gp b0 : Nat) (w : World) : Prop where
  g : w0.grownBy w none
  l : Own w gs 87 (linkE.flat smallL)
  b : Own w gg 24 [.int .i64 3, .slice (some ⟨gs, 0, none⟩) 3 3]
  p : Own w gp 51 [.int .i64 x, .slice (some ⟨b0, 0, none⟩) 1 1]
  z : Own w b0 3 (ints [0])

theorem SO.kept {w0 w w' : World} {x : Int} {gs gg gp b0 : Nat} (h : SO w0 x gs gg gp b0 w) (k : w.grownBy w' none) : SO w0 x gs gg gp b0 w' := ⟨grown_trans h.g k, h.l.kept k, h.b.kept k, h.p.kept k, h.z.kept k⟩

theorem Own.lit2 {w : World} {T : TypeId} {vs : Array Value} {g : Nat} (us : List Value) (hg : g = w.heap.size) (hv : vs = us.toArray) : Own (w.alloc (.cells vs T)) g T us := by
  subst hg hv
  exact Own.new w T us

theorem SO.two {w0 w : World} {x y : Int} {gs gg gp b0 g1 g2 : Nat} (h : SO w0 x gs gg gp b0 w) (hx : bdB x = true) (hy : bdB y = true) (e1 : g1 = w.heap.size) (e2 : g2 = w.heap.size + 1) :
    Pths ((w.alloc (.cells #[.int .i64 0, .int .i64 1] 3)).alloc (.cells #[.int .i64 x, .slice (some ⟨b0, 0, none⟩) 1 1, .int .i64 y, .slice (some ⟨g1, 0, none⟩) 2 2] 51)) (g2 + 1) (some ⟨g2, 0, none⟩) 2 (psO x y) := by
  subst e1 e2
  have h1 := pths2 (w := (w.alloc (.cells #[.int .i64 0, .int .i64 1] 3)).alloc (.cells #[.int .i64 x, .slice (some ⟨b0, 0, none⟩) 1 1, .int .i64 y, .slice (some ⟨w.heap.size, 0, none⟩) 2 2] 51)) (g := w.heap.size + 1) (b1 := b0) (b2 := w.heap.size) (r1 := x) (r2 := y) (x1 := [0]) (x2 := [0, 1]) (n1 := 1) (n2 := 2)
    (Own.lit2 _ (by simp) rfl) ((h.z.alloc _).alloc _) ((Own.lit2 (ints [0, 1]) rfl rfl).alloc _) rfl rfl (by decide) (by decide) (by decide) (by decide) hx hy
  have e : ((w.alloc (.cells #[.int .i64 0, .int .i64 1] 3)).alloc (.cells #[.int .i64 x, .slice (some ⟨b0, 0, none⟩) 1 1, .int .i64 y, .slice (some ⟨w.heap.size, 0, none⟩) 2 2] 51)).heap.size = w.heap.size + 1 + 1 := by simp
  rw [e] at h1
  exact h1

set_option maxHeartbeats 2000000 in
theorem BundleOver_walk (x : Int) (w : World) (hx : -9223372036854775808 ≤ x ∧ x ≤ 9223372036854775807) :
    Calls Try.prog 6 #[.int .i64 x] w (LawPost w) := by
  by_cases h0 : x < 1
  · go_enter Try.func6, Try.ntmps6
    go_wp2
    go_ret
    exact ⟨rfl, below_of (World.grownBy.refl _ _)⟩
  by_cases h1 : 4611686018427387904 < x
  · go_enter Try.func6, Try.ntmps6
    go_wp2
    go_ret
    exact ⟨rfl, below_of (World.grownBy.refl _ _)⟩
  have HJ := Lib.hid (over_just (x := x) (by omega) (by omega))
  have HM := Lib.hid (over_more (x := x) (by omega) (by omega))
  have HB : Hid (bdB x = true ∧ bdB (4611686018427387904 - x) = true ∧ bdB (4611686018427387904 - x + 1) = true) := by simp [Hid, bdB]; omega
  go_enter Try.func6, Try.ntmps6
  go_wp2_with fail
  refine (small7_any _).mono ?_
  rintro e w1 ⟨gs, rfl, os, _, k⟩
  have hso : SO w x gs w1.heap.size (w1.heap.size + 1 + 1) (w1.heap.size + 1) (((w1.alloc (.cells #[.int .i64 3, .slice (some ⟨gs, 0, none⟩) 3 3] 24)).alloc (.cells #[.int .i64 0] 3)).alloc (.cells #[.int .i64 x, .slice (some ⟨w1.heap.size + 1, 0, none⟩) 1 1] 51)) :=
    ⟨grown_alloc (grown_alloc (grown_alloc k _) _) _, ((os.alloc _).alloc _).alloc _, ((Own.lit2 _ rfl rfl).alloc _).alloc _, Own.lit2 _ (by simp) rfl, (Own.lit2 (ints [0]) (by simp) rfl).alloc _⟩
  have HS := Lib.hid hso
  clear hso k os
  go_upto_region 5 with fail
  generalize ((w1.alloc (.cells #[.int .i64 3, .slice (some ⟨gs, 0, none⟩) 3 3] 24)).alloc (.cells #[.int .i64 0] 3)).alloc (.cells #[.int .i64 x, .slice (some ⟨w1.heap.size + 1, 0, none⟩) 1 1] 51) = w2 at *
  generalize w1.heap.size + 1 + 1 = gp at *
  generalize w1.heap.size + 1 = b0 at *
  generalize w1.heap.size = gg at *
  obtain ⟨p0, p1⟩ := HS.out.b.two
  obtain ⟨q0, q1⟩ := HS.out.p.two
  have hl1 := HS.out.b.lt
  have hl2 := HS.out.p.lt
  go_wp2_with fail
  refine (Loads_any 3 (some ⟨gs, 0, none⟩) 3 3 smallL _ 2 2 (psO x (4611686018427387904 - x)) _ (((HS.out.l.alloc _).alloc _).lks smallL 3 rfl (by decide) rfl) (by have := HS.out.l.lt; simp; omega) (HS.out.two HB.out.1 HB.out.2.1 rfl rfl) (by simp)).mono ?_
  rintro e w3 ⟨va, he, ha, k⟩
  rw [HJ.out.2] at he
  rw [HJ.out.1] at ha
  subst he
  obtain ⟨Aa, ca, rfl, _, ra⟩ := ha.row (fun i => by have := loads_bd (V := 3) (L := smallL) (ps := psO x (4611686018427387904 - x)) i; rw [HJ.out.1] at this; omega)
  have k3 := grown_trans (grow0 _ _) (grown_trans (grow0 _ _) k)
  have HS := Lib.hid (HS.out.kept k3)
  have RA := Lib.hid ra
  clear ha ra k k3 p0 p1 q0 q1 hl1 hl2
  obtain ⟨p0, p1⟩ := HS.out.b.two
  obtain ⟨q0, q1⟩ := HS.out.p.two
  have hl1 := HS.out.b.lt
  have hl2 := HS.out.p.lt
  go_wp2_with fail
  refine (Loads_any 3 (some ⟨gs, 0, none⟩) 3 3 smallL _ 2 2 (psO x (4611686018427387904 - x + 1)) _ (((HS.out.l.alloc _).alloc _).lks smallL 3 rfl (by decide) rfl) (by have := HS.out.l.lt; simp; omega) (HS.out.two HB.out.1 HB.out.2.2 rfl rfl) (by simp)).mono ?_
  rintro e w4 ⟨vb, he, _, k⟩
  rw [HM.out.1] at he
  subst he
  have k3 := grown_trans (grow0 _ _) (grown_trans (grow0 _ _) k)
  have HS := Lib.hid (HS.out.kept k3)
  have RA := Lib.hid ((RA.out.grown (Nat.le_refl _) k3).wide k3.size)
  clear k k3 p0 p1 q0 q1 hl1 hl2
  have HCW := Lib.hid (Own.lit2 (w := w4) (T := 3) (ints [0, 0, 0]) rfl rfl)
  have HS4 := Lib.hid (HS.out.kept (grow0 w4 (.cells (ints [0, 0, 0]).toArray 3)))
  obtain ⟨p0, p1⟩ := HS.out.b.two
  obtain ⟨q0, q1⟩ := HS.out.p.two
  have hl1 := HS.out.b.lt
  have hl2 := HS.out.p.lt
  have hs3 : [4611686018427387904, 4611686018427387904 - x, 0].length = 3 := rfl
  rw [hs3] at RA
  go_wp2_with fail
  refine (Fits_any 3 (some ⟨gs, 0, none⟩) 3 3 smallL (some ⟨w4.heap.size, 0, none⟩) 3 3 [0, 0, 0] (some ⟨w4.heap.size + 1 + 1, 0, none⟩) 2 2 (psO x (4611686018427387904 - x + 1)) _ (((HS4.out.l.alloc _).alloc _).lks smallL 3 rfl (by decide) rfl) (by have := HS.out.l.lt; simp; omega) (Own.row [0, 0, 0] ((HCW.out.alloc _).alloc _) rfl (by decide) (by decide)) (by simp) (HS4.out.two HB.out.1 HB.out.2.2 (by simp) (by simp)) (by simp) (by omega)).mono ?_
  rintro e w5 ⟨he, k⟩
  rw [HM.out.2] at he
  subst he
  have k3 := grown_trans (grow0 _ _) (grown_trans (grow0 _ _) (grown_trans (grow0 _ _) k))
  have HS := Lib.hid (HS.out.kept k3)
  have RA := Lib.hid ((RA.out.grown (Nat.le_refl _) k3).wide k3.size)
  clear k k3 p0 p1 q0 q1 hl1 hl2 HCW HS4 hs3
  go_wp2_with fail
  refine (awake7_any _).mono ?_
  rintro e w6 ⟨rfl, k⟩
  have HS := Lib.hid (HS.out.kept k)
  have RA := Lib.hid ((RA.out.grown (Nat.le_refl _) k).wide k.size)
  clear k
  go_wp2_with fail
  refine (num_says _ _).mono ?_
  rintro e w7 ⟨rfl, k⟩
  have HS := Lib.hid (HS.out.kept k)
  have RA := Lib.hid ((RA.out.grown (Nat.le_refl _) k).wide k.size)
  clear k
  have HLI := Lib.hid (Own.lit2 (w := w7) (T := 3) (ints [4611686018427387904, 4611686018427387904 - x, 0]) rfl rfl)
  go_wp2_with fail
  refine (same_says (SameInts0_any Aa 3 ca [4611686018427387904, 4611686018427387904 - x, 0] _ 3 3 [4611686018427387904, 4611686018427387904 - x, 0] _ (RA.out.grown (Nat.le_refl _) (grow0 _ _)) (Own.row _ HLI.out rfl (by simp) (by simp [bdB]; omega)))).mono ?_
  rintro e w8 ⟨he, k⟩
  rw [sameB_refl] at he
  subst he
  have HS := Lib.hid (HS.out.kept (grown_trans (grow0 _ _) k))
  clear k HLI
  go_wp2_with fail
  refine (num_says _ _).mono ?_
  rintro e w9 ⟨rfl, k⟩
  have HS := Lib.hid (HS.out.kept k)
  clear k
  go_wp2_with fail
  refine (num_says _ _).mono ?_
  rintro e w10 ⟨rfl, k⟩
  have HS := Lib.hid (HS.out.kept k)
  clear k
  go_wp2
  go_ret
  exact ⟨rfl, below_of HS.out.g⟩

end Go.Proofs.Ytmodkhcfihlhgaa
