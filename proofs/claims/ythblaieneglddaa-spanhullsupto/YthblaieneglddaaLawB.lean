import Derived.Test.YthblaieneglddaaLawA
namespace Go.Proofs.Ythblaieneglddaa
open Go.RowKit

theorem grown_of_below {w w' : World} (h : Below w.heap.size w w') : w.grownBy w' none := ⟨h.os, h.tape, h.output, h.size, fun i hi _ => h.block i hi⟩

theorem MineE.own_lt {α : Type} {E : Elt α} {w : World} {base : Nat} {v : Value} {n : Nat} {xs : List α} (h : MineE E w base v n xs) : ∀ k, v.ownBlock = some k → k < w.heap.size := by
  intro k hk
  rcases h.2 with ⟨rfl, _⟩ | ⟨g, cap, cur, rfl, hb, hh, _⟩
  · simp [Value.ownBlock] at hk
  · simp only [Value.ownBlock, Option.some.injEq] at hk
    subst hk
    exact (Array.getElem?_eq_some_iff.1 hh).1

theorem MineE.kept' {α : Type} {E : Elt α} {w w' : World} {base : Nat} {v : Value} {n : Nat} {xs : List α} {row : Option Nat} (h : MineE E w base v n xs) (k : w.grownBy w' row) (hne : ∀ g, v.ownBlock = some g → row ≠ some g) : MineE E w' base v n xs := by
  obtain ⟨h1, h2⟩ := h
  refine ⟨h1, ?_⟩
  rcases h2 with h | ⟨g, cap, cur, hv, hg, hh, r⟩
  · exact .inl h
  · exact .inr ⟨g, cap, cur, hv, hg, (k.block g (Array.getElem?_eq_some_iff.1 hh).1 (fun e => hne g (by rw [hv]; rfl) e.symm)).trans hh, r⟩

theorem Row.grown' {w w' : World} {B : Nat} {A : Option Addr} {n : Nat} {xs : List Int} {row : Option Nat} (h : Row w B A n xs) (hB : B ≤ w.heap.size) (k : w.grownBy w' row) (hr : ∀ g, row = some g → B ≤ g) : Row w' B A n xs :=
  h.keep fun p hp => grown_cell k (by omega) (fun e => by have := hr _ e; omega)

theorem Own.kept' {w w' : World} {g : Nat} {T : TypeId} {vs : List Value} {row : Option Nat} (h : Own w g T vs) (k : w.grownBy w' row) (hr : row ≠ some g) : Own w' g T vs := h.keep (k.block g h.lt (fun e => hr e.symm))

theorem take_mark (ps : List Int) (n : Nat) (h : ps.length = n) : (ps ++ [-7777, -8888]).take n = ps := List.take_left' h

set_option maxHeartbeats 1000000 in
theorem SpanCuts_walk (a b : Int) (A : Option Addr) (n c : Nat) (ps : List Int) (w : World) (h : In w A n c ps) :
    Calls Try.prog 5 #[.agg #[.int .i64 a, .int .i64 b], .slice A n c] w (LawPost w) := by
  obtain ⟨hs, hnc, hc, hnil⟩ := h
  have HL := Lib.hid hs.len
  have HR := Lib.hid hs
  have HNIL := Lib.hid hnil
  have g0 := grow0 w (.cells #[.int .i64 a, .int .i64 b] 23)
  have G := Lib.hid g0
  have HR1 := Lib.hid (hs.grown (Nat.le_refl _) g0)
  have O2 := Lib.hid (Own.box (w := w) (x := .int .i64 a) (y := .int .i64 b) (T := 23))
  clear hs hnil g0
  go_enter Try.func5, Try.ntmps5
  go_wp2_with fail
  refine (LendInts_any A n c ps _ HR1.out (by simp) HNIL.out (by omega)).mono ?_
  rintro e w1 ⟨ga, ca, rfl, hca, hrow, hbel⟩
  have g1 := grown_of_below hbel
  have hsz1 := g1.size
  simp only [World.size_alloc] at hsz1
  have G := Lib.hid (grown_trans G.out g1)
  have O2 := Lib.hid (O2.out.kept g1)
  have RA := Lib.hid hrow
  have hra := hrow.head (k := n) (by omega)
  rw [take_mark ps n HL.out] at hra
  have RB := Lib.hid hra
  clear hbel hrow hra g1 HR1
  obtain ⟨c0, c1⟩ := O2.out.two
  go_wp2_with fail
  refine (Cut_any a b _ n ca ps _ RB.out (Nat.le_refl _) (by omega)).mono ?_
  rintro e w2 ⟨x, rfl, hx, g2⟩
  have hsz2 := g2.size
  have G := Lib.hid (grown_trans G.out g2)
  have O2 := Lib.hid (O2.out.kept g2)
  have RA := Lib.hid (RA.out.grown (Nat.le_refl _) g2)
  have RB := Lib.hid (RB.out.grown (Nat.le_refl _) g2)
  have HX := Lib.hid hx
  clear hx g2 c0 c1
  obtain ⟨c0, c1⟩ := O2.out.two
  go_wp2_with fail
  refine (CutAt_any a b A n c ps _ (HR.out.grown (Nat.le_refl _) G.out) G.out.size).mono ?_
  rintro e w3 ⟨y, rfl, hy, g3⟩
  have hsz3 := g3.size
  have G := Lib.hid (grown_trans G.out g3)
  have O2 := Lib.hid (O2.out.kept g3)
  have RA := Lib.hid (RA.out.grown hsz2 g3)
  have RB := Lib.hid (RB.out.grown hsz2 g3)
  have HXL := Lib.hid HX.out.own_lt
  have HX := Lib.hid (HX.out.kept g3)
  have HY := Lib.hid hy
  obtain ⟨Ax, cx, rfl, _, _, hxr⟩ := HX.out.row
  obtain ⟨Ay, cy, rfl, _, _, hyr⟩ := hy.row
  have XR := Lib.hid hxr
  have YR := Lib.hid hyr
  have hss : sameS (cutL a b ps) (cutL a b ps) = true := by simp [sameS]
  have HSS := Lib.hid hss
  clear hy g3 c0 c1 hxr hyr hss
  go_wp2_with fail
  refine (SameSpans_any Ax _ cx _ Ay _ cy _ _ XR.out YR.out).mono ?_
  rintro e w4 ⟨rfl, j, rfl⟩
  rw [HSS.out]
  have g4 := grown_drewN (World.grownBy.refl w3 none) j
  have G := Lib.hid (grown_trans G.out g4)
  have O2 := Lib.hid (O2.out.kept g4)
  have RA := Lib.hid (RA.out.grown (by omega) g4)
  have RB := Lib.hid (RB.out.grown (by omega) g4)
  have HX := Lib.hid (HX.out.kept g4)
  have HY := Lib.hid (HY.out.kept g4)
  have hsz4 : w3.heap.size ≤ (w3.drewN j).heap.size := Nat.le_refl _
  clear g4 XR YR
  generalize w3.drewN j = w4 at *
  go_wp2_with fail
  refine (Num_any _ _).mono ?_
  rintro e w5 ⟨rfl, rfl⟩
  go_wp2_with fail
  refine (SpoilSpans_any _ _ _ _ HX.out).mono ?_
  rintro e w5 ⟨rfl, g5⟩
  have hsz5 := g5.size
  have G := Lib.hid (grown_none G.out g5 (fun g hg => by have := HX.out.own_ge g hg; omega))
  have O2 := Lib.hid (O2.out.kept' g5 (fun e => by have := HX.out.own_ge _ e; omega))
  have RA := Lib.hid (RA.out.grown' (by omega) g5 (fun g hg => HX.out.own_ge g hg))
  have RB := Lib.hid (RB.out.grown' (by omega) g5 (fun g hg => HX.out.own_ge g hg))
  have HY := Lib.hid (HY.out.kept' g5 (fun g hg e => by have := HY.out.own_ge g hg; have := HXL.out g e; omega))
  clear g5 HX HXL
  obtain ⟨c0, c1⟩ := O2.out.two
  go_wp2_with fail
  refine (Cut_any a b _ n ca ps _ RB.out (by omega) (by omega)).mono ?_
  rintro e w6 ⟨v, rfl, hz, g6⟩
  have hsz6 := g6.size
  have G := Lib.hid (grown_trans G.out g6)
  have RA := Lib.hid (RA.out.grown (by omega) g6)
  have RB := Lib.hid (RB.out.grown (by omega) g6)
  have HY := Lib.hid (HY.out.kept g6)
  have HZ := Lib.hid hz
  clear hz g6 c0 c1 O2
  go_wp2_with fail
  refine (awake_any _).mono ?_
  rintro e w7 ⟨rfl, g7⟩
  have hsz7 := g7.size
  have G := Lib.hid (grown_trans G.out g7)
  have RA := Lib.hid (RA.out.grown (by omega) g7)
  have HY := Lib.hid (HY.out.kept g7)
  have HZ := Lib.hid (HZ.out.kept g7)
  obtain ⟨Az, cz, rfl, _, _, hzr⟩ := HZ.out.row
  have ZR := Lib.hid hzr
  obtain ⟨Ay2, cy2, hv2, _, _, hyr⟩ := HY.out.row
  injection hv2 with e1 e2 e3
  subst e1 e3
  have YR := Lib.hid hyr
  clear g7 hzr hyr RB HY HZ
  go_wp2_with fail
  refine (SameSpans_any Az _ cz _ Ay _ cy _ _ ZR.out YR.out).mono ?_
  rintro e w8 ⟨rfl, j2, rfl⟩
  rw [HSS.out]
  have g8 := grown_drewN (World.grownBy.refl w7 none) j2
  have G := Lib.hid (grown_trans G.out g8)
  have RA := Lib.hid (RA.out.grown (by omega) g8)
  clear g8 YR ZR
  generalize w7.drewN j2 = w8 at *
  go_wp2_with fail
  refine (Num_any _ _).mono ?_
  rintro e w9 ⟨rfl, rfl⟩
  go_wp2_with fail
  refine (KeptInts_any ga n ca ps A c _ RA.out HL.out (by omega) (HR.out.grown (Nat.le_refl _) G.out)).mono ?_
  rintro e w10 ⟨rfl, j3, rfl⟩
  go_wp2
  go_ret
  exact ⟨rfl, below_of (grown_drewN G.out j3)⟩

end Go.Proofs.Ythblaieneglddaa
