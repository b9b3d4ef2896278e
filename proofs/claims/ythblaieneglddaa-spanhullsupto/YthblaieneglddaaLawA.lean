import Derived.Test.YthblaieneglddaaAwake
namespace Go.Proofs.Ythblaieneglddaa
open Go.RowKit

def InS (w : World) (A : Option Addr) (n c : Nat) (xs : List (Int × Int)) : Prop := Sps w w.heap.size A n xs ∧ n ≤ c ∧ c * 16 ≤ 140737488351232 ∧ (A = none → c = 0)

def LawPost (w : World) (e : Ending) (w' : World) : Prop := e = .returned (.bool true) ∧ Below w.heap.size w w'

theorem below_of {w w' : World} (h : w.grownBy w' none) : Below w.heap.size w w' := (Below.refl w.heap.size w).grown h (Nat.le_refl _) (by simp)

theorem SpanCovers_walk (A : Option Addr) (n c : Nat) (xs : List (Int × Int)) (w : World) (h : InS w A n c xs) :
    Calls Try.prog 4 #[.slice A n c] w (LawPost w) := by
  obtain ⟨hs, hnc, hc, hnil⟩ := h
  have HR := Lib.hid hs
  have HNIL := Lib.hid hnil
  clear hs hnil
  go_enter Try.func4, Try.ntmps4
  go_wp2_with fail
  refine (CopySpans_any A n c xs _ HR.out (Nat.le_refl _) HNIL.out (by omega)).mono ?_
  rintro e w1 ⟨v, rfl, hm, hg1⟩
  obtain ⟨A1, c1, rfl, hc1, hn1, hrow⟩ := hm.row
  have G := Lib.hid hg1
  have HROW := Lib.hid hrow
  clear hm hrow hg1
  go_wp2_with fail
  refine (Cover_any A1 n c1 xs _ HROW.out (Nat.le_refl _)).mono ?_
  rintro e w2 ⟨rfl, g2⟩
  have HROW := Lib.hid (HROW.out.grown (Nat.le_refl _) g2)
  have hsz2 := g2.size
  have G := Lib.hid (grown_trans G.out g2)
  clear g2
  unfold covV span
  have O4 := Lib.hid (Own.box (w := w2) (x := .int .i64 (covP (coverOf xs)).1) (y := .int .i64 (covP (coverOf xs)).2) (T := 23))
  have g2 := grow0 w2 (.cells #[.int .i64 (covP (coverOf xs)).1, .int .i64 (covP (coverOf xs)).2] 23)
  have HROW := Lib.hid (HROW.out.grown hsz2 g2)
  have G := Lib.hid (grown_trans G.out g2)
  clear g2
  go_wp2_with fail
  refine (CoverRef_any A n c xs _ (HR.out.grown (Nat.le_refl _) G.out) G.out.size).mono ?_
  rintro e w3 ⟨rfl, g3⟩
  have HROW := Lib.hid (HROW.out.grown (by simp; omega) g3)
  have hsz3 := g3.size
  simp only [World.size_alloc] at hsz3
  have G := Lib.hid (grown_trans G.out g3)
  have O4 := Lib.hid (O4.out.kept g3)
  clear g3
  unfold covV span
  have O6 := Lib.hid (Own.box (w := w3) (x := .int .i64 (covP (coverOf xs)).1) (y := .int .i64 (covP (coverOf xs)).2) (T := 23))
  have g3 := grow0 w3 (.cells #[.int .i64 (covP (coverOf xs)).1, .int .i64 (covP (coverOf xs)).2] 23)
  have HROW := Lib.hid (HROW.out.grown (by omega) g3)
  have G := Lib.hid (grown_trans G.out g3)
  have O4 := Lib.hid (O4.out.kept g3)
  clear g3
  generalize (covP (coverOf xs)).1 = x at *
  generalize (covP (coverOf xs)).2 = y at *
  generalize covE (coverOf xs) = z at *
  go_wp2_with fail
  refine (awake_any _).mono ?_
  rintro e w4 ⟨rfl, g4⟩
  have HROW := Lib.hid (HROW.out.grown (by simp; omega) g4)
  have G := Lib.hid (grown_trans G.out g4)
  obtain ⟨c0, c1⟩ := (O4.out.kept g4).two
  obtain ⟨c2, c3⟩ := (O6.out.kept g4).two
  clear g4 O4 O6
  go_wp2_with fail
  refine (Num_any _ _).mono ?_
  rintro e w5 ⟨rfl, rfl⟩
  go_wp2_with fail
  refine (SameSpans_any A1 n _ xs A n c xs _ HROW.out (HR.out.grown (Nat.le_refl _) G.out)).mono ?_
  rintro e w6 ⟨rfl, j, rfl⟩
  have hss : sameS xs xs = true := by simp [sameS]
  rw [hss]
  go_wp2
  go_ret
  exact ⟨rfl, below_of (grown_drewN G.out j)⟩

end Go.Proofs.Ythblaieneglddaa
