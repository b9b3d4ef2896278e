/-
  small, awake.
-/
import Derived.Test.YtefgnaldiggnnaaGraphF
set_option maxRecDepth 20000
namespace Go.Proofs.Ytefgnaldiggnnaa
open Go.RowKit

def smallL : List Lk := [(0, 1, 5), (1, 2, 4), (0, 2, 3)]

def bdB (x : Int) : Bool := decide (-9223372036854775808 ≤ x) && decide (x ≤ 9223372036854775807)
def okLs (ls : List Lk) : Bool := ls.all fun l => bdB l.1 && bdB l.2.1 && bdB l.2.2

theorem bdB_ok {x : Int} (h : bdB x = true) : bd64 x := by
  simp only [bdB, Bool.and_eq_true, decide_eq_true_eq] at h
  exact h

theorem okLs_ok {ls : List Lk} (h : okLs ls = true) (i : Nat) : bd64 (at3 ls i).1 ∧ bd64 (at3 ls i).2.1 ∧ bd64 (at3 ls i).2.2 := by
  unfold at3
  by_cases hi : i < ls.length
  · rw [List.getElem?_eq_getElem hi]
    have := List.all_eq_true.1 h _ (List.getElem_mem hi)
    simp only [Bool.and_eq_true] at this
    exact ⟨bdB_ok this.1.1, bdB_ok this.1.2, bdB_ok this.2⟩
  · rw [List.getElem?_eq_none (by omega)]
    simp [bd64]

theorem Own.elts {α : Type} {E : Elt α} {w : World} {g : Nat} (xs : List α) (n : Nat) (hn : n = xs.length) (hl : xs.length ≤ 1000) (h : Own w g E.T (E.flat xs)) : Elts E w (g + 1) (some ⟨g, 0, none⟩) n xs := by
  subst hn
  refine ⟨rfl, by omega, fun _ => ⟨g, 0, rfl, by omega, fun i hi j v hv => ?_⟩⟩
  have hj : j < E.size := by
    rcases Nat.lt_or_ge j E.size with k | k
    · exact k
    · rw [List.getElem?_eq_none (by rw [E.len]; exact k)] at hv; cases hv
  rw [Nat.zero_add, h.cell, E.flat_get xs i j hj]
  rw [List.getElem?_eq_getElem hi] at hv ⊢
  exact hv

theorem Own.lks {w : World} {g : Nat} (ls : List Lk) (n : Nat) (hn : n = ls.length) (hl : ls.length ≤ 1000) (hok : okLs ls = true) (h : Own w g 42 (linkE.flat ls)) : Lks w (g + 1) (some ⟨g, 0, none⟩) n ls :=
  ⟨Own.elts (E := linkE) ls n hn hl h, okLs_ok hok⟩

def SmallPost (w : World) (e : Ending) (w' : World) : Prop :=
  ∃ g, e = .returned (.agg #[.int .i64 3, .slice (some ⟨g, 0, none⟩) 3 3]) ∧ Own w' g 42 (linkE.flat smallL) ∧ w.heap.size ≤ g ∧ w.grownBy w' none

def smallV : List Value := [.int .i64 0, .int .i64 1, .int .i64 5, .int .i64 1, .int .i64 2, .int .i64 4, .int .i64 0, .int .i64 2, .int .i64 3]

theorem small_flat : linkE.flat smallL = smallV := rfl

theorem out_small : selOf (fun l => l.1) 3 smallL 0 = [0, 2] ∧ selE 3 smallL 0 = 0 := by decide
theorem in_small : selOf (fun l => l.2.1) 3 smallL 2 = [1, 2] ∧ selE 3 smallL 2 = 0 := by decide
theorem out_small3 : selE 3 smallL 3 = 400 := by decide
theorem tot_small : totX 3 smallL = 12 ∧ totE 3 smallL = 0 ∧ mayG 3 smallL = true ∧ mayG 0 [] = false := by decide

theorem ok_of {xs : List Int} (h : xs.all bdB = true) (i : Nat) : -9223372036854775808 ≤ xs[i]?.getD 0 ∧ xs[i]?.getD 0 ≤ 9223372036854775807 := by
  by_cases hi : i < xs.length
  · rw [List.getElem?_eq_getElem hi]
    exact bdB_ok (List.all_eq_true.1 h _ (List.getElem_mem hi))
  · rw [List.getElem?_eq_none (by omega)]
    simp

end Go.Proofs.Ytefgnaldiggnnaa
