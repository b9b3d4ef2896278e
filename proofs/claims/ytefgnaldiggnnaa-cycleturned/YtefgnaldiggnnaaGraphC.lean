/-
  Out and In.
-/
import Derived.Test.YtefgnaldiggnnaaGraphB
set_option maxRecDepth 20000
namespace Go.Proofs.Ytefgnaldiggnnaa
open Go.RowKit

def SelPost (w : World) (xs : List Int) (z : Int) (e : Ending) (w' : World) : Prop :=
  ∃ v, e = .returned (.tuple #[v, .int .i64 z]) ∧ Mine w' w.heap.size v xs.length xs ∧ w.grownBy w' none

def SelRel (w : World) (V : Int) (A : Option Addr) (n c : Nat) (f : Lk → Int) (ls : List Lk) (x : Int) (o i : Value) (wr : World) : Prop :=
  ∃ k : Nat, k ≤ n ∧ i = .int .i64 (k : Nat) ∧ w.grownBy wr none ∧ Own wr w.heap.size 24 [.int .i64 V, .slice A n c] ∧ Mine wr (w.heap.size + 1) o (sel f ls x k).length (sel f ls x k)

theorem sel_yes_len {f : Lk → Int} {ls : List Lk} {v : Int} {k : Nat} (h : f (at3 ls k) = v) : (sel f ls v (k + 1)).length = (sel f ls v k).length + 1 := by
  rw [sel_yes h]; simp

theorem selOf_no {f : Lk → Int} {V : Int} {ls : List Lk} {x : Int} (h : goodB V ls x = false) : selOf f V ls x = [] ∧ selE V ls x = 400 := by simp [selOf, selE, h]
theorem selOf_yes {f : Lk → Int} {V : Int} {ls : List Lk} {x : Int} (h : goodB V ls x = true) : selOf f V ls x = sel f ls x ls.length ∧ selE V ls x = 0 := by simp [selOf, selE, h]

theorem ret_sel {v : Value} {a b : Int} (h : b = a) : Ending.returned (.tuple #[v, .int .i64 a]) = .returned (.tuple #[v, .int .i64 b]) := by rw [h]

theorem Mine.wide {w : World} {base b : Nat} {v : Value} {n : Nat} {xs : List Int} (h : Mine w base v n xs) (hb : b ≤ base) : Mine w b v n xs := by
  obtain ⟨h1, h2⟩ := h
  refine ⟨h1, ?_⟩
  rcases h2 with h | ⟨g, cap, cur, hv, hg, r⟩
  · exact .inl h
  · exact .inr ⟨g, cap, cur, hv, by omega, r⟩

theorem Mine.apart {w : World} {base : Nat} {v : Value} {n : Nat} {xs : List Int} (h : Mine w (base + 1) v n xs) : v.ownBlock ≠ some base := by
  intro e
  have := h.own_ge base e
  omega

end Go.Proofs.Ytefgnaldiggnnaa
