/-
  The reference's Simple.
-/
import Derived.Test.YtmodkhcfihlhgaaPathE
namespace Go.Proofs.Ytmodkhcfihlhgaa
open Go.RowKit

def RSimRel (w : World) (L : List Lk) (s : Int) (m : Nat) (xs : List Int) (o p i : Value) (wr : World) : Prop :=
  ∃ k : Nat, k ≤ m ∧ i = .int .i64 (k : Nat) ∧ w.grownBy wr none ∧ Duo wr w.heap.size o p (simK L s (xs.take k)) (vsOf L s (simK L s (xs.take k)))

def RInRel (w : World) (kp vs : List Int) (l tv : Int) (o p j : Value) (wr : World) : Prop :=
  ∃ t : Nat, j = .int .i64 (t : Nat) ∧ w.grownBy wr none ∧
    ((t ≤ vs.length ∧ (∀ u, u < t → ¬ vs[u]?.getD 0 = tv) ∧ Duo wr w.heap.size o p (kp ++ [l]) (vs ++ [tv])) ∨
      (∃ i : Nat, idx tv vs = some i ∧ t = i + 1 ∧ Duo wr w.heap.size o p (kp.take i) (vs.take (i + 1))))

def lenOf : Value → Nat | .slice _ n _ => n | _ => 0

theorem vsOf_get (L : List Lk) (s : Int) {xs : List Int} {k : Nat} (h : k < xs.length) : (vsOf L s xs)[k + 1]?.getD 0 = tow L (xs[k]?.getD 0) := by
  simp [vsOf, List.getElem?_eq_getElem h]

theorem idx_no {x : Int} {xs : List Int} (h : ∀ j, j < xs.length → ¬ xs[j]?.getD 0 = x) : idx x xs = none := idx_none.2 (not_mem_of h)

theorem get_app {xs ys : List Int} {i : Nat} (h : i < xs.length) : (xs ++ ys)[i]?.getD 0 = xs[i]?.getD 0 := by rw [List.getElem?_append_left h]

theorem okI_app {xs : List Int} {x : Int} (h : okI xs) (hx : bd64 x) : okI (xs ++ [x]) := by
  intro i
  rcases Nat.lt_or_ge i xs.length with k | k
  · rw [get_app k]; exact h i
  · rcases Nat.eq_or_lt_of_le k with e | e
    · subst e; unfold bd64 at hx; simpa using hx
    · rw [List.getElem?_eq_none (by simp; omega)]; simp

end Go.Proofs.Ytmodkhcfihlhgaa
