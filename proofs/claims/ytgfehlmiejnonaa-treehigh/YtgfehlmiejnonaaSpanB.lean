import Derived.Test.YtgfehlmiejnonaaSpanA
set_option maxRecDepth 20000
namespace Go.Proofs.Ytgfehlmiejnonaa
open Go.RowKit

def spAt (xs : List (Int × Int)) (i : Nat) : Int × Int := xs[i]?.getD (0, 0)

def sameS (xs ys : List (Int × Int)) : Bool := decide (xs = ys)

theorem sameS_no (xs ys : List (Int × Int)) (k : Nat) (h : spAt xs k ≠ spAt ys k) : sameS xs ys = false := by
  simp only [sameS, decide_eq_false_iff_not]
  rintro rfl
  exact h rfl

theorem sameS_len (xs ys : List (Int × Int)) (h : xs.length ≠ ys.length) : sameS xs ys = false := by
  simp only [sameS, decide_eq_false_iff_not]
  rintro rfl
  exact h rfl

theorem sameS_yes (xs ys : List (Int × Int)) (hl : xs.length = ys.length) (h : ∀ i, i < xs.length → spAt xs i = spAt ys i) : sameS xs ys = true := by
  simp only [sameS, decide_eq_true_eq]
  refine List.ext_getElem hl fun i h1 h2 => ?_
  have := h i h1
  simp only [spAt, List.getElem?_eq_getElem h1, List.getElem?_eq_getElem h2] at this
  simpa using this

def SameSPost (w : World) (q : Bool) (e : Ending) (w' : World) : Prop := e = .returned (.bool q) ∧ ∃ j, w' = w.drewN j

def SameSRel (w : World) (n : Nat) (xs ys : List (Int × Int)) (i : Value) (wr : World) : Prop :=
  ∃ k j : Nat, k ≤ n ∧ i = .int .i64 k ∧ wr = w.drewN j ∧ ∀ i, i < k → spAt xs i = spAt ys i

end Go.Proofs.Ytgfehlmiejnonaa
