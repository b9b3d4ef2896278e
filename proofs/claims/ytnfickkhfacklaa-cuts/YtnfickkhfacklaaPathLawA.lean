/-
  The law PathSimples, walked.
-/
import Derived.Test.YtnfickkhfacklaaPathG
namespace Go.Proofs.Ytnfickkhfacklaa
open Go.RowKit

theorem Row.unmark {w : World} {B : Nat} {A : Option Addr} {n : Nat} {xs : List Int} (h : Row w B A (n + 2) (xs ++ [-7777, -8888])) (hx : xs.length = n) : Row w B A n xs := by
  have := h.head (k := n) (by omega)
  rw [List.take_left' hx] at this
  exact this

end Go.Proofs.Ytnfickkhfacklaa
