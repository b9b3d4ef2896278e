/-
  begin, Row; the reference's Tail, Head, Row.
-/
import Derived.Test.YtefgnaldiggnnaaGraphLawB
import Derived.Test.YtefgnaldiggnnaaJA
set_option maxRecDepth 20000
namespace Go.Proofs.Ytefgnaldiggnnaa
open Go.RowKit

def BegPost (w : World) (xs : List Int) (e : Ending) (w' : World) : Prop :=
  ∃ v, e = .returned v ∧ Mine w' w.heap.size v xs.length xs ∧ w.grownBy w' none

def BegRel (w : World) (V : Int) (A : Option Addr) (n c : Nat) (ls : List Lk) (x : Int) (o i : Value) (wr : World) : Prop :=
  ∃ k : Nat, k ≤ n ∧ i = .int .i64 (k : Nat) ∧ w.grownBy wr none ∧ Own wr w.heap.size 24 [.int .i64 V, .slice A n c] ∧ Mine wr (w.heap.size + 1) o (rowA ls x (2 * k)).length (rowA ls x (2 * k))

end Go.Proofs.Ytefgnaldiggnnaa
