/-
  The helpers of layer 14's laws: turns where it is told of a cycle; fine.
-/
import Derived.Test.YtlpohlcmjnlbhaaCycA
set_option maxRecDepth 20000
namespace Go.Proofs.Ytlpohlcmjnlbhaa
open Go.RowKit

def TnRel (w : World) (vn m : Nat) (A : Option Addr) (n c : Nat) (i : Value) (wr : World) : Prop :=
  ∃ k : Nat, k ≤ m ∧ i = .int .i64 (k : Nat) ∧ w.grownBy wr none ∧ Own wr w.heap.size 24 [.int .i64 (vn : Nat), .slice A n c]

end Go.Proofs.Ytlpohlcmjnlbhaa
