/-
  CopyGraph, SameGraph.
-/
import Derived.Test.YtppcncblmakekaaGraphE
set_option maxRecDepth 20000
namespace Go.Proofs.Ytppcncblmakekaa
open Go.RowKit

theorem far {w w' : World} {row : Option Nat} {b i : Nat} {v : Value} (h : w.grownBy w' row) (hr : row ≠ some b) (k : w.cell? ⟨b, i, none⟩ = some v) : w'.cell? ⟨b, i, none⟩ = some v :=
  (grown_cell h (block_lt k) hr).trans k

def CopyGPost (w : World) (V : Int) (n : Nat) (ls : List Lk) (e : Ending) (w' : World) : Prop :=
  ∃ v, e = .returned (.agg #[.int .i64 V, v]) ∧ MineE linkE w' w.heap.size v n ls ∧ w.grownBy w' none

def SameGRel (w : World) (V : Int) (A A' : Option Addr) (n c c' : Nat) (i : Value) (wr : World) : Prop :=
  ∃ k : Nat, k ≤ n ∧ i = .int .i64 (k : Nat) ∧ w.grownBy wr none ∧ Own wr w.heap.size 24 [.int .i64 V, .slice A n c] ∧ Own wr (w.heap.size + 1) 24 [.int .i64 V, .slice A' n c']

end Go.Proofs.Ytppcncblmakekaa
