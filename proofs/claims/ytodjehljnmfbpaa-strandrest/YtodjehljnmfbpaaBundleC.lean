/-
  bundle.Loads.
-/
import Derived.Test.YtodjehljnmfbpaaBundleB
set_option maxRecDepth 20000
namespace Go.Proofs.Ytodjehljnmfbpaa
open Go.RowKit

theorem infoMeter : (Try.prog.info? 73).map (fun i => (i.zero, i.size, i.bytes)) = some (some (.agg #[.int .i64 0]), 1, 8) := by kernel_rfl

def LoRel (w : World) (gm n m : Nat) (ps : List Pth) (i : Value) (wr : World) : Prop :=
  ∃ k : Nat, k ≤ m ∧ i = .int .i64 (k : Nat) ∧ w.grownBy wr none ∧ Own wr gm 73 (ints (loadsQ n (preQ ps k 0))) ∧ fineL n (preQ ps k 0) = true

def LoIn (w : World) (gm gp n k q : Nat) (ps : List Pth) (vs : List Value) (i : Value) (wr : World) : Prop :=
  ∃ j : Nat, j ≤ q ∧ i = .int .i64 (j : Nat) ∧ w.grownBy wr none ∧ Own wr gm 73 (ints (loadsQ n (preQ ps k j))) ∧ fineL n (preQ ps k j) = true ∧ Own wr gp 48 vs

def LoOut (w : World) (gm n : Nat) (ms : List Int) (o i : Value) (wr : World) : Prop :=
  ∃ k : Nat, k ≤ n ∧ i = .int .i64 (k : Nat) ∧ w.grownBy wr none ∧ Own wr gm 73 (ints ms) ∧ Mine wr (gm + 1) o k (ms.take k)

theorem ret_sel' {v : Value} {a b : Int} (h : b = a) : Ending.returned (.tuple #[v, .int .i64 a]) = .returned (.tuple #[v, .int .i64 b]) := by rw [h]

end Go.Proofs.Ytodjehljnmfbpaa
