/-
  The library's Mul of one and a small number; slices.Repeat of one number.
-/
import Derived.Test.YtodjehljnmfbpaaJC
import Derived.Laws.CopyOwn
set_option maxRecDepth 20000
namespace Go.Proofs.Ytodjehljnmfbpaa
open Go.RowKit

def MulPost (w : World) (y : Nat) (e : Ending) (w' : World) : Prop := e = .returned (.tuple #[.int .u64 0, .int .u64 (y : Nat)]) ∧ w' = w

theorem ret_mul {a b : Int} {y : Nat} (h : a = 0) (k : b = (y : Nat)) : Ending.returned (.tuple #[.int .u64 a, .int .u64 b]) = .returned (.tuple #[.int .u64 0, .int .u64 (y : Nat)]) := by rw [h, k]

theorem size3 : (Try.prog.info? 3).map (·.size) = some 1 := by kernel_rfl

def RepPost (w : World) (n : Nat) (x : Int) (e : Ending) (w' : World) : Prop := ∃ g, e = .returned (.slice (some ⟨g, 0, none⟩) n n) ∧ w.heap.size ≤ g ∧ Own w' g 3 (ints (List.replicate n x)) ∧ w.grownBy w' none

def repL (n k : Nat) (x : Int) : List Value := ints (List.replicate k x ++ List.replicate (n - k) 0)

def RepRel (w : World) (g n : Nat) (x : Int) (i : Value) (wr : World) : Prop := ∃ k : Nat, 1 ≤ k ∧ k ≤ n ∧ i = .int .i64 (k : Nat) ∧ w.grownBy wr none ∧ Own wr g 3 (repL n k x)

theorem rep_len {n k : Nat} {x : Int} (h : k ≤ n) : (repL n k x).length = n := by simp [repL, ints]; omega
theorem rep_zero (n : Nat) (x : Int) : List.replicate n (Value.int .i64 0) = repL n 0 x := by simp [repL, ints]
theorem rep_full (n : Nat) (x : Int) : repL n n x = ints (List.replicate n x) := by simp [repL]
theorem rep_splice {n k m : Nat} {x : Int} (h : k + m ≤ n) : splice (repL n k x) k (ints (List.replicate m x)) = repL n (k + m) x := by
  simp only [splice, repL, ints, List.map_append, List.map_replicate, List.length_replicate]
  rw [List.take_left' (by simp), ← List.append_assoc, List.replicate_append_replicate, List.drop_append, List.drop_eq_nil_of_le (by simp)]
  simp only [List.nil_append, List.length_replicate, List.drop_replicate]
  rw [show n - k - (k + m - k) = n - (k + m) by omega]
theorem rep_at' {n k j : Nat} {x : Int} (h : j < k) : (repL n k x)[j]? = some (.int .i64 x) := by
  rw [repL, ints_app, List.getElem?_append_left (by simp [ints_len]; exact h)]
  simp [ints, h]

end Go.Proofs.Ytodjehljnmfbpaa
