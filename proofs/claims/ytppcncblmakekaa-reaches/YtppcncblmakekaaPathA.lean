/-
  slices.Index, slices.Contains, the reference's links and twice.
-/
import Derived.Test.YtppcncblmakekaaOwnB
import Derived.Test.YtppcncblmakekaaMathPath
set_option maxRecDepth 20000
namespace Go.Proofs.Ytppcncblmakekaa
open Go.RowKit

def IdxRel (w : World) (n : Nat) (x : Int) (xs : List Int) (i : Value) (wr : World) : Prop :=
  ∃ k : Nat, k ≤ n ∧ i = .int .i64 (k : Nat) ∧ w.grownBy wr none ∧ ∀ j, j < k → ¬ xs[j]?.getD 0 = x

def AreRel (w : World) (V : Int) (A : Option Addr) (n c m : Nat) (xs : List Int) (i : Value) (wr : World) : Prop :=
  ∃ k : Nat, k ≤ m ∧ i = .int .i64 (k : Nat) ∧ w.grownBy wr none ∧ Own wr w.heap.size 24 [.int .i64 V, .slice A n c] ∧ allL n (xs.take k) = true

theorem allV_links (n : Nat) (xs : List Int) : allV (n : Int) xs = allL n xs := rfl

def linksR (n : Nat) (xs : List Int) : Bool := decide (xs.length ≤ 64) && allL n xs

def TwiceRel (w : World) (n : Nat) (xs : List Int) (i : Value) (wr : World) : Prop :=
  ∃ k : Nat, k ≤ n ∧ i = .int .i64 (k : Nat) ∧ w.grownBy wr none ∧ noDup (xs.take k) = true

def TwiceIn (w : World) (k : Nat) (x : Int) (xs : List Int) (i : Value) (wr : World) : Prop :=
  ∃ j : Nat, j ≤ k ∧ i = .int .i64 (j : Nat) ∧ w.grownBy wr none ∧ ∀ t, t < j → ¬ xs[t]?.getD 0 = x

theorem nodup_next {xs : List Int} {k : Nat} (hk : k < xs.length) (h : noDup (xs.take k) = true) (n : ∀ t, t < k → ¬ xs[t]?.getD 0 = xs[k]?.getD 0) : noDup (xs.take (k + 1)) = true := by
  rw [nodup_step hk, h]
  have : ¬ xs[k]?.getD 0 ∈ xs.take k := not_mem_of fun j hj => by
    rw [List.length_take] at hj
    rw [List.getElem?_take_of_lt (by omega)]
    exact n j (by omega)
  simp [this]

end Go.Proofs.Ytppcncblmakekaa
