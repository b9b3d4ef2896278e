/-
  cut.areRising; the reference's Among.
-/
import Derived.Test.YtodjehljnmfbpaaJF
import Derived.Test.YtodjehljnmfbpaaJC
import Derived.Test.YtodjehljnmfbpaaJB
set_option maxRecDepth 20000
namespace Go.Proofs.Ytodjehljnmfbpaa
open Go.RowKit

/-- Is it above the one ahead of it? -/
def upB (vs : List Int) (i : Nat) : Bool := decide (i = 0) || decide (vs[i - 1]?.getD 0 < vs[i]?.getD 0)

theorem verts_split (V : Int) (vs : List Int) : vertsB V vs = ((List.range vs.length).all (upB vs) && allV V vs) := by
  rw [Bool.eq_iff_iff, Bool.and_eq_true]
  constructor
  · intro h
    have k := fun i (hi : i < vs.length) => verts_at h hi
    refine ⟨List.all_eq_true.2 fun i hi => ?_, allV_all fun j hj => ?_⟩
    · have := k i (List.mem_range.1 hi)
      simp only [riseB, Bool.and_eq_true] at this
      exact this.2
    · have := k j hj
      simp only [riseB, Bool.and_eq_true] at this
      exact this.1
  · rintro ⟨a, b⟩
    refine List.all_eq_true.2 fun i hi => ?_
    simp only [riseB, Bool.and_eq_true]
    exact ⟨allV_at b (List.mem_range.1 hi), List.all_eq_true.1 a i hi⟩

def RiseRel (w : World) (V : Int) (A : Option Addr) (n c m : Nat) (vs : List Int) (i : Value) (wr : World) : Prop :=
  ∃ k : Nat, k ≤ m ∧ i = .int .i64 (k : Nat) ∧ w.grownBy wr none ∧ Own wr w.heap.size 24 [.int .i64 V, .slice A n c] ∧ (List.range k).all (riseB V vs) = true

theorem rise_isV {V : Int} {vs : List Int} {k : Nat} (h : isV V (vs[k]?.getD 0) = false) : riseB V vs k = false := by simp [riseB, h]
theorem rise_zero {V : Int} {vs : List Int} (h : isV V (vs[0]?.getD 0) = true) : riseB V vs 0 = true := by simp [riseB]; simpa using h
theorem rise_next {V : Int} {vs : List Int} {j : Nat} (h : isV V (vs[j + 1]?.getD 0) = true) : riseB V vs (j + 1) = decide (vs[j]?.getD 0 < vs[j + 1]?.getD 0) := by simp [riseB, h]
theorem rise_more {V : Int} {vs : List Int} {k : Nat} (h : (List.range k).all (riseB V vs) = true) (e : riseB V vs k = true) : (List.range (k + 1)).all (riseB V vs) = true := by rw [range_next, h, e]; rfl

def UpRel (w : World) (V : Int) (A : Option Addr) (n c m : Nat) (vs : List Int) (i : Value) (wr : World) : Prop :=
  ∃ k : Nat, k ≤ m ∧ i = .int .i64 (k : Nat) ∧ w.grownBy wr none ∧ Own wr w.heap.size 24 [.int .i64 V, .slice A n c] ∧ (List.range k).all (upB vs) = true

theorem up_next {vs : List Int} {j : Nat} : upB vs (j + 1) = decide (vs[j]?.getD 0 < vs[j + 1]?.getD 0) := by simp [upB]
theorem up_more {vs : List Int} {k : Nat} (h : (List.range k).all (upB vs) = true) (e : upB vs k = true) : (List.range (k + 1)).all (upB vs) = true := by rw [range_next, h, e]; rfl
theorem up_stop {V : Int} {vs : List Int} {k : Nat} (h : k < vs.length) (e : upB vs k = false) : vertsB V vs = false := by rw [verts_split, range_stop h e]; rfl

def AmRel (w : World) (n : Nat) (x : Int) (xs : List Int) (i : Value) (wr : World) : Prop :=
  ∃ k : Nat, k ≤ n ∧ i = .int .i64 (k : Nat) ∧ w.grownBy wr none ∧ ∀ j, j < k → ¬ xs[j]?.getD 0 = x

theorem am_yes {x : Int} {xs : List Int} {k : Nat} (h : k < xs.length) (e : xs[k]?.getD 0 = x) : decide (x ∈ xs) = true := by
  rw [List.getElem?_eq_getElem h, Option.getD_some] at e
  subst e
  simp
theorem am_no {x : Int} {xs : List Int} (h : ∀ j, j < xs.length → ¬ xs[j]?.getD 0 = x) : decide (x ∈ xs) = false := by
  simp only [decide_eq_false_iff_not]
  intro hx
  obtain ⟨i, hi, e⟩ := List.getElem_of_mem hx
  exact h i hi (by rw [List.getElem?_eq_getElem hi, Option.getD_some]; exact e)

end Go.Proofs.Ytodjehljnmfbpaa
