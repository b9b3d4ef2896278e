/-
  Numbers that name one of so many things: within.areBelow, Verts, Links, Arcs.
-/
import Derived.Test.YtgfehlmiejnonaaGrow
import Derived.Test.YtgfehlmiejnonaaJB
set_option maxRecDepth 20000
namespace Go.Proofs.Ytgfehlmiejnonaa
open Go.RowKit

/-- A row that is read, its numbers of any size. -/
structure Raw (w : World) (X : Option Addr) (m : Nat) (xs : List Int) : Prop where
  len : xs.length = m
  small : m ≤ 9223372036854775807
  at_ : 0 < m → ∃ b off, X = some ⟨b, off, none⟩ ∧ ∀ i, i < m → w.cell? ⟨b, off + i, none⟩ = some (.int .i64 (xs[i]?.getD 0))

theorem Row.raw {w : World} {B : Nat} {X : Option Addr} {m : Nat} {xs : List Int} (h : Row w B X m xs) : Raw w X m xs :=
  ⟨h.len, h.small, fun hm => by obtain ⟨b, off, e, _, c⟩ := h.at_ hm; exact ⟨b, off, e, c⟩⟩

theorem Raw.kept {w w' : World} {X : Option Addr} {m : Nat} {xs : List Int} (h : Raw w X m xs) (k : w.grownBy w' none) : Raw w' X m xs :=
  ⟨h.len, h.small, fun hm => by obtain ⟨b, off, e, c⟩ := h.at_ hm; exact ⟨b, off, e, fun i hi => Go.Proofs.Ytgfehlmiejnonaa.kept k (c i hi)⟩⟩

theorem Raw.lit {w : World} (xs : List Int) (hl : xs.length ≤ 1000) : Raw (w.alloc (.cells (ints xs).toArray 3)) (some ⟨w.heap.size, 0, none⟩) xs.length xs := by
  refine ⟨rfl, by omega, fun _ => ⟨w.heap.size, 0, rfl, fun i hi => ?_⟩⟩
  have h := (Own.new w 3 (ints xs)).cell i
  rw [Nat.zero_add]
  exact h.trans (ints_get xs i hi)

def allV (M : Int) (xs : List Int) : Bool := xs.all (isV M)

theorem allV_one (M v : Int) : allV M [v] = isV M v := by simp [allV]
theorem allV_two (M v u : Int) : allV M [v, u] = (isV M v && isV M u) := by simp [allV]
theorem allV_stop {M : Int} {xs : List Int} {k : Nat} (h : k < xs.length) (e : isV M (xs[k]?.getD 0) = false) : allV M xs = false := by
  rw [List.getElem?_eq_getElem h, Option.getD_some] at e
  cases c : allV M xs
  · rfl
  · rw [List.all_eq_true.1 c _ (List.getElem_mem h)] at e
    cases e
theorem allV_all {M : Int} {xs : List Int} (h : ∀ j, j < xs.length → isV M (xs[j]?.getD 0) = true) : allV M xs = true := by
  refine List.all_eq_true.2 fun x hx => ?_
  obtain ⟨i, hi, e⟩ := List.getElem_of_mem hx
  have := h i hi
  rw [List.getElem?_eq_getElem hi, Option.getD_some, e] at this
  exact this
theorem allV_at {M : Int} {xs : List Int} (h : allV M xs = true) {j : Nat} (hj : j < xs.length) : isV M (xs[j]?.getD 0) = true := by
  rw [List.getElem?_eq_getElem hj, Option.getD_some]
  exact List.all_eq_true.1 h _ (List.getElem_mem hj)

theorem isV_no0 {V v : Int} (h : ¬ 0 ≤ v) : isV V v = false := by simp [isV, h]
theorem isV_no1 {V v : Int} (h : ¬ v < V) : isV V v = false := by simp [isV, h]
theorem isV_yes {V v : Int} (h : 0 ≤ v) (k : v < V) : isV V v = true := by simp [isV, h, k]

def BelRel (w : World) (m : Nat) (M : Int) (xs : List Int) (i : Value) (wr : World) : Prop :=
  ∃ k : Nat, k ≤ m ∧ i = .int .i64 (k : Nat) ∧ w.grownBy wr none ∧ ∀ j, j < k → isV M (xs[j]?.getD 0) = true

end Go.Proofs.Ytgfehlmiejnonaa
