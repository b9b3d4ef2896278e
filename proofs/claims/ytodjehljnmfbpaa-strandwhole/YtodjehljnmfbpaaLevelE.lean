/-
  The reference's Levels.
-/
import Derived.Test.YtodjehljnmfbpaaLevelD
set_option maxRecDepth 20000
namespace Go.Proofs.Ytodjehljnmfbpaa
open Go.RowKit

theorem lvIs_no {V : Int} {ls : List Lk} {caps f : List Int} {s : Int} {M : List Int} {z : Int} (h : LvIs V ls caps f s M z) (k : lvB V ls caps f s = false) : M = [] ∧ z = 1000 := by
  rcases h with ⟨h1, _⟩ | ⟨_, h2, h3⟩
  · rw [k] at h1; cases h1
  · exact ⟨h3, h2⟩

theorem lvIs_yes {V : Int} {ls : List Lk} {caps f : List Int} {s : Int} {M : List Int} {z : Int} (h : LvIs V ls caps f s M z) (k : lvB V ls caps f s = true) : z = 0 ∧ IsLv V.toNat (Leads ls caps f (2 * ls.length)) s M := by
  rcases h with ⟨_, h2, h3⟩ | ⟨h1, _⟩
  · exact ⟨h2, h3⟩
  · rw [k] at h1; cases h1

theorem rep_set {n k : Nat} {x : Int} (h : k < n) : (repL n k x).set k (.int .i64 x) = repL n (k + 1) x := by
  unfold repL
  rw [ints_set]
  congr 1
  rw [List.set_append_right _ _ (by simp), List.length_replicate, Nat.sub_self]
  obtain ⟨m, hm⟩ : ∃ m, n - k = m + 1 := ⟨n - k - 1, by omega⟩
  rw [hm, List.replicate_succ, List.set_cons_zero, show n - (k + 1) = m by omega, List.replicate_succ', List.append_assoc]
  rfl

def FillRel (w : World) (p g vn : Nat) (A : Option Addr) (n c : Nat) (i : Value) (wr : World) : Prop :=
  ∃ k : Nat, k ≤ vn ∧ i = .int .i64 (k : Nat) ∧ w.grownBy wr none ∧ Own wr p 24 [.int .i64 (vn : Nat), .slice A n c] ∧ Own wr g 3 (repL vn k (-1))

def RnRel (w : World) (p g vn : Nat) (A : Option Addr) (n c : Nat) (ls : List Lk) (caps f M : List Int) (i : Value) (wr : World) : Prop :=
  ∃ (t : Nat) (R : List Int), t ≤ vn ∧ i = .int .i64 (t : Nat) ∧ w.grownBy wr none ∧ Own wr p 24 [.int .i64 (vn : Nat), .slice A n c] ∧ Own wr g 3 (ints R) ∧ Rnd vn ls caps f M R t 0

def RnIn (w : World) (p g vn : Nat) (A : Option Addr) (n c : Nat) (ls : List Lk) (caps f M : List Int) (t : Nat) (i : Value) (wr : World) : Prop :=
  ∃ (k : Nat) (R : List Int), k ≤ 2 * n ∧ i = .int .i64 (k : Nat) ∧ w.grownBy wr none ∧ Own wr p 24 [.int .i64 (vn : Nat), .slice A n c] ∧ Own wr g 3 (ints R) ∧ Rnd vn ls caps f M R t k

theorem lv_none {w w' : World} {V : Int} {ls : List Lk} {caps f : List Int} {s : Int} {M : List Int} {z : Int} (h : LvIs V ls caps f s M z) (k : lvB V ls caps f s = false) (g : w.grownBy w' none) : SelPost w M z (.returned (.tuple #[.slice none 0 0, .int .i64 1000])) w' := by
  obtain ⟨rfl, rfl⟩ := lvIs_no h k
  exact ⟨_, rfl, Mine.nil _ _, g⟩

end Go.Proofs.Ytodjehljnmfbpaa
