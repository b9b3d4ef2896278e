/-
  The reference's Cyclic, walked: it answers just whether there is a cycle.
-/
import Derived.Test.YtlpohlcmjnlbhaaWaysA
set_option maxRecDepth 20000
namespace Go.Proofs.Ytlpohlcmjnlbhaa
open Go.RowKit

theorem fill_led {L : List Lk} {f : List Int} {u v : Int} : Way L (lets (fillL f L.length L.length)) (2 * L.length) u v ↔ Led L f u v := by
  constructor
  · intro w
    refine w.to fun a ha h => ?_
    rw [lets, fill_at ha] at h
    have := of_decide_eq_true h
    exact ⟨this.2.1, this.2.2⟩
  · intro w
    refine w.to fun a ha h => ?_
    rw [lets, fill_at ha]
    exact decide_eq_true ⟨ha, h.1, h.2⟩

def CycRel (w : World) (vn : Nat) (A : Option Addr) (n c : Nat) (ls : List Lk) (f : List Int) (i : Value) (wr : World) : Prop :=
  ∃ k : Nat, k ≤ n ∧ i = .int .i64 (k : Nat) ∧ w.grownBy wr none ∧ Own wr w.heap.size 24 [.int .i64 (vn : Nat), .slice A n c] ∧ ∀ j, j < k → ¬ (0 < f[j]?.getD 0 ∧ Led ls f (at3 ls j).2.1 (at3 ls j).1)

def FillByRel (w : World) (vn gb : Nat) (A : Option Addr) (n c : Nat) (f : List Int) (i : Value) (wr : World) : Prop :=
  ∃ k : Nat, k ≤ n ∧ i = .int .i64 (k : Nat) ∧ w.grownBy wr none ∧ Own wr w.heap.size 24 [.int .i64 (vn : Nat), .slice A n c] ∧ Own wr gb 4 (bools (fillL f n k))

theorem held5 {w w1 : World} {b b2 b3 i j l : Nat} {x y z u v : Value} (g : w.grownBy w1 none) (h : (fun w' : World => w'.cell? ⟨b, 0, none⟩ = some x ∧ w'.cell? ⟨b, 1, none⟩ = some y ∧ w'.cell? ⟨b2, i, none⟩ = some z ∧ w'.cell? ⟨b2, j, none⟩ = some u ∧ w'.cell? ⟨b3, l, none⟩ = some v) w) :
    (fun w' : World => w'.cell? ⟨b, 0, none⟩ = some x ∧ w'.cell? ⟨b, 1, none⟩ = some y ∧ w'.cell? ⟨b2, i, none⟩ = some z ∧ w'.cell? ⟨b2, j, none⟩ = some u ∧ w'.cell? ⟨b3, l, none⟩ = some v) w1 := ⟨kept g h.1, kept g h.2.1, kept g h.2.2.1, kept g h.2.2.2.1, kept g h.2.2.2.2⟩

end Go.Proofs.Ytlpohlcmjnlbhaa
