/-
  The law Graphs, walked.
-/
import Derived.Test.YtefgnaldiggnnaaGraphG
set_option maxRecDepth 20000
namespace Go.Proofs.Ytefgnaldiggnnaa
open Go.RowKit

theorem held4 {w w1 : World} {k k1 : Nat} {x0 x1 x2 x3 : Value} (g : w.grownBy w1 none) (h : (fun w' : World => w'.cell? ⟨k, 0, none⟩ = some x0 ∧ w'.cell? ⟨k, 1, none⟩ = some x1 ∧ w'.cell? ⟨k1, 0, none⟩ = some x2 ∧ w'.cell? ⟨k1, 1, none⟩ = some x3) w) :
    (fun w' : World => w'.cell? ⟨k, 0, none⟩ = some x0 ∧ w'.cell? ⟨k, 1, none⟩ = some x1 ∧ w'.cell? ⟨k1, 0, none⟩ = some x2 ∧ w'.cell? ⟨k1, 1, none⟩ = some x3) w1 :=
  ⟨kept g h.1, kept g h.2.1, kept g h.2.2.1, kept g h.2.2.2⟩

theorem Mine.own_lt {w : World} {base : Nat} {v : Value} {n : Nat} {xs : List Int} (h : Mine w base v n xs) : ∀ k, v.ownBlock = some k → k < w.heap.size := by
  intro k hk
  rcases h.2 with ⟨rfl, _⟩ | ⟨g, cap, cur, rfl, hb, hh, _⟩
  · simp [Value.ownBlock] at hk
  · simp only [Value.ownBlock, Option.some.injEq] at hk
    subst hk
    exact (Array.getElem?_eq_some_iff.1 hh).1

theorem Mine.kept' {w w' : World} {base : Nat} {v : Value} {n : Nat} {xs : List Int} {row : Option Nat} (h : Mine w base v n xs) (k : w.grownBy w' row) (hne : ∀ g, v.ownBlock = some g → row ≠ some g) : Mine w' base v n xs := by
  obtain ⟨h1, h2⟩ := h
  refine ⟨h1, ?_⟩
  rcases h2 with h | ⟨g, cap, cur, hv, hg, hh, r⟩
  · exact .inl h
  · exact .inr ⟨g, cap, cur, hv, hg, (k.block g (Array.getElem?_eq_some_iff.1 hh).1 (fun e => hne g (by rw [hv]; rfl) e.symm)).trans hh, r⟩

theorem Lks.grown' {w w' : World} {B : Nat} {A : Option Addr} {n : Nat} {ls : List Lk} {row : Option Nat} (h : Lks w B A n ls) (hB : B ≤ w.heap.size) (k : w.grownBy w' row) (hr : ∀ g, row = some g → B ≤ g) : Lks w' B A n ls :=
  ⟨h.row.keep fun p hp => grown_cell k (by omega) (fun e => by have := hr _ e; omega), h.ok⟩

theorem same_says {f : FuncId} {args : Array Value} {w : World} {q : Bool} (h : Calls Try.prog f args w (SamePost w q)) : Calls Try.prog f args w (Says w (.bool q)) :=
  h.mono fun _ _ ⟨he, j, hw⟩ => ⟨he, hw ▸ grown_drewN (World.grownBy.refl w none) j⟩

theorem num_says (x : Int) (w : World) : Calls Try.prog 12 #[.int .i64 x] w (Says w (.int .i64 x)) :=
  (Num0_any x w).mono fun _ _ ⟨he, hw⟩ => ⟨he, hw ▸ World.grownBy.refl w none⟩

theorem grown_more {a b c : World} {row : Option Nat} (h : a.grownBy b none) (k : b.grownBy c row) : a.grownBy c row :=
  ⟨k.os.trans h.os, k.tape.trans h.tape, k.output.trans h.output, Nat.le_trans h.size k.size, fun i hi hne => (k.block i (Nat.lt_of_lt_of_le hi h.size) hne).trans (h.block i hi (by simp))⟩

theorem sameB_refl (xs : List Int) : sameB xs xs = true := by simp [sameB]

end Go.Proofs.Ytefgnaldiggnnaa
