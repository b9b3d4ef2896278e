/-
  What a call leaves of a world but for some blocks.
-/
import Derived.Test.YtgfehlmiejnonaaTreeB
set_option maxRecDepth 20000
namespace Go.Proofs.Ytgfehlmiejnonaa
open Go.RowKit

/-- Nothing turned but the blocks of S. -/
structure Kpt (w w' : World) (S : Nat → Prop) : Prop where
  os : w'.os = w.os
  tape : w'.tape = w.tape
  output : w'.output = w.output
  size : w.heap.size ≤ w'.heap.size
  block : ∀ i, i < w.heap.size → ¬ S i → w'.heap[i]? = w.heap[i]?

theorem Kpt.refl (w : World) (S : Nat → Prop) : Kpt w w S := ⟨rfl, rfl, rfl, Nat.le_refl _, fun _ _ _ => rfl⟩

theorem Kpt.trans' {a b c : World} {S T : Nat → Prop} (h : Kpt a b S) (k : Kpt b c T) (hs : ∀ i, i < a.heap.size → T i → S i) : Kpt a c S :=
  ⟨k.os.trans h.os, k.tape.trans h.tape, k.output.trans h.output, Nat.le_trans h.size k.size, fun i hi h1 => (k.block i (Nat.lt_of_lt_of_le hi h.size) (fun e => h1 (hs i hi e))).trans (h.block i hi h1)⟩

theorem Kpt.trans {a b c : World} {S : Nat → Prop} (h : Kpt a b S) (k : Kpt b c S) : Kpt a c S := h.trans' k fun _ _ h => h

theorem Kpt.drewN {a w : World} {S : Nat → Prop} (h : Kpt a w S) (k : Nat) : Kpt a (w.drewN k) S := ⟨h.os, h.tape, h.output, h.size, h.block⟩
theorem Kpt.drew {a w : World} {S : Nat → Prop} (h : Kpt a w S) : Kpt a w.drew S := ⟨h.os, h.tape, h.output, h.size, h.block⟩
theorem Kpt.undrew {a w : World} {S : Nat → Prop} (h : Kpt a.drew w S) : Kpt a w S := ⟨h.os, h.tape, h.output, h.size, h.block⟩

theorem Kpt.of {a w : World} (h : a.grownBy w none) (S : Nat → Prop) : Kpt a w S := ⟨h.os, h.tape, h.output, h.size, fun i hi _ => h.block i hi (by simp)⟩
theorem Kpt.ofR {a w : World} {g : Nat} (h : a.grownBy w (some g)) {S : Nat → Prop} (hg : S g) : Kpt a w S := ⟨h.os, h.tape, h.output, h.size, fun i hi hn => h.block i hi (fun e => by injection e with e; exact hn (e ▸ hg))⟩
theorem Kpt.more {a b c : World} {S : Nat → Prop} (h : Kpt a b S) (k : b.grownBy c none) : Kpt a c S := h.trans (Kpt.of k S)
theorem Kpt.alloc {a w : World} {S : Nat → Prop} (h : Kpt a w S) (o : Obj) : Kpt a (w.alloc o) S := h.more (grow0 w o)

theorem Kpt.set {a w : World} {S : Nat → Prop} {g i : Nat} (h : Kpt a w S) (hg : S g) (u : Value) : Kpt a (w.setCell ⟨g, i, none⟩ u) S :=
  ⟨h.os, h.tape, h.output, by simpa [World.setCell] using h.size, fun k hk h1 => (Below.heap_setCell w ⟨g, i, none⟩ u k (fun e => h1 (by rw [show k = g from e]; exact hg))).trans (h.block k hk h1)⟩

theorem Kpt.set' {a w : World} {S : Nat → Prop} {g i : Nat} (h : Kpt a w S) (hg : S g ∨ a.heap.size ≤ g) (u : Value) : Kpt a (w.setCell ⟨g, i, none⟩ u) S :=
  ⟨h.os, h.tape, h.output, by simpa [World.setCell] using h.size, fun k hk h1 => (Below.heap_setCell w ⟨g, i, none⟩ u k (fun e => by
    have e : k = g := e
    subst e
    rcases hg with hg | hg
    · exact h1 hg
    · omega)).trans (h.block k hk h1)⟩

theorem Kpt.wide {a b : World} {S T : Nat → Prop} (h : Kpt a b S) (hs : ∀ i, i < a.heap.size → S i → T i) : Kpt a b T := ⟨h.os, h.tape, h.output, h.size, fun i hi hn => h.block i hi (fun e => hn (hs i hi e))⟩

theorem Kpt.grown {a b c : World} {S : Nat → Prop} (h : a.grownBy b none) (k : Kpt b c S) (hs : ∀ i, S i → a.heap.size ≤ i) : a.grownBy c none :=
  ⟨k.os.trans h.os, k.tape.trans h.tape, k.output.trans h.output, Nat.le_trans h.size k.size, fun i hi hne => (k.block i (Nat.lt_of_lt_of_le hi h.size) (fun e => by have := hs i e; omega)).trans (h.block i hi hne)⟩

theorem Kpt.own {w w' : World} {S : Nat → Prop} {g : Nat} {T : TypeId} {vs : List Value} (h : Own w g T vs) (k : Kpt w w' S) (hg : ¬ S g) : Own w' g T vs := h.keep (k.block g h.lt hg)

theorem Kpt.cell {w w' : World} {S : Nat → Prop} (k : Kpt w w' S) {p : Addr} (hp : p.block < w.heap.size) (hn : ¬ S p.block) : w'.cell? p = w.cell? p := by
  have hh := k.block p.block hp hn
  simp only [World.cell?, hh]

theorem Kpt.elts {α : Type} {E : Elt α} {w w' : World} {S : Nat → Prop} {B : Nat} {A : Option Addr} {n : Nat} {xs : List α} (h : Elts E w B A n xs) (k : Kpt w w' S) (hB : B ≤ w.heap.size) (hs : ∀ i, S i → B ≤ i) : Elts E w' B A n xs :=
  h.keep fun _ hp => k.cell (by omega) (fun e => by have := hs _ e; omega)

theorem Kpt.row {w w' : World} {S : Nat → Prop} {B : Nat} {A : Option Addr} {n : Nat} {xs : List Int} (h : Row w B A n xs) (k : Kpt w w' S) (hB : B ≤ w.heap.size) (hs : ∀ i, S i → B ≤ i) : Row w' B A n xs :=
  h.keep fun _ hp => k.cell (by omega) (fun e => by have := hs _ e; omega)

theorem Kpt.mine {w w' : World} {S : Nat → Prop} {base : Nat} {v : Value} {n : Nat} {xs : List Int} (h : Mine w base v n xs) (k : Kpt w w' S) (hs : ∀ g, v.ownBlock = some g → ¬ S g) : Mine w' base v n xs := by
  obtain ⟨h1, h2⟩ := h
  refine ⟨h1, ?_⟩
  rcases h2 with h | ⟨g, cap, cur, hv, hg, hh, r⟩
  · exact .inl h
  · exact .inr ⟨g, cap, cur, hv, hg, (k.block g (Array.getElem?_eq_some_iff.1 hh).1 (hs g (by rw [hv]; rfl))).trans hh, r⟩

theorem Kpt.mineE {α : Type} {E : Elt α} {w w' : World} {S : Nat → Prop} {base : Nat} {v : Value} {n : Nat} {xs : List α} (h : MineE E w base v n xs) (k : Kpt w w' S) (hs : ∀ g, v.ownBlock = some g → ¬ S g) : MineE E w' base v n xs := by
  obtain ⟨h1, h2⟩ := h
  refine ⟨h1, ?_⟩
  rcases h2 with h | ⟨g, cap, cur, hv, hg, hh, r⟩
  · exact .inl h
  · exact .inr ⟨g, cap, cur, hv, hg, (k.block g (Array.getElem?_eq_some_iff.1 hh).1 (hs g (by rw [hv]; rfl))).trans hh, r⟩

end Go.Proofs.Ytgfehlmiejnonaa
