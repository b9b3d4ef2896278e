/-
  Blocks that are known whole, from world to world.
-/
import Derived.Test.YtgfehlmiejnonaaJC
set_option maxRecDepth 20000
namespace Go.Proofs.Ytgfehlmiejnonaa
open Go.RowKit

/-- Blocks that are known whole. -/
def StS (w : World) (os : List (Nat × TypeId × List Value)) : Prop := ∀ o ∈ os, Own w o.1 o.2.1 o.2.2

theorem StS.kept {w w' : World} {os : List (Nat × TypeId × List Value)} (h : StS w os) (k : w.grownBy w' none) : StS w' os := fun o ho => (h o ho).kept k

theorem StS.cons {w : World} {os : List (Nat × TypeId × List Value)} {g : Nat} {T : TypeId} {vs : List Value} (h : StS w os) (o : Own w g T vs) : StS w ((g, T, vs) :: os) := by
  intro x hx
  rcases List.mem_cons.1 hx with rfl | hx
  · exact o
  · exact h x hx

theorem StS.lit {w : World} {os : List (Nat × TypeId × List Value)} {vs : Array Value} {T : TypeId} (h : StS w os) : StS (w.alloc (.cells vs T)) ((w.heap.size, T, vs.toList) :: os) :=
  (h.kept (grow0 _ _)).cons (by have := Own.new w T vs.toList; simpa using this)

theorem StS.nil (w : World) : StS w [] := fun _ h => by cases h

theorem Own.rowS {w : World} {g n : Nat} (xs : List Int) (h : Own w g 3 (ints xs)) (hn : n = xs.length) (hl : xs.length ≤ 1000) (hok : xs.all bdB = true) : Row w (g + 1) (some ⟨g, 0, none⟩) n xs := by
  subst hn
  refine ⟨rfl, by omega, ok_of hok, fun _ => ⟨g, 0, rfl, by omega, fun i hi => ?_⟩⟩
  rw [Nat.zero_add, h.cell i, ints_get xs i hi]

/-- Grown since w0; blocks that are known whole. -/
structure SB (w0 w : World) (os : List (Nat × TypeId × List Value)) : Prop where
  g : w0.grownBy w none
  st : StS w os

theorem SB.kept {w0 w w' : World} {os : List (Nat × TypeId × List Value)} (h : SB w0 w os) (k : w.grownBy w' none) : SB w0 w' os := ⟨grown_trans h.g k, h.st.kept k⟩

theorem SB.lit {w0 w : World} {os : List (Nat × TypeId × List Value)} {vs : Array Value} {T : TypeId} (h : SB w0 w os) : SB w0 (w.alloc (.cells vs T)) ((w.heap.size, T, vs.toList) :: os) := ⟨grown_alloc h.g _, h.st.lit⟩

theorem SB.cons {w0 w : World} {os : List (Nat × TypeId × List Value)} {g : Nat} {T : TypeId} {vs : List Value} (h : SB w0 w os) (o : Own w g T vs) : SB w0 w ((g, T, vs) :: os) := ⟨h.g, h.st.cons o⟩

theorem SB.less {w0 w : World} {os : List (Nat × TypeId × List Value)} (h : SB w0 w os) : SB w0 w [] := ⟨h.g, StS.nil w⟩

theorem SB.own {w0 w : World} {os : List (Nat × TypeId × List Value)} {g : Nat} {T : TypeId} {vs : List Value} (h : SB w0 w os) (m : (g, T, vs) ∈ os) : Own w g T vs := h.st (g, T, vs) m

theorem SB.row {w0 w : World} {os : List (Nat × TypeId × List Value)} {g n : Nat} (xs : List Int) (h : SB w0 w os) (m : (g, 3, ints xs) ∈ os) (hn : n = xs.length) (hl : xs.length ≤ 1000) (hb : xs.all bdB = true) : Row w w.heap.size (some ⟨g, 0, none⟩) n xs := (Own.rowS xs (h.own m) hn hl hb).wide (h.own m).lt

theorem SameS {w0 w wz : World} {g c n B : Nat} {A : Option Addr} {os : List (Nat × TypeId × List Value)} {xs : List Int} (r : Row wz B A n xs) (h : SB w0 w os) (hB : B ≤ wz.heap.size) (hw : wz.grownBy w none) (m : (g, 3, ints xs) ∈ os) (hn : n = xs.length) (hl : xs.length ≤ 1000) (hb : xs.all bdB = true) :
    Calls Try.prog 22 #[.slice A n c, .slice (some ⟨g, 0, none⟩) n n] w (Says w (.bool true)) :=
  sameB_refl xs ▸ same_says (SameInts0_any A n c xs _ n n xs w (r.grown hB hw) (h.row xs m hn hl hb))

theorem SB.only {w0 w : World} {os : List (Nat × TypeId × List Value)} {g : Nat} {T : TypeId} {vs : List Value} (h : SB w0 w os) (m : (g, T, vs) ∈ os) : SB w0 w [(g, T, vs)] := ⟨h.g, (StS.nil w).cons (h.own m)⟩

end Go.Proofs.Ytgfehlmiejnonaa
