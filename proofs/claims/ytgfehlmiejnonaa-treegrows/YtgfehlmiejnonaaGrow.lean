/-
  Worlds that grow: what a call leaves of what was there; boxes of two cells; rows kept. No condition.
-/
import Derived.Test.YtgfehlmiejnonaaElts
import Derived.Handy
set_option maxRecDepth 20000
namespace Go.Proofs.Ytgfehlmiejnonaa
open Go.RowKit

/-- It answers v, and nothing that was there has turned. -/
def Says (w : World) (v : Value) (e : Ending) (w' : World) : Prop := e = .returned v ∧ w.grownBy w' none

theorem kept {w w' : World} {b i : Nat} {v : Value} (h : w.grownBy w' none) (k : w.cell? ⟨b, i, none⟩ = some v) : w'.cell? ⟨b, i, none⟩ = some v := by
  have hb := block_lt k
  have hh := h.block b hb (by simp)
  simp only [World.cell?] at k ⊢
  rw [hh]
  exact k

theorem grow0 (w : World) (o : Obj) : w.grownBy (w.alloc o) none := grown_alloc (World.grownBy.refl w _) o

theorem Own.kept {w w' : World} {g : Nat} {T : TypeId} {vs : List Value} (h : Own w g T vs) (k : w.grownBy w' none) : Own w' g T vs := h.keep (k.block g h.lt (by simp))

theorem Own.two {w : World} {g : Nat} {T : TypeId} {x y : Value} (h : Own w g T [x, y]) : w.cell? ⟨g, 0, none⟩ = some x ∧ w.cell? ⟨g, 1, none⟩ = some y := ⟨h.cell 0, h.cell 1⟩

/-- Behind two boxes and whatever grows. -/
theorem boxes2 {w w1 : World} {x y u v : Value} {T U : TypeId} (h : ((w.alloc (.cells #[x, y] T)).alloc (.cells #[u, v] U)).grownBy w1 none) :
    w.grownBy w1 none ∧ Own w1 w.heap.size T [x, y] ∧ Own w1 (w.heap.size + 1) U [u, v] := by
  refine ⟨grown_trans (grown_trans (grow0 _ _) (grow0 _ _)) h, ((Own.new w T [x, y]).alloc _).kept h, ?_⟩
  have := (Own.new (w.alloc (.cells #[x, y] T)) U [u, v]).kept h
  simpa using this

theorem boxes1 {w w1 : World} {x y : Value} {T : TypeId} (h : (w.alloc (.cells #[x, y] T)).grownBy w1 none) :
    w.grownBy w1 none ∧ Own w1 w.heap.size T [x, y] := ⟨grown_trans (grow0 _ _) h, (Own.new w T [x, y]).kept h⟩

theorem grown_new {a w : World} {g i : Nat} (h : a.grownBy w none) (hg : a.heap.size ≤ g) (u : Value) : a.grownBy (w.setCell ⟨g, i, none⟩ u) none :=
  ⟨h.os, h.tape, h.output, by simpa [World.setCell] using h.size, fun k hk hne => (Below.heap_setCell w ⟨g, i, none⟩ u k (by show k ≠ g; omega)).trans (h.block k hk hne)⟩

theorem boxes3 {w w1 : World} {x y u v r s : Value} {T U R : TypeId} (h : (((w.alloc (.cells #[x, y] T)).alloc (.cells #[u, v] U)).alloc (.cells #[r, s] R)).grownBy w1 none) :
    w.grownBy w1 none ∧ Own w1 w.heap.size T [x, y] ∧ Own w1 (w.heap.size + 1) U [u, v] ∧ Own w1 (w.heap.size + 1 + 1) R [r, s] := by
  obtain ⟨h1, h2, h3⟩ := boxes2 (grown_trans (grow0 _ _) h)
  refine ⟨h1, h2, h3, ?_⟩
  have := (Own.new ((w.alloc (.cells #[x, y] T)).alloc (.cells #[u, v] U)) R [r, s]).kept h
  simpa using this

theorem other_get {w : World} {k g i j : Nat} {u v : Value} (n : ¬ k = g) (h : w.cell? ⟨g, i, none⟩ = some v) : (w.setCell ⟨k, j, none⟩ u).cell? ⟨g, i, none⟩ = some v :=
  (World.cell?_setCell_other _ _ _ _ (by intro e; injection e with e; exact n e)).trans h

theorem set_get {w : World} {g : Nat} {x y u v : Value} (c0 : w.cell? ⟨g, 0, none⟩ = some u) (c1 : w.cell? ⟨g, 1, none⟩ = some v) :
    ((w.setCell ⟨g, 0, none⟩ x).setCell ⟨g, 1, none⟩ y).cell? ⟨g, 0, none⟩ = some x ∧ ((w.setCell ⟨g, 0, none⟩ x).setCell ⟨g, 1, none⟩ y).cell? ⟨g, 1, none⟩ = some y := by
  have h1 : (w.setCell ⟨g, 0, none⟩ x).cell? ⟨g, 0, none⟩ = some x := World.cell?_setCell_same' _ _ _ (by rw [c0]; rfl)
  have h2 : (w.setCell ⟨g, 0, none⟩ x).cell? ⟨g, 1, none⟩ = some v := (World.cell?_setCell_other _ _ _ _ (by simp)).trans c1
  exact ⟨(World.cell?_setCell_other _ _ _ _ (by simp)).trans h1, World.cell?_setCell_same' _ _ _ (by rw [h2]; rfl)⟩

theorem Own.setAt0 {w : World} {g : Nat} {T : TypeId} {x y : Value} (h : Own w g T [x, y]) (u : Value) : Own (w.setCell ⟨g, 0, none⟩ u) g T [u, y] := h.set0

theorem Own.setAt1 {w : World} {g : Nat} {T : TypeId} {x y : Value} (h : Own w g T [x, y]) (u : Value) : Own (w.setCell ⟨g, 1, none⟩ u) g T [x, u] := by
  unfold Own at h ⊢
  simp [World.setCell, Array.getElem?_modify, h]

theorem Own.drewN {w : World} {g : Nat} {T : TypeId} {vs : List Value} (h : Own w g T vs) (k : Nat) : Own (w.drewN k) g T vs := h

theorem Own.setOther {w : World} {g k j : Nat} {T : TypeId} {vs : List Value} (h : Own w g T vs) (n : ¬ k = g) (u : Value) : Own (w.setCell ⟨k, j, none⟩ u) g T vs :=
  h.keep (Below.heap_setCell w ⟨k, j, none⟩ u g (by show g ≠ k; omega))

theorem grown_none {a w w' : World} {row : Option Nat} (h : a.grownBy w none) (k : w.grownBy w' row) (hr : ∀ g, row = some g → a.heap.size ≤ g) : a.grownBy w' none :=
  ⟨k.os.trans h.os, k.tape.trans h.tape, k.output.trans h.output, Nat.le_trans h.size k.size, fun i hi hne => (k.block i (Nat.lt_of_lt_of_le hi h.size) (fun e => by have := hr i e.symm; omega)).trans (h.block i hi hne)⟩

theorem block_set {w : World} {g i : Nat} {cur : Array Value} {T : TypeId} {fr : Nat × Nat} (h : w.heap[g]? = some (.cells cur T fr)) (u : Value) :
    ∃ cur', (w.setCell ⟨g, i, none⟩ u).heap[g]? = some (.cells cur' T fr) ∧ cur'.size = cur.size := by
  refine ⟨cur.setIfInBounds i u, ?_, by simp⟩
  simp [World.setCell, Array.getElem?_modify, h]

theorem block_get {w : World} {g i : Nat} {cur : Array Value} {T : TypeId} (h : w.heap[g]? = some (.cells cur T (0, 0))) (hi : i < cur.size) : ∃ u, w.cell? ⟨g, i, none⟩ = some u ∧ w.frozen? ⟨g, i, none⟩ = false := by
  refine ⟨cur[i], ?_, by simp [World.frozen?, h]⟩
  rw [cell_of_row w g i cur T (0, 0) h]
  simp [hi]

theorem grown_of_below {w w' : World} (h : Below w.heap.size w w') : w.grownBy w' none := ⟨h.os, h.tape, h.output, h.size, fun i hi _ => h.block i hi⟩

theorem MineE.own_lt {α : Type} {E : Elt α} {w : World} {base : Nat} {v : Value} {n : Nat} {xs : List α} (h : MineE E w base v n xs) : ∀ k, v.ownBlock = some k → k < w.heap.size := by
  intro k hk
  rcases h.2 with ⟨rfl, _⟩ | ⟨g, cap, cur, rfl, hb, hh, _⟩
  · simp [Value.ownBlock] at hk
  · simp only [Value.ownBlock, Option.some.injEq] at hk
    subst hk
    exact (Array.getElem?_eq_some_iff.1 hh).1

theorem MineE.kept' {α : Type} {E : Elt α} {w w' : World} {base : Nat} {v : Value} {n : Nat} {xs : List α} {row : Option Nat} (h : MineE E w base v n xs) (k : w.grownBy w' row) (hne : ∀ g, v.ownBlock = some g → row ≠ some g) : MineE E w' base v n xs := by
  obtain ⟨h1, h2⟩ := h
  refine ⟨h1, ?_⟩
  rcases h2 with h | ⟨g, cap, cur, hv, hg, hh, r⟩
  · exact .inl h
  · exact .inr ⟨g, cap, cur, hv, hg, (k.block g (Array.getElem?_eq_some_iff.1 hh).1 (fun e => hne g (by rw [hv]; rfl) e.symm)).trans hh, r⟩

theorem Row.grown' {w w' : World} {B : Nat} {A : Option Addr} {n : Nat} {xs : List Int} {row : Option Nat} (h : Row w B A n xs) (hB : B ≤ w.heap.size) (k : w.grownBy w' row) (hr : ∀ g, row = some g → B ≤ g) : Row w' B A n xs :=
  h.keep fun p hp => grown_cell k (by omega) (fun e => by have := hr _ e; omega)

theorem Own.kept' {w w' : World} {g : Nat} {T : TypeId} {vs : List Value} {row : Option Nat} (h : Own w g T vs) (k : w.grownBy w' row) (hr : row ≠ some g) : Own w' g T vs := h.keep (k.block g h.lt (fun e => hr e.symm))

theorem grown_drew {a w : World} {row : Option Nat} (h : a.grownBy w row) : a.grownBy w.drew row := ⟨h.os, h.tape, h.output, h.size, h.block⟩

theorem grown_undrew {w w' : World} {row : Option Nat} (h : w.drew.grownBy w' row) : w.grownBy w' row := ⟨h.os, h.tape, h.output, h.size, h.block⟩

theorem Own.box {w : World} {x y : Value} {T : TypeId} : Own (w.alloc (.cells #[x, y] T)) w.heap.size T [x, y] := Own.new w T [x, y]

def LawPost (w : World) (e : Ending) (w' : World) : Prop := e = .returned (.bool true) ∧ Below w.heap.size w w'

theorem below_of {w w' : World} (h : w.grownBy w' none) : Below w.heap.size w w' := (Below.refl w.heap.size w).grown h (Nat.le_refl _) (by simp)

theorem lt_uniq : ∀ (l m : List Int), l.Pairwise (· < ·) → m.Pairwise (· < ·) → (∀ x, x ∈ l ↔ x ∈ m) → l = m
  | [], [], _, _, _ => rfl
  | [], b :: m, _, _, h => absurd ((h b).2 (by simp)) (by simp)
  | a :: l, [], _, _, h => absurd ((h a).1 (by simp)) (by simp)
  | a :: l, b :: m, h1, h2, h => by
    obtain ⟨ha, hl⟩ := List.pairwise_cons.1 h1
    obtain ⟨hb, hm⟩ := List.pairwise_cons.1 h2
    have e : a = b := by
      rcases List.mem_cons.1 ((h a).1 (by simp)) with e | e
      · exact e
      · rcases List.mem_cons.1 ((h b).2 (by simp)) with e2 | e2
        · exact e2.symm
        · have := hb a e; have := ha b e2; omega
    subst e
    rw [lt_uniq l m hl hm fun x => ?_]
    constructor
    · intro hx
      rcases List.mem_cons.1 ((h x).1 (by simp [hx])) with e | e
      · have := ha x hx; omega
      · exact e
    · intro hx
      rcases List.mem_cons.1 ((h x).2 (by simp [hx])) with e | e
      · have := hb x hx; omega
      · exact e

theorem MineE.grow {α : Type} {E : Elt α} {w : World} {base : Nat} {v : Value} {n : Nat} {xs : List α} (h : MineE E w base v n xs) (o : Obj) : MineE E (w.alloc o) base v n xs := h.kept (grow0 _ _)

end Go.Proofs.Ytgfehlmiejnonaa
