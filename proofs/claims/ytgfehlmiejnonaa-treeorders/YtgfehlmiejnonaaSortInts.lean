/-
  slices.Sort and slices.Compact at []int, over rows of the call's own: the library's contracts, laid at this program.
-/
import Derived.Test.YtgfehlmiejnonaaElts
import Derived.Test.YtgfehlmiejnonaaJC
import Derived.Test.YtgfehlmiejnonaaMathSort
import Derived.Ground.NamesProg
import Derived.Ground.Names2Prog
import Derived.Shelf.Lay
import Derived.Shelf.Sort.Plain
import Derived.Shelf.Slices.CompactI
import Derived.Shelf.Slices.In.SortNone
import Derived.Sort.OwnSortedInts
namespace Go.Proofs
open Go.Shelf
shelf_lay Lays.n189 Nm 189 at Try as Try.laysSort
shelf_lay Lays2.n20 Nm2 20 at Try as Try.laysCompact
end Go.Proofs
set_option maxRecDepth 20000
namespace Go.Proofs.Ytgfehlmiejnonaa
open Go.RowKit Go.Shelf Go.Sort

theorem sortI_len (xs : List Int) : (sortI xs).length = xs.length := by simp [sortI]

def SortPost (w : World) (base : Nat) (v : Value) (n : Nat) (ys : List Int) (e : Ending) (w' : World) : Prop :=
  e = .returned (.tuple #[]) ∧ Mine w' base v n ys ∧ w.grownBy w' v.ownBlock

theorem Sort_any (v : Value) (n : Nat) (xs : List Int) (w : World) {base : Nat} (h : Mine w base v n xs) (hn : n < 4611686018427387904) :
    Calls Try.prog 39 #[v] w (SortPost w base v n (sortI xs)) := by
  have hl := h.len
  rcases h.2 with ⟨rfl, rfl⟩ | ⟨g, cap, cur, rfl, hb, hh, hnc, hm, hsz, htk⟩
  · obtain rfl : xs = [] := List.eq_nil_of_length_eq_zero hl
    refine (Any.slices_Sort_int_none Try.laysSort none 0 w).mono ?_
    rintro e w' ⟨rfl, rfl⟩
    exact ⟨rfl, by simpa [sortI] using h, World.grownBy.refl _ _⟩
  · subst hl
    have htk' : cur.toList.take xs.length = xs.map (Value.int .i64) := by rw [Nat.mul_one] at htk; exact htk
    refine (Any.slices_Sort_int Try.laysSort g 0 cap xs w (holds_of_blockI hh htk') (Array.getElem?_eq_some_iff.1 hh).1 hn).mono ?_
    rintro e w' ⟨rfl, k, os, rfl⟩
    refine ⟨rfl, ?_, grownBy_sortedI _⟩
    exact ownsRow_sortedI (ts := sortI xs) (sortI_len xs) hb hh hnc hm hsz

def CompactPost (w : World) (base : Nat) (row : Option Nat) (ys : List Int) (e : Ending) (w' : World) : Prop :=
  ∃ v', e = .returned v' ∧ Mine w' base v' ys.length ys ∧ v'.ownBlock = row ∧ w.grownBy w' row

theorem compact_le (xs : List Int) : (Lib.compact xs).length ≤ xs.length := by
  unfold Lib.compact Lib.compactUpTo
  rw [List.length_map]
  exact Nat.le_trans (List.length_filter_le _ _) (by simp)

theorem Compact_any (v : Value) (n : Nat) (xs : List Int) (w : World) {base : Nat} (h : Mine w base v n xs) (hn : n < 4611686018427387904) :
    Calls Try.prog 40 #[v] w (CompactPost w base v.ownBlock (Lib.compact xs)) := by
  have hl := h.len
  rcases h.2 with ⟨rfl, rfl⟩ | ⟨g, cap, cur, rfl, hb, hh, hnc, hm, hsz, htk⟩
  · obtain rfl : xs = [] := List.eq_nil_of_length_eq_zero hl
    refine (Any.slices_Compact_int_empty Try.laysCompact none 0 w).mono ?_
    rintro e w' ⟨rfl, rfl⟩
    exact ⟨_, rfl, h, rfl, World.grownBy.refl _ _⟩
  · subst hl
    have htk' : cur.toList.take xs.length = xs.map (Value.int .i64) := by rw [Nat.mul_one] at htk; exact htk
    refine (Any.slices_Compact_int Try.laysCompact g 0 cap xs w (holds_of_blockI hh htk') (by omega) hnc).mono ?_
    rintro e w' ⟨rfl, q, rfl⟩
    have hle := compact_le xs
    generalize Lib.compact xs = ys at *
    have hll : (ys ++ List.replicate (xs.length - ys.length) (0 : Int)).length = xs.length := by simp; omega
    have h2 := ownsRow_sortedI (n := q) (os := #[]) (ts := ys ++ List.replicate (xs.length - ys.length) 0) hll hb hh hnc hm hsz
    have h3 := grownBy_sortedI (w := w) (g := g) (n := q) (os := #[]) (ys ++ List.replicate (xs.length - ys.length) 0).toArray
    rw [grow_empty] at h2 h3
    refine ⟨_, rfl, ?_, rfl, h3⟩
    rcases h2.2 with ⟨h0, _⟩ | ⟨g', cap', cur', hv, hb', hh', hnc', hm', hsz', htk2⟩
    · cases h0
    · injection hv with e1 e2 e3
      injection e1 with e1
      injection e1 with e1
      subst e1 e3
      refine ⟨by rw [ints_len]; omega, .inr ⟨g, cap, cur', rfl, hb, hh', by omega, hm, hsz', ?_⟩⟩
      rw [Nat.mul_one] at htk2 ⊢
      have h5 : cur'.toList.take ys.length = (cur'.toList.take xs.length).take ys.length := by rw [List.take_take, Nat.min_eq_left hle]
      rw [h5, htk2, List.map_append, List.take_left' (by simp)]
      rfl

end Go.Proofs.Ytgfehlmiejnonaa
