/-
  A tree that a box holds; a tree just told, in its box.
-/
import Derived.Test.YtgfehlmiejnonaaTreeP
import Derived.Test.YtgfehlmiejnonaaTreeL
import Derived.Test.YtgfehlmiejnonaaBlocks
import Derived.Test.YtgfehlmiejnonaaJA
import Derived.Test.YtgfehlmiejnonaaJC
import Derived.Test.YtgfehlmiejnonaaEltsCut
set_option maxRecDepth 20000
namespace Go.Proofs.Ytgfehlmiejnonaa
open Go.RowKit

/-- A box that holds a tree with these items. -/
def HoldsT (w0 : World) (gt : Nat) (xs : List It) (wr : World) : Prop :=
  ∃ A n c ns r FA fn fc free, allF ns r free = some xs ∧ Own wr gt 25 [.slice A n c, .int .i64 r, .slice FA fn fc] ∧ Tre wr wr.heap.size A n ns FA fn free ∧ w0.grownBy wr none

def InMid (w0 : World) (P : List Nd → Int → List Int → Int → Prop) (p z : Value) (wx : World) : Prop :=
  ∃ ns r free z' g A c FA fc, P ns r free z' ∧ p = .pointer (some ⟨g, 0, none⟩) ∧ z = .int .i64 z' ∧ w0.heap.size ≤ g ∧ Own wx g 25 [.slice A ns.length c, .int .i64 r, .slice FA free.length fc] ∧ MineE nodeE wx w0.heap.size (.slice A ns.length c) ns.length ns ∧ Mine wx w0.heap.size (.slice FA free.length fc) free.length free ∧ w0.grownBy wx none

theorem ins_okI {V : Option (List It)} {x : It} {ns : List Nd} {r : Int} {free : List Int} {z : Int} (h : InsIs V x ns r free z) : okI free := by
  by_cases hz : z = 0
  · obtain ⟨xs, _, h⟩ := h.2.2 hz
    exact free_ok h
  · rw [(h.2.1 hz).2.2]; exact okI_nil

theorem del_okI {V : Option (List It)} {x : It} {ns : List Nd} {r : Int} {free : List Int} {z : Int} (h : DelIs V x ns r free z) : okI free := by
  by_cases hz : z = 0
  · obtain ⟨xs, _, h⟩ := h.2.2 hz
    exact free_ok h
  · rw [(h.2.1 hz).2.2]; exact okI_nil

theorem and_31 (x : Int) : ∃ k : Nat, k ≤ 31 ∧ bits .and .i64 x 31 = (k : Int) := by
  refine ⟨(BitVec.ofInt 64 x &&& BitVec.ofInt 64 31).toNat, ?_, ?_⟩
  · rw [BitVec.toNat_and]
    exact Nat.and_le_right
  · show IntKind.i64.wrap ((BitVec.ofInt 64 x &&& BitVec.ofInt 64 31).toNat : Int) = _
    have : (BitVec.ofInt 64 x &&& BitVec.ofInt 64 31).toNat ≤ 31 := by
      rw [BitVec.toNat_and]
      exact Nat.and_le_right
    exact IntWalk.i64_in _ (by omega)

theorem SB.drew {w0 w : World} {os : List (Nat × TypeId × List Value)} (h : SB w0 w os) : SB w0 w.drew os := h.kept (grown_drew (World.grownBy.refl w none))

theorem SB.firstLt {w0 w : World} {os : List (Nat × TypeId × List Value)} {g : Nat} {T : TypeId} {vs : List Value} (h : SB w0 w ((g, T, vs) :: os)) : g < w.heap.size := (h.own (List.mem_cons_self ..)).lt

theorem SB.first3 {w0 w : World} {os : List (Nat × TypeId × List Value)} {g : Nat} {T : TypeId} {x y z : Value} (h : SB w0 w ((g, T, [x, y, z]) :: os)) :
    w.cell? ⟨g, 0, none⟩ = some x ∧ w.cell? ⟨g, 1, none⟩ = some y ∧ w.cell? ⟨g, 2, none⟩ = some z ∧ w.frozen? ⟨g, 0, none⟩ = false ∧ w.frozen? ⟨g, 1, none⟩ = false ∧ w.frozen? ⟨g, 2, none⟩ = false := by
  have o := h.own (List.mem_cons_self ..)
  exact ⟨o.three.1, o.three.2.1, o.three.2.2, o.frozen 0, o.frozen 1, o.frozen 2⟩

/-- The world's three cells of a tree's box. -/
theorem SB.tree {w0 w : World} {os : List (Nat × TypeId × List Value)} {g : Nat} {x y z : Value} (h : SB w0 w os) (m : (g, 25, [x, y, z]) ∈ os) : (fun w' : World => w'.cell? ⟨g, 0, none⟩ = some x ∧ w'.cell? ⟨g, 1, none⟩ = some y ∧ w'.cell? ⟨g, 2, none⟩ = some z) w := (h.own m).three

theorem SB.treePut {w0 w : World} {os : List (Nat × TypeId × List Value)} {g k : Nat} {x y z : Value} (h : SB w0 w os) (m : (g, 25, [x, y, z]) ∈ os) (hk : ¬ k = g) (a b c : Value) :
    (fun w' : World => w'.cell? ⟨g, 0, none⟩ = some x ∧ w'.cell? ⟨g, 1, none⟩ = some y ∧ w'.cell? ⟨g, 2, none⟩ = some z) (((w.setCell ⟨k, 0, none⟩ a).setCell ⟨k, 1, none⟩ b).setCell ⟨k, 2, none⟩ c) := by
  obtain ⟨h0, h1, h2⟩ := h.tree m
  exact ⟨other_get hk (other_get hk (other_get hk h0)), other_get hk (other_get hk (other_get hk h1)), other_get hk (other_get hk (other_get hk h2))⟩

theorem Own.set3 {w : World} {g : Nat} {T : TypeId} {x y z : Value} (h : Own w g T [x, y, z]) (a b c : Value) : Own (((w.setCell ⟨g, 0, none⟩ a).setCell ⟨g, 1, none⟩ b).setCell ⟨g, 2, none⟩ c) g T [a, b, c] := by
  have h1 := ((h.setAt 0 a).setAt 1 b).setAt 2 c
  exact h1

theorem grown_put3 {a w : World} {g : Nat} (h : a.grownBy w none) (hg : a.heap.size ≤ g) (x y z : Value) : a.grownBy (((w.setCell ⟨g, 0, none⟩ x).setCell ⟨g, 1, none⟩ y).setCell ⟨g, 2, none⟩ z) none := grown_new (grown_new (grown_new h hg _) hg _) hg _

theorem grown_set3 {w : World} {g : Nat} (x y z : Value) : w.grownBy (((w.setCell ⟨g, 0, none⟩ x).setCell ⟨g, 1, none⟩ y).setCell ⟨g, 2, none⟩ z) (some g) := grown_set (grown_set (grown_set (World.grownBy.refl w _) _) _) _

theorem inMid_new {w0 w2 : World} {os : List (Nat × TypeId × List Value)} {P : List Nd → Int → List Int → Int → Prop} {ns : List Nd} {r : Int} {free : List Int} {z : Int} {A FA : Option Addr} {c fc b : Nat} (h : SB w0 w2 os) (hb : w0.heap.size ≤ b) (m : MineE nodeE w2 b (.slice A ns.length c) ns.length ns) (f : Mine w2 b (.slice FA free.length fc) free.length free) (hp : P ns r free z) :
    InMid w0 P (.pointer (some ⟨w2.heap.size, 0, none⟩)) (.int .i64 z) (w2.alloc (.cells #[.slice A ns.length c, .int .i64 r, .slice FA free.length fc] 25)) :=
  have kx := grow0 w2 (.cells #[.slice A ns.length c, .int .i64 r, .slice FA free.length fc] 25)
  ⟨ns, r, free, z, w2.heap.size, A, c, FA, fc, hp, rfl, rfl, h.g.size, Own.new w2 25 [.slice A ns.length c, .int .i64 r, .slice FA free.length fc], (m.kept kx).wide hb, (f.kept kx).wide hb, grown_trans h.g kx⟩

theorem inMid_put {w0 w2 : World} {os : List (Nat × TypeId × List Value)} {P : List Nd → Int → List Int → Int → Prop} {ns : List Nd} {r : Int} {free : List Int} {z : Int} {A FA : Option Addr} {c fc b g : Nat} {x y u : Value} (h : SB w0 w2 ((g, 25, [x, y, u]) :: os)) (hg : w0.heap.size ≤ g) (hgb : g < b) (m : MineE nodeE w2 b (.slice A ns.length c) ns.length ns) (f : Mine w2 b (.slice FA free.length fc) free.length free) (hp : P ns r free z) :
    InMid w0 P (.pointer (some ⟨g, 0, none⟩)) (.int .i64 z) (((w2.setCell ⟨g, 0, none⟩ (.slice A ns.length c)).setCell ⟨g, 1, none⟩ (.int .i64 r)).setCell ⟨g, 2, none⟩ (.slice FA free.length fc)) :=
  have kx := grown_set3 (w := w2) (g := g) (.slice A ns.length c) (.int .i64 r) (.slice FA free.length fc)
  ⟨ns, r, free, z, g, A, c, FA, fc, hp, rfl, rfl, hg, (h.own (List.mem_cons_self ..)).set3 _ _ _, (m.kept' kx (fun k hk e => by injection e with e; have := m.own_ge k hk; omega)).wide (by omega), (f.kept' kx (fun k hk e => by injection e with e; have := f.own_ge k hk; omega)).wide (by omega), grown_put3 h.g hg _ _ _⟩

theorem holds_put {w w0 wx : World} {gt : Nat} {ns : List Nd} {r : Int} {free : List Int} {xs : List It} {A FA : Option Addr} {c fc : Nat} {x y u : Value} (hg : w.heap.size ≤ gt) (h0 : gt < w0.heap.size) (k : w.grownBy wx none) (o : Own wx gt 25 [x, y, u]) (m : MineE nodeE wx w0.heap.size (.slice A ns.length c) ns.length ns) (f : Mine wx w0.heap.size (.slice FA free.length fc) free.length free) (h : allF ns r free = some xs) :
    HoldsT w gt xs (((wx.setCell ⟨gt, 0, none⟩ (.slice A ns.length c)).setCell ⟨gt, 1, none⟩ (.int .i64 r)).setCell ⟨gt, 2, none⟩ (.slice FA free.length fc)) := by
  have kx := grown_set3 (w := wx) (g := gt) (.slice A ns.length c) (.int .i64 r) (.slice FA free.length fc)
  have m' := m.kept' kx (fun k hk e => by injection e with e; have := m.own_ge k hk; omega)
  have f' := f.kept' kx (fun k hk e => by injection e with e; have := f.own_ge k hk; omega)
  obtain ⟨A1, c1, F1, fc1, e1, e2, _, _, ta⟩ := tre_of m' f' (free_ok h)
  injection e1 with e1 _ e3
  injection e2 with e4 _ e6
  subst e1 e3 e4 e6
  exact ⟨_, _, _, ns, r, _, _, _, free, h, o.set3 _ _ _, ta, grown_put3 k hg _ _ _⟩

theorem HoldsT.g {w wr : World} {gt : Nat} {xs : List It} (h : HoldsT w gt xs wr) : w.grownBy wr none := by
  obtain ⟨_, _, _, _, _, _, _, _, _, _, _, _, g⟩ := h
  exact g

theorem Tre.on {w w' : World} {A : Option Addr} {n : Nat} {ns : List Nd} {FA : Option Addr} {fn : Nat} {free : List Int} (h : Tre w w.heap.size A n ns FA fn free) (k : w.grownBy w' none) : Tre w' w'.heap.size A n ns FA fn free :=
  have t := h.grown (Nat.le_refl _) k
  ⟨t.nodes.wide k.size, t.free.wide k.size⟩

theorem HoldsT.grown {w wr w' : World} {gt : Nat} {xs : List It} (h : HoldsT w gt xs wr) (k : wr.grownBy w' none) : HoldsT w gt xs w' := by
  obtain ⟨A, n, c, ns, r, FA, fn, fc, free, h1, h2, h3, h4⟩ := h
  exact ⟨A, n, c, ns, r, FA, fn, fc, free, h1, h2.kept k, h3.on k, grown_trans h4 k⟩

theorem HoldsT.len {w wr : World} {gt : Nat} {xs : List It} (h : HoldsT w gt xs wr) : xs.length ≤ 32 := by
  obtain ⟨A, n, c, ns, r, FA, fn, fc, free, h1, _⟩ := h
  obtain ⟨T, t, rfl⟩ := of_all h1
  have := T.sum_len ns
  have := t.all
  have := t.few
  omega

/-- A box that holds a tree, and an item's cells. -/
theorem SB.tree6 {w0 w : World} {os : List (Nat × TypeId × List Value)} {g b i0 i1 i2 : Nat} {x y z u0 u1 u2 : Value} (h : SB w0 w os) (m : (g, 25, [x, y, z]) ∈ os) (d0 : w0.cell? ⟨b, i0, none⟩ = some u0) (d1 : w0.cell? ⟨b, i1, none⟩ = some u1) (d2 : w0.cell? ⟨b, i2, none⟩ = some u2) :
    (fun w' : World => w'.cell? ⟨g, 0, none⟩ = some x ∧ w'.cell? ⟨g, 1, none⟩ = some y ∧ w'.cell? ⟨g, 2, none⟩ = some z ∧ w'.cell? ⟨b, i0, none⟩ = some u0 ∧ w'.cell? ⟨b, i1, none⟩ = some u1 ∧ w'.cell? ⟨b, i2, none⟩ = some u2) w :=
  have o := (h.own m).three
  ⟨o.1, o.2.1, o.2.2, _root_.Go.Proofs.Ytgfehlmiejnonaa.kept h.g d0, _root_.Go.Proofs.Ytgfehlmiejnonaa.kept h.g d1, _root_.Go.Proofs.Ytgfehlmiejnonaa.kept h.g d2⟩

theorem SB.tree6Put {w0 w : World} {os : List (Nat × TypeId × List Value)} {g b i0 i1 i2 k : Nat} {x y z u0 u1 u2 : Value} (h : SB w0 w os) (m : (g, 25, [x, y, z]) ∈ os) (d0 : w0.cell? ⟨b, i0, none⟩ = some u0) (d1 : w0.cell? ⟨b, i1, none⟩ = some u1) (d2 : w0.cell? ⟨b, i2, none⟩ = some u2) (hk : ¬ k = g) (hb : ¬ k = b) (a e f : Value) :
    (fun w' : World => w'.cell? ⟨g, 0, none⟩ = some x ∧ w'.cell? ⟨g, 1, none⟩ = some y ∧ w'.cell? ⟨g, 2, none⟩ = some z ∧ w'.cell? ⟨b, i0, none⟩ = some u0 ∧ w'.cell? ⟨b, i1, none⟩ = some u1 ∧ w'.cell? ⟨b, i2, none⟩ = some u2) (((w.setCell ⟨k, 0, none⟩ a).setCell ⟨k, 1, none⟩ e).setCell ⟨k, 2, none⟩ f) := by
  obtain ⟨h0, h1, h2, h3, h4, h5⟩ := h.tree6 m d0 d1 d2
  exact ⟨other_get hk (other_get hk (other_get hk h0)), other_get hk (other_get hk (other_get hk h1)), other_get hk (other_get hk (other_get hk h2)), other_get hb (other_get hb (other_get hb h3)), other_get hb (other_get hb (other_get hb h4)), other_get hb (other_get hb (other_get hb h5))⟩

/-- Neither of two boxes. -/
def Off (gx gy : Nat) (v : Value) : Prop := ∀ g, v.ownBlock = some g → g ≠ gx ∧ g ≠ gy

/-- A box that holds a tree whose rows lie in neither of two boxes. -/
def HoldsM (w : World) (gt gx gy : Nat) (xs : List It) (wr : World) : Prop :=
  ∃ A c ns r FA fc free, allF ns r free = some xs ∧ Own wr gt 25 [.slice A ns.length c, .int .i64 r, .slice FA free.length fc] ∧ MineE nodeE wr 0 (.slice A ns.length c) ns.length ns ∧ Mine wr 0 (.slice FA free.length fc) free.length free ∧ Off gx gy (.slice A ns.length c) ∧ Off gx gy (.slice FA free.length fc) ∧ w.grownBy wr none

theorem HoldsM.g {w wr : World} {gt gx gy : Nat} {xs : List It} (h : HoldsM w gt gx gy xs wr) : w.grownBy wr none := by
  obtain ⟨_, _, _, _, _, _, _, _, _, _, _, _, _, g⟩ := h
  exact g

theorem HoldsM.grown {w wr w' : World} {gt gx gy : Nat} {xs : List It} (h : HoldsM w gt gx gy xs wr) (k : wr.grownBy w' none) : HoldsM w gt gx gy xs w' := by
  obtain ⟨A, c, ns, r, FA, fc, free, h1, h2, h3, h4, h5, h6, h7⟩ := h
  exact ⟨A, c, ns, r, FA, fc, free, h1, h2.kept k, h3.kept k, h4.kept k, h5, h6, grown_trans h7 k⟩

/-- Another box written over. -/
theorem HoldsM.other {w wr : World} {gt go gx gy : Nat} {xs : List It} (h : HoldsM w gt gx gy xs wr) (ho : go = gx ∨ go = gy) (hne : ¬ go = gt) (hw : w.heap.size ≤ go) (a b c : Value) : HoldsM w gt gx gy xs (((wr.setCell ⟨go, 0, none⟩ a).setCell ⟨go, 1, none⟩ b).setCell ⟨go, 2, none⟩ c) := by
  obtain ⟨A, c', ns, r, FA, fc, free, h1, h2, h3, h4, h5, h6, h7⟩ := h
  have kx := grown_set3 (w := wr) (g := go) a b c
  refine ⟨A, c', ns, r, FA, fc, free, h1, ((h2.setOther hne _).setOther hne _).setOther hne _, h3.kept' kx ?_, h4.kept' kx ?_, h5, h6, grown_put3 h7 hw _ _ _⟩
  · intro k hk e
    injection e with e
    have := h5 k hk
    omega
  · intro k hk e
    injection e with e
    have := h6 k hk
    omega

theorem holdsM_put {w w0 wx : World} {gt gx gy : Nat} {ns : List Nd} {r : Int} {free : List Int} {xs : List It} {A FA : Option Addr} {c fc : Nat} {x y u : Value} (ho : gt = gx ∨ gt = gy) (hx : gx < w0.heap.size) (hy : gy < w0.heap.size) (hg : w.heap.size ≤ gt) (k : w.grownBy wx none) (o : Own wx gt 25 [x, y, u]) (m : MineE nodeE wx w0.heap.size (.slice A ns.length c) ns.length ns) (f : Mine wx w0.heap.size (.slice FA free.length fc) free.length free) (h : allF ns r free = some xs) :
    HoldsM w gt gx gy xs (((wx.setCell ⟨gt, 0, none⟩ (.slice A ns.length c)).setCell ⟨gt, 1, none⟩ (.int .i64 r)).setCell ⟨gt, 2, none⟩ (.slice FA free.length fc)) := by
  have kx := grown_set3 (w := wx) (g := gt) (.slice A ns.length c) (.int .i64 r) (.slice FA free.length fc)
  have m' := m.kept' kx (fun k hk e => by injection e with e; have := m.own_ge k hk; omega)
  have f' := f.kept' kx (fun k hk e => by injection e with e; have := f.own_ge k hk; omega)
  exact ⟨A, c, ns, r, FA, fc, free, h, o.set3 _ _ _, m'.wide (Nat.zero_le _), f'.wide (Nat.zero_le _), fun g hg => by have := m.own_ge g hg; omega, fun g hg => by have := f.own_ge g hg; omega, grown_put3 k hg _ _ _⟩

theorem putIn_yes {xs : List It} {x : It} (h : insE (some xs) x = 0) : putIn xs x = withF x xs := by rw [putIn, if_pos h]
theorem putIn_no {xs : List It} {x : It} (h : ¬ insE (some xs) x = 0) : putIn xs x = xs := by rw [putIn, if_neg h]

/-- The first items, put in one by one. -/
def putK (its : List It) (k : Nat) : List It := (its.take k).foldl putIn []

theorem putK_zero (its : List It) : putK its 0 = [] := by simp [putK]
theorem putK_next {its : List It} {k : Nat} (h : k < its.length) : putK its (k + 1) = putIn (putK its k) (it its k) := by rw [putK, it_take h, List.foldl_append]; rfl
theorem putK_all {its : List It} {k : Nat} (h : its.length ≤ k) : putK its k = putAll its := by rw [putK, List.take_of_length_le h]; rfl

/-- A box just filled holds its tree. -/
theorem holds_new {w wx : World} {b g : Nat} {ns : List Nd} {r : Int} {free : List Int} {xs : List It} {A FA : Option Addr} {c fc : Nat} (o : Own wx g 25 [.slice A ns.length c, .int .i64 r, .slice FA free.length fc]) (m : MineE nodeE wx b (.slice A ns.length c) ns.length ns) (f : Mine wx b (.slice FA free.length fc) free.length free) (k : w.grownBy wx none) (h : allF ns r free = some xs) : HoldsT w g xs wx := by
  obtain ⟨A1, c1, F1, fc1, e1, e2, _, _, ta⟩ := tre_of m f (free_ok h)
  injection e1 with e1 _ e3
  injection e2 with e4 _ e6
  subst e1 e3 e4 e6
  exact ⟨_, _, _, ns, r, _, _, _, free, h, o, ta, k⟩

theorem inMid_holds {w w0 wx : World} {P : List Nd → Int → List Int → Int → Prop} {p z : Value} {zz : Int} {xs : List It} (h : InMid w0 P p z wx) (hp : ∀ ns r free z', P ns r free z' → z' = zz ∧ allF ns r free = some xs) (k : w.grownBy w0 none) :
    ∃ g, p = .pointer (some ⟨g, 0, none⟩) ∧ z = .int .i64 zz ∧ w0.heap.size ≤ g ∧ HoldsT w g xs wx ∧ w0.grownBy wx none := by
  obtain ⟨ns, r, free, z', g, A, c, FA, fc, h1, rfl, rfl, hg, o, m, f, gx⟩ := h
  obtain ⟨rfl, hx⟩ := hp _ _ _ _ h1
  exact ⟨g, rfl, rfl, hg, holds_new o m f (grown_trans k gx) hx, gx⟩

theorem inMid_fails {w0 wx : World} {P : List Nd → Int → List Int → Int → Prop} {p z : Value} {zz : Int} (h : InMid w0 P p z wx) (hp : ∀ ns r free z', P ns r free z' → z' = zz) : (∃ g, p = .pointer (some ⟨g, 0, none⟩)) ∧ z = .int .i64 zz ∧ w0.grownBy wx none := by
  obtain ⟨ns, r, free, z', g, A, c, FA, fc, h1, rfl, rfl, hg, o, m, f, gx⟩ := h
  obtain rfl := hp _ _ _ _ h1
  exact ⟨⟨g, rfl⟩, rfl, gx⟩

/-- Two boxes that hold trees. -/
theorem SB.two3 {w0 w : World} {os : List (Nat × TypeId × List Value)} {g h : Nat} {x y z a b c : Value} (hs : SB w0 w os) (m : (g, 25, [x, y, z]) ∈ os) (n : (h, 25, [a, b, c]) ∈ os) :
    (fun w' : World => w'.cell? ⟨g, 0, none⟩ = some x ∧ w'.cell? ⟨g, 1, none⟩ = some y ∧ w'.cell? ⟨g, 2, none⟩ = some z ∧ w'.cell? ⟨h, 0, none⟩ = some a ∧ w'.cell? ⟨h, 1, none⟩ = some b ∧ w'.cell? ⟨h, 2, none⟩ = some c) w :=
  have o := (hs.own m).three
  have p := (hs.own n).three
  ⟨o.1, o.2.1, o.2.2, p.1, p.2.1, p.2.2⟩

/-- A block that the region made, written over: what is known whole besides stays so. -/
theorem SB.put3 {w0 w : World} {os : List (Nat × TypeId × List Value)} {g : Nat} {T : TypeId} {x y z : Value} (h : SB w0 w ((g, T, [x, y, z]) :: os)) (hg : w0.heap.size ≤ g) (ho : ∀ o ∈ os, ¬ g = o.1) (a b c : Value) : SB w0 (((w.setCell ⟨g, 0, none⟩ a).setCell ⟨g, 1, none⟩ b).setCell ⟨g, 2, none⟩ c) os :=
  ⟨grown_put3 h.g hg _ _ _, fun o m => (((h.st o (List.mem_cons_of_mem _ m)).setOther (ho o m) _).setOther (ho o m) _).setOther (ho o m) _⟩

theorem Own.eltsT {α : Type} {E : Elt α} {w : World} {g : Nat} (xs : List α) (n : Nat) (hn : n = xs.length) (hl : xs.length ≤ 1000) (h : Own w g E.T (E.flat xs)) : Elts E w (g + 1) (some ⟨g, 0, none⟩) n xs := by
  subst hn
  refine ⟨rfl, by omega, fun _ => ⟨g, 0, rfl, by omega, fun i hi j v hv => ?_⟩⟩
  have hj : j < E.size := by
    rcases Nat.lt_or_ge j E.size with k | k
    · exact k
    · rw [List.getElem?_eq_none (by rw [E.len]; exact k)] at hv; cases hv
  rw [Nat.zero_add, h.cell, E.flat_get xs i j hj]
  rw [List.getElem?_eq_getElem hi] at hv ⊢
  exact hv

theorem SB.its {w0 w : World} {os : List (Nat × TypeId × List Value)} {g n : Nat} (xs : List It) (h : SB w0 w os) (m : (g, 50, itemE.flat xs) ∈ os) (hn : n = xs.length) (hl : xs.length ≤ 1000) : Elts itemE w w.heap.size (some ⟨g, 0, none⟩) n xs :=
  (Own.eltsT (E := itemE) xs n hn hl (h.own m)).wide (h.own m).lt

/-- A row told is a literal. -/
theorem SameL {w0 w wz : World} {g c n B : Nat} {A : Option Addr} {os : List (Nat × TypeId × List Value)} {xs : List It} (r : Elts itemE wz B A n xs) (h : SB w0 w os) (hB : B ≤ wz.heap.size) (hw : wz.grownBy w none) (m : (g, 50, itemE.flat xs) ∈ os) (hn : n = xs.length) (hl : xs.length ≤ 1000) :
    Calls Try.prog 18 #[.slice A n c, .slice (some ⟨g, 0, none⟩) n n] w (Says w (.bool true)) := by
  have := SameItems_any A n c xs (some ⟨g, 0, none⟩) n n xs w (r.grown hB hw) (Nat.le_trans hB hw.size) (h.its xs m hn hl) (Nat.le_refl _)
  rw [decide_eq_true (rfl : xs = xs)] at this
  exact this

end Go.Proofs.Ytgfehlmiejnonaa
