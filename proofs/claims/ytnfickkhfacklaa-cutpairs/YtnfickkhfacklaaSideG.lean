/-
  What every program answers that is one: layer 8's awake.
-/
import Derived.Test.YtnfickkhfacklaaSideF
namespace Go.Proofs.Ytnfickkhfacklaa
open Go.RowKit

theorem small8_any (w : World) : Calls Try.prog 60 #[] w (SmallPost w) := by
  have HB := Lib.hid (box2 (w := w) (T := 24) (U := 78) [.int .i64 3, .slice (some ⟨w.heap.size + 1, 0, none⟩) 3 3] smallV (World.grownBy.refl _ none))
  go_enter Try.func60, Try.ntmps60
  go_wp2
  obtain ⟨g, o1, o2⟩ := HB.out
  exact post_graph rfl rfl o1.two.1 o1.two.2 rfl ⟨w.heap.size + 1, rfl, small_flat ▸ o2, by omega, g⟩

/-- Blocks that are known whole. -/
def StS (w : World) (os : List (Nat × TypeId × List Value)) : Prop := ∀ o ∈ os, Own w o.1 o.2.1 o.2.2

theorem StS.kept {w w' : World} {os : List (Nat × TypeId × List Value)} (h : StS w os) (k : w.grownBy w' none) : StS w' os := fun o ho => (h o ho).kept k

theorem StS.cons {w : World} {os : List (Nat × TypeId × List Value)} {g : Nat} {T : TypeId} {vs : List Value} (h : StS w os) (o : Own w g T vs) : StS w ((g, T, vs) :: os) := by
  intro x hx
  rcases List.mem_cons.1 hx with rfl | hx
  · exact o
  · exact h x hx

theorem StS.lit {w : World} {os : List (Nat × TypeId × List Value)} {vs : Array Value} {T : TypeId} (h : StS w os) : StS (w.alloc (.cells vs T)) ((w.heap.size, T, vs.toList) :: os) :=
  (h.kept (grow0 _ _)).cons (by have := Own.new w T vs.toList; simpa using this)

theorem StS.nil (w : World) : StS w [] := fun _ h => by cases h

theorem Own.rowS {w : World} {g n : Nat} (xs : List Int) (h : Own w g 3 (ints xs)) (hn : n = xs.length) (hl : xs.length ≤ 1000) (hok : xs.all bdB = true) : Row w (g + 1) (some ⟨g, 0, none⟩) n xs := by
  subst hn
  refine ⟨rfl, by omega, ok_of hok, fun _ => ⟨g, 0, rfl, by omega, fun i hi => ?_⟩⟩
  rw [Nat.zero_add, h.cell i, ints_get xs i hi]

/-- Grown since w0; blocks that are known whole. -/
structure SB (w0 w : World) (os : List (Nat × TypeId × List Value)) : Prop where
  g : w0.grownBy w none
  st : StS w os

theorem SB.kept {w0 w w' : World} {os : List (Nat × TypeId × List Value)} (h : SB w0 w os) (k : w.grownBy w' none) : SB w0 w' os := ⟨grown_trans h.g k, h.st.kept k⟩

theorem SB.lit {w0 w : World} {os : List (Nat × TypeId × List Value)} {vs : Array Value} {T : TypeId} (h : SB w0 w os) : SB w0 (w.alloc (.cells vs T)) ((w.heap.size, T, vs.toList) :: os) := ⟨grown_alloc h.g _, h.st.lit⟩

theorem SB.cons {w0 w : World} {os : List (Nat × TypeId × List Value)} {g : Nat} {T : TypeId} {vs : List Value} (h : SB w0 w os) (o : Own w g T vs) : SB w0 w ((g, T, vs) :: os) := ⟨h.g, h.st.cons o⟩

theorem SB.less {w0 w : World} {os : List (Nat × TypeId × List Value)} (h : SB w0 w os) : SB w0 w [] := ⟨h.g, StS.nil w⟩

theorem SB.own {w0 w : World} {os : List (Nat × TypeId × List Value)} {g : Nat} {T : TypeId} {vs : List Value} (h : SB w0 w os) (m : (g, T, vs) ∈ os) : Own w g T vs := h.st (g, T, vs) m

theorem SB.lks {w0 w : World} {os : List (Nat × TypeId × List Value)} {gs : Nat} (h : SB w0 w os) (ms : (gs, 78, linkE.flat smallL) ∈ os) : Lks w w.heap.size (some ⟨gs, 0, none⟩) 3 smallL := Own.lks' smallL 3 rfl (by decide) (by decide) (h.own ms)

theorem SB.row {w0 w : World} {os : List (Nat × TypeId × List Value)} {g n : Nat} (xs : List Int) (h : SB w0 w os) (m : (g, 3, ints xs) ∈ os) (hn : n = xs.length) (hl : xs.length ≤ 1000) (hb : xs.all bdB = true) : Row w w.heap.size (some ⟨g, 0, none⟩) n xs := (Own.rowS xs (h.own m) hn hl hb).wide (h.own m).lt

theorem LeavS {w0 w : World} {gs gv n : Nat} {os : List (Nat × TypeId × List Value)} (vs : List Int) (hn : n = vs.length) (hl : vs.length ≤ 1000) (hb : vs.all bdB = true) (h : SB w0 w os) (ms : (gs, 78, linkE.flat smallL) ∈ os) (mv : (gv, 3, ints vs) ∈ os) :
    Calls Try.prog 28 #[.agg #[.int .i64 3, .slice (some ⟨gs, 0, none⟩) 3 3], .slice (some ⟨gv, 0, none⟩) n n] w (SelPost w (leavV 3 smallL vs) (leavE 3 smallL vs)) :=
  Leaving_any 3 _ 3 3 smallL _ n n vs w (h.lks ms) (Nat.le_refl _) (h.row vs mv hn hl hb) (Nat.le_refl _)

theorem MayS {w0 w : World} {gs gv n : Nat} {os : List (Nat × TypeId × List Value)} {s t : Int} (vs : List Int) (hn : n = vs.length) (hl : vs.length ≤ 1000) (hb : vs.all bdB = true) (h : SB w0 w os) (ms : (gs, 78, linkE.flat smallL) ∈ os) (mv : (gv, 3, ints vs) ∈ os) :
    Calls Try.prog 30 #[.agg #[.int .i64 3, .slice (some ⟨gs, 0, none⟩) 3 3], .int .i64 s, .int .i64 t, .slice (some ⟨gv, 0, none⟩) n n] w (Says w (.bool (cutB 3 smallL s t vs))) :=
  SMay_any 3 s t _ 3 3 smallL _ n n vs w (h.lks ms) (Nat.le_refl _) (h.row vs mv hn hl hb) (Nat.le_refl _)

theorem WorthS {w0 w : World} {gs gc gv p n : Nat} {os : List (Nat × TypeId × List Value)} (caps vs : List Int) (hp : p = caps.length) (kl : caps.length ≤ 1000) (kb : caps.all bdB = true) (hn : n = vs.length) (hl : vs.length ≤ 1000) (hb : vs.all bdB = true) (h : SB w0 w os) (ms : (gs, 78, linkE.flat smallL) ∈ os) (mc : (gc, 3, ints caps) ∈ os) (mv : (gv, 3, ints vs) ∈ os) :
    Calls Try.prog 33 #[.agg #[.int .i64 3, .slice (some ⟨gs, 0, none⟩) 3 3], .slice (some ⟨gc, 0, none⟩) p p, .slice (some ⟨gv, 0, none⟩) n n] w (Says w (wthV 3 smallL caps vs)) :=
  Worth_any 3 _ 3 3 smallL _ p p caps _ n n vs w (h.lks ms) (Nat.le_refl _) (h.row caps mc hp kl kb) (Nat.le_refl _) (h.row vs mv hn hl hb) (Nat.le_refl _)

theorem ProvesS {w0 w : World} {gs gc gv p n : Nat} {os : List (Nat × TypeId × List Value)} {s t R : Int} (caps vs : List Int) (hp : p = caps.length) (kl : caps.length ≤ 1000) (kb : caps.all bdB = true) (hn : n = vs.length) (hl : vs.length ≤ 1000) (hb : vs.all bdB = true) (h : SB w0 w os) (ms : (gs, 78, linkE.flat smallL) ∈ os) (mc : (gc, 3, ints caps) ∈ os) (mv : (gv, 3, ints vs) ∈ os) :
    Calls Try.prog 35 #[.agg #[.int .i64 3, .slice (some ⟨gs, 0, none⟩) 3 3], .slice (some ⟨gc, 0, none⟩) p p, .int .i64 s, .int .i64 t, .int .i64 R, .slice (some ⟨gv, 0, none⟩) n n] w (Says w (prvV 3 smallL caps s t R vs)) :=
  Proves_any 3 s t R _ 3 3 smallL _ p p caps _ n n vs w (h.lks ms) (Nat.le_refl _) (h.row caps mc hp kl kb) (Nat.le_refl _) (h.row vs mv hn hl hb) (Nat.le_refl _)

theorem SameS {w0 w wz : World} {g c n B : Nat} {A : Option Addr} {os : List (Nat × TypeId × List Value)} {xs : List Int} (r : Row wz B A n xs) (h : SB w0 w os) (hB : B ≤ wz.heap.size) (hw : wz.grownBy w none) (m : (g, 3, ints xs) ∈ os) (hn : n = xs.length) (hl : xs.length ≤ 1000) (hb : xs.all bdB = true) :
    Calls Try.prog 15 #[.slice A n c, .slice (some ⟨g, 0, none⟩) n n] w (Says w (.bool true)) :=
  sameB_refl xs ▸ same_says (SameInts0_any A n c xs _ n n xs w (r.grown hB hw) (h.row xs m hn hl hb))

theorem cut_small : leavV 3 smallL [0, 1] = [1, 2] ∧ leavE 3 smallL [0, 1] = 0 ∧ leavE 3 smallL [1, 0] = 800 ∧ worthX 3 smallL [5, 4, 3] [0, 1] = 7 ∧ worthE 3 smallL [5, 4, 3] [0, 1] = 0 ∧ provE 3 smallL [5, 4, 3] = 0 ∧ provB 3 smallL [5, 4, 3] 0 2 8 [0, 1] = true ∧ provB 3 smallL [5, 4, 3] 0 2 7 [0, 1] = false ∧ cutB 3 smallL 0 2 [0, 1] = true ∧ cutB 3 smallL 0 2 [0, 2] = false := by
  decide

set_option maxHeartbeats 2000000 in
theorem awake8_any (w : World) : Calls Try.prog 32 #[] w (Says w (.bool true)) := by
  go_enter Try.func32, Try.ntmps32
  go_wp2_with fail
  refine (small8_any _).mono ?_
  rintro e w1 ⟨gs, rfl, os, _, k⟩
  have HS : Hid (SB w w1 [(gs, 78, linkE.flat smallL)]) := SB.cons ⟨k, StS.nil _⟩ os
  clear os k
  go_wp2_with fail
  refine (LeavS [0, 1] rfl (by decide) (by decide) HS.out.lit (by simp) (by simp [ints])).mono ?_
  rintro e w2 ⟨va, he, ha, k⟩
  rw [cut_small.2.1] at he
  subst he
  rw [cut_small.1] at ha
  obtain ⟨Aa, ca, rfl, _, ra⟩ := ha.row (ok_of (xs := [1, 2]) (by decide))
  have RA := Lib.hid ra
  have HS := Lib.hid (HS.out.lit.kept k).less
  have HG2 := Lib.hid (World.grownBy.refl w2 none)
  clear k ra ha
  go_wp2_with fail
  refine (small8_any _).mono ?_
  rintro e w3 ⟨gs3, rfl, os, _, k⟩
  have HS := Lib.hid ((HS.out.kept k).cons os)
  have HG2 := Lib.hid (grown_trans HG2.out k)
  clear os k
  go_wp2_with fail
  refine (WorthS [5, 4, 3] [0, 1] rfl (by decide) (by decide) rfl (by decide) (by decide) HS.out.lit.lit (by simp) (by simp [ints]) (by simp [ints])).mono ?_
  rintro e w4 ⟨he, k⟩
  rw [wthV, cut_small.2.2.2.1, cut_small.2.2.2.2.1] at he
  subst he
  have HG2 := Lib.hid (grown_trans (grown_alloc (grown_alloc HG2.out _) _) k)
  have HS := Lib.hid (HS.out.lit.lit.kept k).less
  clear k
  go_wp2_with fail
  refine (small8_any _).mono ?_
  rintro e w5 ⟨gs5, rfl, os, _, k⟩
  have HS := Lib.hid ((HS.out.kept k).cons os)
  have HG2 := Lib.hid (grown_trans HG2.out k)
  clear os k
  go_wp2_with fail
  refine (ProvesS [5, 4, 3] [0, 1] rfl (by decide) (by decide) rfl (by decide) (by decide) HS.out.lit.lit (by simp) (by simp [ints]) (by simp [ints])).mono ?_
  rintro e w6 ⟨he, k⟩
  rw [prvV, cut_small.2.2.2.2.2.1, cut_small.2.2.2.2.2.2.1] at he
  subst he
  have HG2 := Lib.hid (grown_trans (grown_alloc (grown_alloc HG2.out _) _) k)
  have HS := Lib.hid (HS.out.lit.lit.kept k).less
  clear k
  go_wp2_with fail
  refine (small8_any _).mono ?_
  rintro e w7 ⟨gs7, rfl, os, _, k⟩
  have HS := Lib.hid ((HS.out.kept k).cons os)
  have HG2 := Lib.hid (grown_trans HG2.out k)
  clear os k
  go_wp2_with fail
  refine (ProvesS [5, 4, 3] [0, 1] rfl (by decide) (by decide) rfl (by decide) (by decide) HS.out.lit.lit (by simp) (by simp [ints]) (by simp [ints])).mono ?_
  rintro e w8 ⟨he, k⟩
  rw [prvV, cut_small.2.2.2.2.2.1, cut_small.2.2.2.2.2.2.2.1] at he
  subst he
  have HG2 := Lib.hid (grown_trans (grown_alloc (grown_alloc HG2.out _) _) k)
  have HS := Lib.hid (HS.out.lit.lit.kept k).less
  clear k
  go_wp2_with fail
  refine (small8_any _).mono ?_
  rintro e w9 ⟨gs9, rfl, os, _, k⟩
  have HS := Lib.hid ((HS.out.kept k).cons os)
  have HG2 := Lib.hid (grown_trans HG2.out k)
  clear os k
  go_wp2_with fail
  refine (LeavS [1, 0] rfl (by decide) (by decide) HS.out.lit (by simp) (by simp [ints])).mono ?_
  rintro e w10 ⟨vb, he, _, k⟩
  rw [cut_small.2.2.1] at he
  subst he
  have HG2 := Lib.hid (grown_trans (grown_alloc HG2.out _) k)
  have HS := Lib.hid (HS.out.lit.kept k).less
  clear k
  go_wp2_with fail
  refine (small8_any _).mono ?_
  rintro e w11 ⟨gs11, rfl, os, _, k⟩
  have HS := Lib.hid ((HS.out.kept k).cons os)
  have HG2 := Lib.hid (grown_trans HG2.out k)
  clear os k
  go_wp2_with fail
  refine (MayS [0, 1] rfl (by decide) (by decide) HS.out.lit (by simp) (by simp [ints])).mono ?_
  rintro e w12 ⟨he, k⟩
  rw [cut_small.2.2.2.2.2.2.2.2.1] at he
  subst he
  have HG2 := Lib.hid (grown_trans (grown_alloc HG2.out _) k)
  have HS := Lib.hid (HS.out.lit.kept k).less
  clear k
  go_wp2_with fail
  refine (small8_any _).mono ?_
  rintro e w13 ⟨gs13, rfl, os, _, k⟩
  have HS := Lib.hid ((HS.out.kept k).cons os)
  have HG2 := Lib.hid (grown_trans HG2.out k)
  clear os k
  go_wp2_with fail
  refine (MayS [0, 2] rfl (by decide) (by decide) HS.out.lit (by simp) (by simp [ints])).mono ?_
  rintro e w14 ⟨he, k⟩
  rw [cut_small.2.2.2.2.2.2.2.2.2] at he
  subst he
  have HG2 := Lib.hid (grown_trans (grown_alloc HG2.out _) k)
  have HS := Lib.hid (HS.out.lit.kept k).less
  clear k
  go_wp2_with fail
  refine (SameS RA.out HS.out.lit (Nat.le_refl _) (grown_alloc HG2.out _) (by simp [ints]) rfl (by decide) (by decide)).mono ?_
  rintro e w15 ⟨rfl, k⟩
  have HS := Lib.hid (HS.out.lit.kept k).less
  clear k
  go_wp2_with fail
  refine (num_says _ _).mono ?_
  rintro e w16 ⟨rfl, k⟩
  have HS := Lib.hid (HS.out.kept k)
  clear k
  go_wp2_with fail
  refine (num_says _ _).mono ?_
  rintro e w17 ⟨rfl, k⟩
  have HS := Lib.hid (HS.out.kept k)
  clear k
  go_wp2_with fail
  refine (num_says _ _).mono ?_
  rintro e w18 ⟨rfl, k⟩
  have HS := Lib.hid (HS.out.kept k)
  clear k
  go_wp2_with fail
  refine (num_says _ _).mono ?_
  rintro e w19 ⟨rfl, k⟩
  have HS := Lib.hid (HS.out.kept k)
  clear k
  go_wp2_with fail
  refine (num_says _ _).mono ?_
  rintro e w20 ⟨rfl, k⟩
  have HS := Lib.hid (HS.out.kept k)
  clear k
  go_wp2
  go_ret
  exact ⟨rfl, HS.out.g⟩

end Go.Proofs.Ytnfickkhfacklaa
