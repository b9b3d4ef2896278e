/-
  What every program answers that is one: layer 9's awake.
-/
import Derived.Test.YtmodkhcfihlhgaaFlowE
import Derived.Test.YtmodkhcfihlhgaaBlocks
namespace Go.Proofs.Ytmodkhcfihlhgaa
open Go.RowKit

theorem small9_any (w : World) : Calls Try.prog 81 #[] w (SmallPost w) := by
  have HB := Lib.hid (box2 (w := w) (T := 24) (U := 87) [.int .i64 3, .slice (some ⟨w.heap.size + 1, 0, none⟩) 3 3] smallV (World.grownBy.refl _ none))
  go_enter Try.func81, Try.ntmps81
  go_wp2
  obtain ⟨g, o1, o2⟩ := HB.out
  exact post_graph rfl rfl o1.two.1 o1.two.2 rfl ⟨w.heap.size + 1, rfl, small_flat ▸ o2, by omega, g⟩

theorem ValueS {w0 w : World} {gs gf q : Nat} {os : List (Nat × TypeId × List Value)} {s : Int} (f : List Int) (hfn : q = f.length) (hfl : f.length ≤ 1000) (hfb : f.all bdB = true) (mf : (gf, 3, ints f) ∈ os) (h : SB w0 w os) (ms : (gs, 87, linkE.flat smallL) ∈ os) :
    Calls Try.prog 44 #[.agg #[.int .i64 3, .slice (some ⟨gs, 0, none⟩) 3 3], .slice (some ⟨gf, 0, none⟩) q q, .int .i64 s] w (Says w (valV 3 smallL f s)) :=
  Value_any 3 s _ 3 3 smallL _ q q f w (h.lks ms) (Nat.le_refl _) (h.row f mf hfn hfl hfb) (Nat.le_refl _)

theorem RoomS {w0 w : World} {gs gc gf p q : Nat} {os : List (Nat × TypeId × List Value)} {a : Int} (caps f : List Int) (hcapsn : p = caps.length) (hcapsl : caps.length ≤ 1000) (hcapsb : caps.all bdB = true) (mcaps : (gc, 3, ints caps) ∈ os) (hfn : q = f.length) (hfl : f.length ≤ 1000) (hfb : f.all bdB = true) (mf : (gf, 3, ints f) ∈ os) (h : SB w0 w os) (ms : (gs, 87, linkE.flat smallL) ∈ os) :
    Calls Try.prog 46 #[.agg #[.int .i64 3, .slice (some ⟨gs, 0, none⟩) 3 3], .slice (some ⟨gc, 0, none⟩) p p, .slice (some ⟨gf, 0, none⟩) q q, .int .i64 a] w (Says w (roomV 3 smallL caps f a)) :=
  SRoom_any 3 a _ 3 3 smallL _ p p caps _ q q f w (h.lks ms) (Nat.le_refl _) (h.row caps mcaps hcapsn hcapsl hcapsb) (Nat.le_refl _) (h.row f mf hfn hfl hfb) (Nat.le_refl _)

theorem FMayS {w0 w : World} {gs gc gf p q : Nat} {os : List (Nat × TypeId × List Value)} {s t : Int} (caps f : List Int) (hcapsn : p = caps.length) (hcapsl : caps.length ≤ 1000) (hcapsb : caps.all bdB = true) (mcaps : (gc, 3, ints caps) ∈ os) (hfn : q = f.length) (hfl : f.length ≤ 1000) (hfb : f.all bdB = true) (mf : (gf, 3, ints f) ∈ os) (h : SB w0 w os) (ms : (gs, 87, linkE.flat smallL) ∈ os) :
    Calls Try.prog 49 #[.agg #[.int .i64 3, .slice (some ⟨gs, 0, none⟩) 3 3], .slice (some ⟨gc, 0, none⟩) p p, .slice (some ⟨gf, 0, none⟩) q q, .int .i64 s, .int .i64 t] w (Says w (.bool (flowB 3 smallL caps f s t))) :=
  FMay_any 3 s t _ 3 3 smallL _ p p caps _ q q f w (h.lks ms) (Nat.le_refl _) (h.row caps mcaps hcapsn hcapsl hcapsb) (Nat.le_refl _) (h.row f mf hfn hfl hfb) (Nat.le_refl _)

theorem MoveS {w0 w : World} {gs gc gf gr p q m : Nat} {os : List (Nat × TypeId × List Value)} {b : Int} (caps f rs : List Int) (hcapsn : p = caps.length) (hcapsl : caps.length ≤ 1000) (hcapsb : caps.all bdB = true) (mcaps : (gc, 3, ints caps) ∈ os) (hfn : q = f.length) (hfl : f.length ≤ 1000) (hfb : f.all bdB = true) (mf : (gf, 3, ints f) ∈ os) (hrsn : m = rs.length) (hrsl : rs.length ≤ 1000) (hrsb : rs.all bdB = true) (mrs : (gr, 3, ints rs) ∈ os) (h : SB w0 w os) (ms : (gs, 87, linkE.flat smallL) ∈ os) :
    Calls Try.prog 51 #[.agg #[.int .i64 3, .slice (some ⟨gs, 0, none⟩) 3 3], .slice (some ⟨gc, 0, none⟩) p p, .slice (some ⟨gf, 0, none⟩) q q, .int .i64 b, .slice (some ⟨gr, 0, none⟩) m m] w (SelPost w (movV 3 smallL caps f b rs) (movE 3 smallL caps f b rs)) :=
  Move_any 3 b _ 3 3 smallL _ p p caps _ q q f _ m m rs w (h.lks ms) (Nat.le_refl _) (h.row caps mcaps hcapsn hcapsl hcapsb) (Nat.le_refl _) (h.row f mf hfn hfl hfb) (Nat.le_refl _) (h.row rs mrs hrsn hrsl hrsb) (Nat.le_refl _)

theorem flow_small1 : valX 3 smallL [2, 2, 1] 0 = 3 ∧ valE 3 smallL [2, 2, 1] 0 = 0 := by decide
theorem flow_small2 : roomX 3 smallL [5, 4, 3] [2, 2, 1] 1 = 2 ∧ roomE 3 smallL [5, 4, 3] [2, 2, 1] 1 = 0 ∧ roomE 3 smallL [5, 4, 3] [2, 2, 1] 6 = 900 := by decide
theorem flow_small3 : movV 3 smallL [5, 4, 3] [2, 2, 1] 2 [0, 2] = [4, 4, 1] ∧ movE 3 smallL [5, 4, 3] [2, 2, 1] 2 [0, 2] = 0 ∧ movE 3 smallL [5, 4, 3] [2, 2, 1] 3 [0, 2] = 901 := by decide
theorem flow_small4 : flowB 3 smallL [5, 4, 3] [2, 2, 1] 0 2 = true ∧ flowB 3 smallL [5, 4, 3] [2, 1, 1] 0 2 = false := by decide

set_option maxHeartbeats 4000000 in
theorem awake9_any (w : World) : Calls Try.prog 48 #[] w (Says w (.bool true)) := by
  have HS : Hid (SB w (w.alloc (.cells #[.int .i64 2, .int .i64 2, .int .i64 1] 3)) [(w.heap.size, 3, ints [2, 2, 1])]) := SB.lit ⟨World.grownBy.refl w none, StS.nil _⟩
  go_enter Try.func48, Try.ntmps48
  go_wp2_with fail
  refine (small9_any _).mono ?_
  rintro e w1 ⟨gs1, rfl, os, _, k⟩
  have HS := Lib.hid ((HS.out.kept k).cons os)
  clear os k
  go_wp2_with fail
  refine (ValueS [2, 2, 1] rfl (by decide) (by decide) (by simp [ints]) HS.out (by simp)).mono ?_
  rintro e w2 ⟨he, k⟩
  rw [valV, flow_small1.1, flow_small1.2] at he
  subst he
  have HS := Lib.hid ((HS.out.kept k).only (g := w.heap.size) (T := 3) (vs := ints [2, 2, 1]) (by simp))
  clear k
  go_wp2_with fail
  refine (small9_any _).mono ?_
  rintro e w3 ⟨gs3, rfl, os, _, k⟩
  have HS := Lib.hid ((HS.out.kept k).cons os)
  clear os k
  go_wp2_with fail
  refine (RoomS [5, 4, 3] [2, 2, 1] rfl (by decide) (by decide) (by simp [ints]) rfl (by decide) (by decide) (by simp [ints]) HS.out.lit (by simp)).mono ?_
  rintro e w4 ⟨he, k⟩
  rw [roomV, flow_small2.1, flow_small2.2.1] at he
  subst he
  have HS := Lib.hid ((HS.out.lit.kept k).only (g := w.heap.size) (T := 3) (vs := ints [2, 2, 1]) (by simp))
  clear k
  go_wp2_with fail
  refine (small9_any _).mono ?_
  rintro e w5 ⟨gs5, rfl, os, _, k⟩
  have HS := Lib.hid ((HS.out.kept k).cons os)
  clear os k
  go_wp2_with fail
  refine (MoveS [5, 4, 3] [2, 2, 1] [0, 2] rfl (by decide) (by decide) (by simp [ints]) rfl (by decide) (by decide) (by simp [ints]) rfl (by decide) (by decide) (by simp [ints]) HS.out.lit.lit (by simp)).mono ?_
  rintro e w6 ⟨va, he, ha, k⟩
  rw [flow_small3.2.1] at he
  subst he
  rw [flow_small3.1] at ha
  obtain ⟨Aa, ca, rfl, _, ra⟩ := ha.row (ok_of (xs := [4, 4, 1]) (by decide))
  have RA := Lib.hid ra
  have HG2 := Lib.hid (World.grownBy.refl w6 none)
  have HS := Lib.hid ((HS.out.lit.lit.kept k).only (g := w.heap.size) (T := 3) (vs := ints [2, 2, 1]) (by simp))
  clear k ra ha
  go_wp2_with fail
  refine (small9_any _).mono ?_
  rintro e w7 ⟨gs7, rfl, os, _, k⟩
  have HS := Lib.hid ((HS.out.kept k).cons os)
  have HG2 := Lib.hid (grown_trans HG2.out k)
  clear os k
  go_wp2_with fail
  refine (MoveS [5, 4, 3] [2, 2, 1] [0, 2] rfl (by decide) (by decide) (by simp [ints]) rfl (by decide) (by decide) (by simp [ints]) rfl (by decide) (by decide) (by simp [ints]) HS.out.lit.lit (by simp)).mono ?_
  rintro e w8 ⟨va, he, ha, k⟩
  rw [flow_small3.2.2] at he
  subst he
  have HG2 := Lib.hid (grown_trans (grown_alloc (grown_alloc HG2.out _) _) k)
  have HS := Lib.hid ((HS.out.lit.lit.kept k).only (g := w.heap.size) (T := 3) (vs := ints [2, 2, 1]) (by simp))
  clear k ha
  go_wp2_with fail
  refine (small9_any _).mono ?_
  rintro e w9 ⟨gs9, rfl, os, _, k⟩
  have HS := Lib.hid ((HS.out.kept k).cons os)
  have HG2 := Lib.hid (grown_trans HG2.out k)
  clear os k
  go_wp2_with fail
  refine (RoomS [5, 4, 3] [2, 2, 1] rfl (by decide) (by decide) (by simp [ints]) rfl (by decide) (by decide) (by simp [ints]) HS.out.lit (by simp)).mono ?_
  rintro e w10 ⟨he, k⟩
  rw [roomV, flow_small2.2.2] at he
  subst he
  have HG2 := Lib.hid (grown_trans (grown_alloc HG2.out _) k)
  have HS := Lib.hid ((HS.out.lit.kept k).only (g := w.heap.size) (T := 3) (vs := ints [2, 2, 1]) (by simp))
  clear k
  go_wp2_with fail
  refine (small9_any _).mono ?_
  rintro e w11 ⟨gs11, rfl, os, _, k⟩
  have HS := Lib.hid ((HS.out.kept k).cons os)
  have HG2 := Lib.hid (grown_trans HG2.out k)
  clear os k
  go_wp2_with fail
  refine (FMayS [5, 4, 3] [2, 2, 1] rfl (by decide) (by decide) (by simp [ints]) rfl (by decide) (by decide) (by simp [ints]) HS.out.lit (by simp)).mono ?_
  rintro e w12 ⟨he, k⟩
  rw [flow_small4.1] at he
  subst he
  have HG2 := Lib.hid (grown_trans (grown_alloc HG2.out _) k)
  have HS := Lib.hid ((HS.out.lit.kept k).only (g := w.heap.size) (T := 3) (vs := ints [2, 2, 1]) (by simp))
  clear k
  go_wp2_with fail
  refine (small9_any _).mono ?_
  rintro e w13 ⟨gs13, rfl, os, _, k⟩
  have HS := Lib.hid ((HS.out.kept k).cons os)
  have HG2 := Lib.hid (grown_trans HG2.out k)
  clear os k
  go_wp2_with fail
  refine (FMayS [5, 4, 3] [2, 1, 1] rfl (by decide) (by decide) (by simp [ints]) rfl (by decide) (by decide) (by simp [ints]) HS.out.lit.lit (by simp)).mono ?_
  rintro e w14 ⟨he, k⟩
  rw [flow_small4.2] at he
  subst he
  have HG2 := Lib.hid (grown_trans (grown_alloc (grown_alloc HG2.out _) _) k)
  have HS := Lib.hid ((HS.out.lit.lit.kept k).only (g := w.heap.size) (T := 3) (vs := ints [2, 2, 1]) (by simp))
  clear k
  go_wp2_with fail
  refine (num_says _ _).mono ?_
  rintro e w15 ⟨rfl, k⟩
  have HS := Lib.hid (HS.out.kept k)
  have HG2 := Lib.hid (grown_trans HG2.out k)
  clear k
  go_wp2_with fail
  refine (num_says _ _).mono ?_
  rintro e w16 ⟨rfl, k⟩
  have HS := Lib.hid (HS.out.kept k)
  have HG2 := Lib.hid (grown_trans HG2.out k)
  clear k
  go_wp2_with fail
  refine (SameS RA.out HS.out.lit (Nat.le_refl _) (grown_alloc HG2.out _) (by simp [ints]) rfl (by decide) (by decide)).mono ?_
  rintro e w17 ⟨rfl, k⟩
  have HS := Lib.hid (HS.out.lit.kept k).less
  have HG2 := Lib.hid (grown_trans (grown_alloc HG2.out _) k)
  clear k
  go_wp2_with fail
  refine (num_says _ _).mono ?_
  rintro e w18 ⟨rfl, k⟩
  have HS := Lib.hid (HS.out.kept k)
  have HG2 := Lib.hid (grown_trans HG2.out k)
  clear k
  go_wp2_with fail
  refine (num_says _ _).mono ?_
  rintro e w19 ⟨rfl, k⟩
  have HS := Lib.hid (HS.out.kept k)
  have HG2 := Lib.hid (grown_trans HG2.out k)
  clear k
  go_wp2_with fail
  refine (num_says _ _).mono ?_
  rintro e w20 ⟨rfl, k⟩
  have HS := Lib.hid (HS.out.kept k)
  have HG2 := Lib.hid (grown_trans HG2.out k)
  clear k
  go_wp2
  go_ret
  exact ⟨rfl, HS.out.g⟩

end Go.Proofs.Ytmodkhcfihlhgaa
