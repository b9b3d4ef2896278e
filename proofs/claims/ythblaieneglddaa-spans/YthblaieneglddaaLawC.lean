import Derived.Test.YthblaieneglddaaLawA
namespace Go.Proofs.Ythblaieneglddaa
open Go.RowKit

theorem grown_drew {a w : World} {row : Option Nat} (h : a.grownBy w row) : a.grownBy w.drew row := ⟨h.os, h.tape, h.output, h.size, h.block⟩

theorem held8 {w w1 : World} {k k1 k2 k3 : Nat} {x0 x1 x2 x3 x4 x5 x6 x7 : Value} (g : w.grownBy w1 none) (h : (fun w' : World => w'.cell? ⟨k, 0, none⟩ = some x0 ∧ w'.cell? ⟨k, 1, none⟩ = some x1 ∧ w'.cell? ⟨k1, 0, none⟩ = some x2 ∧ w'.cell? ⟨k1, 1, none⟩ = some x3 ∧ w'.cell? ⟨k2, 0, none⟩ = some x4 ∧ w'.cell? ⟨k2, 1, none⟩ = some x5 ∧ w'.cell? ⟨k3, 0, none⟩ = some x6 ∧ w'.cell? ⟨k3, 1, none⟩ = some x7) w) : (fun w' : World => w'.cell? ⟨k, 0, none⟩ = some x0 ∧ w'.cell? ⟨k, 1, none⟩ = some x1 ∧ w'.cell? ⟨k1, 0, none⟩ = some x2 ∧ w'.cell? ⟨k1, 1, none⟩ = some x3 ∧ w'.cell? ⟨k2, 0, none⟩ = some x4 ∧ w'.cell? ⟨k2, 1, none⟩ = some x5 ∧ w'.cell? ⟨k3, 0, none⟩ = some x6 ∧ w'.cell? ⟨k3, 1, none⟩ = some x7) w1 :=
  ⟨kept g h.1, kept g h.2.1, kept g h.2.2.1, kept g h.2.2.2.1, kept g h.2.2.2.2.1, kept g h.2.2.2.2.2.1, kept g h.2.2.2.2.2.2.1, kept g h.2.2.2.2.2.2.2⟩

set_option maxHeartbeats 4000000 in
theorem Spans_walk (a b c d t : Int) (w : World) :
    Calls Try.prog 3 #[.agg #[.int .i64 a, .int .i64 b], .agg #[.int .i64 c, .int .i64 d], .int .i64 t] w (LawPost w) := by
  go_enter Try.func3, Try.ntmps3
  go_wp2_with fail
  refine (Both_any a b c d _).mono ?_
  rintro e w1 ⟨rfl, hg1⟩
  obtain ⟨g1, o1, o2⟩ := boxes2 hg1
  unfold span
  have g2 := grow0 w1 (.cells #[.int .i64 (bothFrom a b c d), .int .i64 (bothTo a b c d)] 23)
  have G := Lib.hid (grown_trans g1 g2)
  have O1 := Lib.hid (o1.kept g2)
  have O2 := Lib.hid (o2.kept g2)
  have O3 := Lib.hid (Own.box (w := w1) (x := .int .i64 (bothFrom a b c d)) (y := .int .i64 (bothTo a b c d)) (T := 23))
  clear hg1 g1 g2 o1 o2
  obtain ⟨c0, c1⟩ := O1.out.two
  obtain ⟨c2, c3⟩ := O2.out.two
  go_wp2_with fail
  refine (BothRef_any a b c d _).mono ?_
  rintro e w2 ⟨rfl, g2⟩
  unfold span
  have g3 := grown_trans g2 (grow0 w2 (.cells #[.int .i64 (bothFrom a b c d), .int .i64 (bothTo a b c d)] 23))
  have G := Lib.hid (grown_trans G.out g3)
  have O1 := Lib.hid (O1.out.kept g3)
  have O2 := Lib.hid (O2.out.kept g3)
  have O3 := Lib.hid (O3.out.kept g3)
  have O4 := Lib.hid (Own.box (w := w2) (x := .int .i64 (bothFrom a b c d)) (y := .int .i64 (bothTo a b c d)) (T := 23))
  clear g2 g3 c0 c1 c2 c3
  have C1 := Lib.hid (fun w' => Meets_any a b c d w')
  have C2 := Lib.hid (fun w' => May_any a b w')
  have C3 := Lib.hid (fun w' => SpanMay_any a b w')
  have C4 := Lib.hid (fun w' => Has_any a b t w')
  have C5 := Lib.hid (fun w' => HasRef_any a b t w')
  generalize bothFrom a b c d = x at *
  generalize bothTo a b c d = y at *
  generalize meets a b c d = q at *
  generalize spanMay a b = p at *
  generalize has a b t = r at *
  obtain ⟨c0, c1⟩ := O1.out.two
  obtain ⟨c2, c3⟩ := O2.out.two
  obtain ⟨c4, c5⟩ := O3.out.two
  obtain ⟨c6, c7⟩ := O4.out.two
  clear O1 O2 O3 O4
  have e1 : (q == q) = true := by simp
  have e2 : (p == p) = true := by simp
  have e3 : (r == r) = true := by simp
  have hS : (fun w' : World => w'.cell? ⟨w.heap.size, 0, none⟩ = some (.int .i64 a) ∧ w'.cell? ⟨w.heap.size, 1, none⟩ = some (.int .i64 b) ∧ w'.cell? ⟨w.heap.size + 1, 0, none⟩ = some (.int .i64 c) ∧ w'.cell? ⟨w.heap.size + 1, 1, none⟩ = some (.int .i64 d) ∧ w'.cell? ⟨w1.heap.size, 0, none⟩ = some (.int .i64 x) ∧ w'.cell? ⟨w1.heap.size, 1, none⟩ = some (.int .i64 y) ∧ w'.cell? ⟨w2.heap.size, 0, none⟩ = some (.int .i64 x) ∧ w'.cell? ⟨w2.heap.size, 1, none⟩ = some (.int .i64 y)) (w2.alloc (.cells #[.int .i64 x, .int .i64 y] 23)) := ⟨c0, c1, c2, c3, c4, c5, c6, c7⟩
  have HS := Lib.hid hS
  clear hS
  go_upto_region 3 with fail
  generalize w2.alloc (.cells #[.int .i64 x, .int .i64 y] 23) = w3 at *
  go_region_held3 (fun w' : World => w'.cell? ⟨w.heap.size, 0, none⟩ = some (.int .i64 a) ∧ w'.cell? ⟨w.heap.size, 1, none⟩ = some (.int .i64 b) ∧ w'.cell? ⟨w.heap.size + 1, 0, none⟩ = some (.int .i64 c) ∧ w'.cell? ⟨w.heap.size + 1, 1, none⟩ = some (.int .i64 d) ∧ w'.cell? ⟨w1.heap.size, 0, none⟩ = some (.int .i64 x) ∧ w'.cell? ⟨w1.heap.size, 1, none⟩ = some (.int .i64 y) ∧ w'.cell? ⟨w2.heap.size, 0, none⟩ = some (.int .i64 x) ∧ w'.cell? ⟨w2.heap.size, 1, none⟩ = some (.int .i64 y))
    (exact HS.out)
    (first
      | (go_at_call 9; refine (awake_any _).mono ?_; rintro e w4 ⟨rfl, g⟩; have G : Hid (w.grownBy w4 none) := (by first | exact grown_trans G.out g | exact grown_trans (grown_drew G.out) g | exact grown_trans (grown_drewN G.out _) g); have HS := Lib.hid (held8 g HS.out); clear g)
      | (go_at_call 10; refine (C1.out _).mono ?_; rintro e w4 ⟨rfl, g⟩; have G : Hid (w.grownBy w4 none) := (by first | exact grown_trans G.out g | exact grown_trans (grown_drew G.out) g | exact grown_trans (grown_drewN G.out _) g); have HS := Lib.hid (held8 g HS.out); clear g)
      | (go_at_call 11; refine (C2.out _).mono ?_; rintro e w4 ⟨rfl, g⟩; have G : Hid (w.grownBy w4 none) := (by first | exact grown_trans G.out g | exact grown_trans (grown_drew G.out) g | exact grown_trans (grown_drewN G.out _) g); have HS := Lib.hid (held8 g HS.out); clear g)
      | (go_at_call 12; refine (C3.out _).mono ?_; rintro e w4 ⟨rfl, g⟩; have G : Hid (w.grownBy w4 none) := (by first | exact grown_trans G.out g | exact grown_trans (grown_drew G.out) g | exact grown_trans (grown_drewN G.out _) g); have HS := Lib.hid (held8 g HS.out); clear g)
      | (go_at_call 13; refine (C4.out _).mono ?_; rintro e w4 ⟨rfl, g⟩; have G : Hid (w.grownBy w4 none) := (by first | exact grown_trans G.out g | exact grown_trans (grown_drew G.out) g | exact grown_trans (grown_drewN G.out _) g); have HS := Lib.hid (held8 g HS.out); clear g)
      | (go_at_call 14; refine (C5.out _).mono ?_; rintro e w4 ⟨rfl, g⟩; have G : Hid (w.grownBy w4 none) := (by first | exact grown_trans G.out g | exact grown_trans (grown_drew G.out) g | exact grown_trans (grown_drewN G.out _) g); have HS := Lib.hid (held8 g HS.out); clear g))
  all_goals (go_wp2; go_ret; first | exact ⟨rfl, below_of G.out⟩ | exact ⟨rfl, below_of (grown_drew G.out)⟩ | exact ⟨rfl, below_of (grown_drewN G.out _)⟩)

end Go.Proofs.Ythblaieneglddaa
