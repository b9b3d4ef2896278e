/-
  Contracts of package span's tests (May, Has, Meets, Both) and of the answers they are held against.
-/
import Derived.Test.YtgfehlmiejnonaaGrow
import Derived.Test.YtgfehlmiejnonaaJA
set_option maxRecDepth 20000
namespace Go.Proofs.Ytgfehlmiejnonaa
open Go.RowKit

theorem May_any (a b : Int) (w : World) :
    Calls Try.prog 37 #[.agg #[.int .i64 a, .int .i64 b]] w (Says w (.bool (spanMay a b))) := by
  go_enter Try.func37, Try.ntmps37
  go_wp2
  all_goals (go_ret; refine ⟨ret_bool ?_, grow0 _ _⟩; simp [spanMay, *])
  all_goals (intros; omega)

theorem SpanMay_any (a b : Int) (w : World) :
    Calls Try.prog 20 #[.agg #[.int .i64 a, .int .i64 b]] w (Says w (.bool (spanMay a b))) := by
  go_enter Try.func20, Try.ntmps20
  go_wp2
  all_goals (go_ret; refine ⟨ret_bool ?_, grow0 _ _⟩; simp [spanMay, *])
  all_goals (intros; omega)

theorem Meets_any (a b c d : Int) (w : World) :
    Calls Try.prog 54 #[.agg #[.int .i64 a, .int .i64 b], .agg #[.int .i64 c, .int .i64 d]] w (Says w (.bool (meets a b c d))) := by
  go_enter Try.func54, Try.ntmps54
  go_wp2_with fail
  refine (May_any a b _).mono ?_
  rintro e w1 ⟨rfl, hg1⟩
  obtain ⟨g1, o1, o2⟩ := boxes2 hg1
  obtain ⟨c0, c1⟩ := o1.two
  obtain ⟨c2, c3⟩ := o2.two
  have G1 := Lib.hid g1
  clear hg1 g1
  cases hm : spanMay a b
  · go_wp2
    go_ret
    exact ⟨ret_bool (by simp [meets, hm]), G1.out⟩
  · go_wp2_with fail
    refine (May_any c d _).mono ?_
    rintro e w2 ⟨rfl, hg2⟩
    obtain ⟨c0, c1⟩ := (o1.kept hg2).two
    obtain ⟨c2, c3⟩ := (o2.kept hg2).two
    have G2 := Lib.hid (grown_trans G1.out hg2)
    clear hg2 o1 o2
    cases hm2 : spanMay c d
    · go_wp2
      go_ret
      exact ⟨ret_bool (by simp [meets, hm, hm2]), G2.out⟩
    · go_wp2
      all_goals go_ret
      all_goals (refine ⟨ret_bool ?_, G2.out⟩; simp [meets, *])
      all_goals (intros; omega)

def bothFrom (a b c d : Int) : Int := if meets a b c d then (if a < c then c else a) else 0
def bothTo (a b c d : Int) : Int := if meets a b c d then (if d < b then d else b) else 0

def span (a b : Int) : Value := .agg #[.int .i64 a, .int .i64 b]

theorem results_cell2 {fn : Func} {t u : Tmp} (h : fn.results = #[.cell t 27, .tmp u]) (tmps : Array Value) (w : World) {g : Nat} {x y : Value} (hp : tmps[t]?.getD undef = .pointer (some ⟨g, 0, none⟩))
   (c0 : w.cell? ⟨g, 0, none⟩ = some x) (c1 : w.cell? ⟨g, 1, none⟩ = some y) :
    (results fn tmps).run Try.prog w = .ok (.tuple #[.agg #[x, y], tmps[u]?.getD undef]) w := by
  simp [results, h, hp, c0, c1, go_sem]
theorem post_cell2 {fn : Func} {t u : Tmp} {R : Ending → World → Prop} {a : Act} {w : World} (h : fn.results = #[.cell t 27, .tmp u]) {g : Nat} {x y : Value} (hp : a.tmps[t]?.getD undef = .pointer (some ⟨g, 0, none⟩))
   (c0 : w.cell? ⟨g, 0, none⟩ = some x) (c1 : w.cell? ⟨g, 1, none⟩ = some y) (hd : a.defers = []) (hR : R (.returned (.tuple #[.agg #[x, y], a.tmps[u]?.getD undef])) w) : bodyPost Try.prog fn R .ret a w :=
  bodyPost_ret (results_cell2 h a.tmps w hp c0 c1) hd hR



set_option maxHeartbeats 1000000 in
theorem BothRef_any (a b c d : Int) (w : World) :
    Calls Try.prog 61 #[.agg #[.int .i64 a, .int .i64 b], .agg #[.int .i64 c, .int .i64 d]] w (Says w (.tuple #[span (bothFrom a b c d) (bothTo a b c d), .bool (meets a b c d)])) := by
  go_enter Try.func61, Try.ntmps61
  go_wp2_with fail
  refine (SpanMay_any a b _).mono ?_
  rintro e w1 ⟨rfl, hg1⟩
  obtain ⟨g1, o1, o2, o3⟩ := boxes3 hg1
  clear hg1
  cases hma : spanMay a b
  · have hm : meets a b c d = false := by simp [meets, hma]
    obtain ⟨c0, c1⟩ := o1.two
    obtain ⟨c2, c3⟩ := o2.two
    obtain ⟨c4, c5⟩ := o3.two
    have f4 := o3.frozen 0
    have f5 := o3.frozen 1
    have hsz := o3.lt
    have G1 := Lib.hid g1
    clear g1 o1 o2 o3
    go_wp2
    refine post_cell2 rfl rfl (set_get c4 c5).1 (set_get c4 c5).2 rfl ?_
    refine ⟨?_, ?_⟩
    · simp [bothFrom, bothTo, hm, span]
    · exact grown_new (grown_new G1.out (by omega) _) (by omega) _
  · have c2 := o1.two
    have c3 := o2.two
    go_wp2_with fail
    refine (SpanMay_any c d _).mono ?_
    rintro e w2 ⟨rfl, hg2⟩
    have g1 := grown_trans g1 hg2
    have o1 := o1.kept hg2
    have o2 := o2.kept hg2
    have o3 := o3.kept hg2
    clear hg2 c2 c3
    obtain ⟨c0, c1⟩ := o1.two
    obtain ⟨c2, c3⟩ := o2.two
    obtain ⟨c4, c5⟩ := o3.two
    have f4 := o3.frozen 0
    have f5 := o3.frozen 1
    have hsz := o3.lt
    have G1 := Lib.hid g1
    cases hmc : spanMay c d
    · have hm : meets a b c d = false := by simp [meets, hma, hmc]
      clear g1 o1 o2 o3
      go_wp2
      refine post_cell2 rfl rfl (set_get c4 c5).1 (set_get c4 c5).2 rfl ?_
      refine ⟨?_, ?_⟩
      · simp [bothFrom, bothTo, hm, span]
      · exact grown_new (grown_new G1.out (by omega) _) (by omega) _
    · by_cases h1 : a < d
      · by_cases h2 : c < b
        · have hm : meets a b c d = true := by simp [meets, hma, hmc, h1, h2]
          have h1' : ¬ d ≤ a := by omega
          have h2' : ¬ b ≤ c := by omega
          have h1'' : decide (d ≤ a) = false := by simp [h1]
          have h2'' : decide (b ≤ c) = false := by simp [h2]
          clear hma hmc h1 h2
          go_upto_region 3 with fail
          have O6 : Own (w2.alloc (.cells #[.int .i64 a, .int .i64 b] 27)) w2.heap.size 27 [.int .i64 a, .int .i64 b] := Own.new w2 27 [.int .i64 a, .int .i64 b]
          have q2 := (o2.alloc (.cells #[.int .i64 a, .int .i64 b] 27)).two
          have q3 := (o3.alloc (.cells #[.int .i64 a, .int .i64 b] 27))
          have f6 := q3.frozen 0
          have f7 := q3.frozen 1
          have q3 := q3.two
          have q6 := O6.two
          have f8 := O6.frozen 0
          have f9 := O6.frozen 1
          have G2 := Lib.hid (grown_alloc g1 (.cells #[.int .i64 a, .int .i64 b] 27))
          clear g1 o1 o2 o3 G1 O6 f4 f5 c2 c3 c4 c5
          go_upto_region 4 with fail
          generalize w2.alloc (.cells #[.int .i64 a, .int .i64 b] 27) = w3 at *
          obtain ⟨c2, c3⟩ := q2
          obtain ⟨c4, c5⟩ := q3
          obtain ⟨c6, c7⟩ := q6
          have hk : w.heap.size ≤ w.heap.size + 1 + 1 := by omega
          have hk' : w.heap.size ≤ w2.heap.size := by omega
          have n1 : ¬ w.heap.size + 1 = w2.heap.size := by omega
          have n2 : ¬ w.heap.size + 1 + 1 = w2.heap.size := by omega
          have n3 : ¬ w2.heap.size = w.heap.size + 1 := by omega
          have n4 : ¬ w2.heap.size = w.heap.size + 1 + 1 := by omega
          clear c0 c1 hsz
          generalize w2.heap.size = k6 at *
          generalize w.heap.size + 1 + 1 = k4 at *
          generalize w.heap.size + 1 = k3 at *
          go_wp2
          all_goals refine post_cell2 rfl rfl (set_get (u := .int .i64 0) (v := .int .i64 0) ?_ ?_).1 (set_get (u := .int .i64 0) (v := .int .i64 0) ?_ ?_).2 rfl ⟨?_, ?_⟩
          all_goals first
            | (simp [bothFrom, bothTo, span, *]; done)
            | (simp [bothFrom, bothTo, span, *]; omega)
            | with_reducible first | exact c4 | exact c5 | exact other_get n4 c4 | exact other_get n4 c5 | exact other_get n4 (other_get n4 c4) | exact other_get n4 (other_get n4 c5)
            | with_reducible exact grown_new (grown_new G2.out hk _) hk _
            | with_reducible exact grown_new (grown_new (grown_new G2.out hk' _) hk _) hk _
            | with_reducible exact grown_new (grown_new (grown_new (grown_new G2.out hk' _) hk' _) hk _) hk _
        · have hm : meets a b c d = false := by simp [meets, h2]
          have h1'' : decide (d ≤ a) = false := by simp; omega
          have h2'' : decide (b ≤ c) = true := by simp; omega
          clear g1 o1 o2 o3 hma hmc h1 h2
          go_wp2
          refine post_cell2 rfl rfl (set_get c4 c5).1 (set_get c4 c5).2 rfl ?_
          refine ⟨?_, ?_⟩
          · simp [bothFrom, bothTo, hm, span]
          · exact grown_new (grown_new G1.out (by omega) _) (by omega) _
      · have hm : meets a b c d = false := by simp [meets, h1]
        have h1'' : decide (d ≤ a) = true := by simp; omega
        clear g1 o1 o2 o3 hma hmc h1
        go_wp2
        refine post_cell2 rfl rfl (set_get c4 c5).1 (set_get c4 c5).2 rfl ?_
        refine ⟨?_, ?_⟩
        · simp [bothFrom, bothTo, hm, span]
        · exact grown_new (grown_new G1.out (by omega) _) (by omega) _

end Go.Proofs.Ytgfehlmiejnonaa
