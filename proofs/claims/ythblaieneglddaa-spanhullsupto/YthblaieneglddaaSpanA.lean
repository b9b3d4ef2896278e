import Derived.Test.YthblaieneglddaaMem
import Derived.Handy
namespace Go.Proofs.Ythblaieneglddaa
open Go.RowKit

def spanMay (a b : Int) : Bool := decide (0 ≤ a) && (decide (a < b) && decide (b ≤ 4096))

/-- It answers v, and nothing that was there has turned. -/
def Says (w : World) (v : Value) (e : Ending) (w' : World) : Prop := e = .returned v ∧ w.grownBy w' none

theorem kept {w w' : World} {b i : Nat} {v : Value} (h : w.grownBy w' none) (k : w.cell? ⟨b, i, none⟩ = some v) : w'.cell? ⟨b, i, none⟩ = some v := by
  have hb := block_lt k
  have hh := h.block b hb (by simp)
  simp only [World.cell?] at k ⊢
  rw [hh]
  exact k

theorem grow0 (w : World) (o : Obj) : w.grownBy (w.alloc o) none := grown_alloc (World.grownBy.refl w _) o

theorem May_any (a b : Int) (w : World) :
    Calls Try.prog 11 #[.agg #[.int .i64 a, .int .i64 b]] w (Says w (.bool (spanMay a b))) := by
  go_enter Try.func11, Try.ntmps11
  go_wp2
  all_goals (go_ret; refine ⟨ret_bool ?_, grow0 _ _⟩; simp [spanMay, *])
  all_goals (intros; omega)

theorem SpanMay_any (a b : Int) (w : World) :
    Calls Try.prog 12 #[.agg #[.int .i64 a, .int .i64 b]] w (Says w (.bool (spanMay a b))) := by
  go_enter Try.func12, Try.ntmps12
  go_wp2
  all_goals (go_ret; refine ⟨ret_bool ?_, grow0 _ _⟩; simp [spanMay, *])
  all_goals (intros; omega)

theorem Own.kept {w w' : World} {g : Nat} {T : TypeId} {vs : List Value} (h : Own w g T vs) (k : w.grownBy w' none) : Own w' g T vs := h.keep (k.block g h.lt (by simp))

theorem Own.two {w : World} {g : Nat} {T : TypeId} {x y : Value} (h : Own w g T [x, y]) : w.cell? ⟨g, 0, none⟩ = some x ∧ w.cell? ⟨g, 1, none⟩ = some y := ⟨h.cell 0, h.cell 1⟩

/-- Behind two boxes and whatever grows. -/
theorem boxes2 {w w1 : World} {x y u v : Value} {T U : TypeId} (h : ((w.alloc (.cells #[x, y] T)).alloc (.cells #[u, v] U)).grownBy w1 none) :
    w.grownBy w1 none ∧ Own w1 w.heap.size T [x, y] ∧ Own w1 (w.heap.size + 1) U [u, v] := by
  refine ⟨grown_trans (grown_trans (grow0 _ _) (grow0 _ _)) h, ((Own.new w T [x, y]).alloc _).kept h, ?_⟩
  have := (Own.new (w.alloc (.cells #[x, y] T)) U [u, v]).kept h
  simpa using this

theorem boxes1 {w w1 : World} {x y : Value} {T : TypeId} (h : (w.alloc (.cells #[x, y] T)).grownBy w1 none) :
    w.grownBy w1 none ∧ Own w1 w.heap.size T [x, y] := ⟨grown_trans (grow0 _ _) h, (Own.new w T [x, y]).kept h⟩

def meets (a b c d : Int) : Bool := spanMay a b && (spanMay c d && (decide (a < d) && decide (c < b)))

theorem Meets_any (a b c d : Int) (w : World) :
    Calls Try.prog 10 #[.agg #[.int .i64 a, .int .i64 b], .agg #[.int .i64 c, .int .i64 d]] w (Says w (.bool (meets a b c d))) := by
  go_enter Try.func10, Try.ntmps10
  go_wp2_with fail
  refine (May_any a b _).mono ?_
  rintro e w1 ⟨rfl, hg1⟩
  obtain ⟨g1, o1, o2⟩ := boxes2 hg1
  obtain ⟨c0, c1⟩ := o1.two
  obtain ⟨c2, c3⟩ := o2.two
  have G1 := Lib.hid g1
  clear hg1 g1
  cases hm : spanMay a b
  · go_wp2
    go_ret
    exact ⟨ret_bool (by simp [meets, hm]), G1.out⟩
  · go_wp2_with fail
    refine (May_any c d _).mono ?_
    rintro e w2 ⟨rfl, hg2⟩
    obtain ⟨c0, c1⟩ := (o1.kept hg2).two
    obtain ⟨c2, c3⟩ := (o2.kept hg2).two
    have G2 := Lib.hid (grown_trans G1.out hg2)
    clear hg2 o1 o2
    cases hm2 : spanMay c d
    · go_wp2
      go_ret
      exact ⟨ret_bool (by simp [meets, hm, hm2]), G2.out⟩
    · go_wp2
      all_goals go_ret
      all_goals (refine ⟨ret_bool ?_, G2.out⟩; simp [meets, *])
      all_goals (intros; omega)

def has (a b t : Int) : Bool := spanMay a b && (decide (a ≤ t) && decide (t < b))

theorem Has_any (a b t : Int) (w : World) :
    Calls Try.prog 13 #[.agg #[.int .i64 a, .int .i64 b], .int .i64 t] w (Says w (.bool (has a b t))) := by
  go_enter Try.func13, Try.ntmps13
  go_wp2_with fail
  refine (May_any a b _).mono ?_
  rintro e w1 ⟨rfl, hg1⟩
  obtain ⟨g1, o1⟩ := boxes1 hg1
  obtain ⟨c0, c1⟩ := o1.two
  have G1 := Lib.hid g1
  clear hg1 g1 o1
  cases hm : spanMay a b
  · go_wp2
    go_ret
    exact ⟨ret_bool (by simp [has, hm]), G1.out⟩
  · go_wp2
    all_goals go_ret
    all_goals (refine ⟨ret_bool ?_, G1.out⟩; simp [has, *])
    all_goals (intros; omega)

theorem HasRef_any (a b t : Int) (w : World) :
    Calls Try.prog 14 #[.agg #[.int .i64 a, .int .i64 b], .int .i64 t] w (Says w (.bool (has a b t))) := by
  go_enter Try.func14, Try.ntmps14
  go_wp2_with fail
  refine (SpanMay_any a b _).mono ?_
  rintro e w1 ⟨rfl, hg1⟩
  obtain ⟨g1, o1⟩ := boxes1 hg1
  obtain ⟨c0, c1⟩ := o1.two
  have G1 := Lib.hid g1
  clear hg1 g1 o1
  cases hm : spanMay a b
  · go_wp2
    go_ret
    exact ⟨ret_bool (by simp [has, hm]), G1.out⟩
  · go_wp2
    all_goals go_ret
    all_goals (refine ⟨ret_bool ?_, G1.out⟩; simp [has, *])
    all_goals (intros; omega)

def bothFrom (a b c d : Int) : Int := if meets a b c d then (if a < c then c else a) else 0
def bothTo (a b c d : Int) : Int := if meets a b c d then (if d < b then d else b) else 0

def span (a b : Int) : Value := .agg #[.int .i64 a, .int .i64 b]

theorem grown_new {a w : World} {g i : Nat} (h : a.grownBy w none) (hg : a.heap.size ≤ g) (u : Value) : a.grownBy (w.setCell ⟨g, i, none⟩ u) none :=
  ⟨h.os, h.tape, h.output, by simpa [World.setCell] using h.size, fun k hk hne => (Below.heap_setCell w ⟨g, i, none⟩ u k (by show k ≠ g; omega)).trans (h.block k hk hne)⟩

theorem boxes3 {w w1 : World} {x y u v r s : Value} {T U R : TypeId} (h : (((w.alloc (.cells #[x, y] T)).alloc (.cells #[u, v] U)).alloc (.cells #[r, s] R)).grownBy w1 none) :
    w.grownBy w1 none ∧ Own w1 w.heap.size T [x, y] ∧ Own w1 (w.heap.size + 1) U [u, v] ∧ Own w1 (w.heap.size + 1 + 1) R [r, s] := by
  obtain ⟨h1, h2, h3⟩ := boxes2 (grown_trans (grow0 _ _) h)
  refine ⟨h1, h2, h3, ?_⟩
  have := (Own.new ((w.alloc (.cells #[x, y] T)).alloc (.cells #[u, v] U)) R [r, s]).kept h
  simpa using this

theorem results_cell2 {fn : Func} {t u : Tmp} (h : fn.results = #[.cell t 23, .tmp u]) (tmps : Array Value) (w : World) {g : Nat} {x y : Value} (hp : tmps[t]?.getD undef = .pointer (some ⟨g, 0, none⟩))
   (c0 : w.cell? ⟨g, 0, none⟩ = some x) (c1 : w.cell? ⟨g, 1, none⟩ = some y) :
    (results fn tmps).run Try.prog w = .ok (.tuple #[.agg #[x, y], tmps[u]?.getD undef]) w := by
  simp [results, h, hp, c0, c1, go_sem]
theorem post_cell2 {fn : Func} {t u : Tmp} {R : Ending → World → Prop} {a : Act} {w : World} (h : fn.results = #[.cell t 23, .tmp u]) {g : Nat} {x y : Value} (hp : a.tmps[t]?.getD undef = .pointer (some ⟨g, 0, none⟩))
   (c0 : w.cell? ⟨g, 0, none⟩ = some x) (c1 : w.cell? ⟨g, 1, none⟩ = some y) (hd : a.defers = []) (hR : R (.returned (.tuple #[.agg #[x, y], a.tmps[u]?.getD undef])) w) : bodyPost Try.prog fn R .ret a w :=
  bodyPost_ret (results_cell2 h a.tmps w hp c0 c1) hd hR



theorem other_get {w : World} {k g i j : Nat} {u v : Value} (n : ¬ k = g) (h : w.cell? ⟨g, i, none⟩ = some v) : (w.setCell ⟨k, j, none⟩ u).cell? ⟨g, i, none⟩ = some v :=
  (World.cell?_setCell_other _ _ _ _ (by intro e; injection e with e; exact n e)).trans h

theorem set_get {w : World} {g : Nat} {x y u v : Value} (c0 : w.cell? ⟨g, 0, none⟩ = some u) (c1 : w.cell? ⟨g, 1, none⟩ = some v) :
    ((w.setCell ⟨g, 0, none⟩ x).setCell ⟨g, 1, none⟩ y).cell? ⟨g, 0, none⟩ = some x ∧ ((w.setCell ⟨g, 0, none⟩ x).setCell ⟨g, 1, none⟩ y).cell? ⟨g, 1, none⟩ = some y := by
  have h1 : (w.setCell ⟨g, 0, none⟩ x).cell? ⟨g, 0, none⟩ = some x := World.cell?_setCell_same' _ _ _ (by rw [c0]; rfl)
  have h2 : (w.setCell ⟨g, 0, none⟩ x).cell? ⟨g, 1, none⟩ = some v := (World.cell?_setCell_other _ _ _ _ (by simp)).trans c1
  exact ⟨(World.cell?_setCell_other _ _ _ _ (by simp)).trans h1, World.cell?_setCell_same' _ _ _ (by rw [h2]; rfl)⟩

set_option maxHeartbeats 1000000 in
theorem Both_any (a b c d : Int) (w : World) :
    Calls Try.prog 7 #[.agg #[.int .i64 a, .int .i64 b], .agg #[.int .i64 c, .int .i64 d]] w (Says w (.tuple #[span (bothFrom a b c d) (bothTo a b c d), .bool (meets a b c d)])) := by
  go_enter Try.func7, Try.ntmps7
  go_wp2_with fail
  refine (Meets_any a b c d _).mono ?_
  rintro e w1 ⟨rfl, hg1⟩
  obtain ⟨g1, o1, o2, o3⟩ := boxes3 hg1
  clear hg1
  obtain ⟨c0, c1⟩ := o1.two
  obtain ⟨c2, c3⟩ := o2.two
  obtain ⟨c4, c5⟩ := o3.two
  have f4 := o3.frozen 0
  have f5 := o3.frozen 1
  have hsz := o3.lt
  have G1 := Lib.hid g1
  cases hm : meets a b c d
  · clear g1 o1 o2 o3
    go_wp2
    refine post_cell2 rfl rfl (set_get c4 c5).1 (set_get c4 c5).2 rfl ?_
    refine ⟨?_, ?_⟩
    · simp [bothFrom, bothTo, hm, span]
    · exact grown_new (grown_new G1.out (by omega) _) (by omega) _
  · have O6 : Own (w1.alloc (.cells #[.int .i64 a, .int .i64 b] 23)) w1.heap.size 23 [.int .i64 a, .int .i64 b] := Own.new w1 23 [.int .i64 a, .int .i64 b]
    have q2 := (o2.alloc (.cells #[.int .i64 a, .int .i64 b] 23)).two
    have q3 := (o3.alloc (.cells #[.int .i64 a, .int .i64 b] 23))
    have f6 := q3.frozen 0
    have f7 := q3.frozen 1
    have q3 := q3.two
    have q6 := O6.two
    have f8 := O6.frozen 0
    have f9 := O6.frozen 1
    have G2 := Lib.hid (grown_alloc g1 (.cells #[.int .i64 a, .int .i64 b] 23))
    clear g1 o1 o2 o3 G1 O6 f4 f5 c2 c3 c4 c5
    go_upto_region 4 with fail
    generalize w1.alloc (.cells #[.int .i64 a, .int .i64 b] 23) = w2 at *
    obtain ⟨c2, c3⟩ := q2
    obtain ⟨c4, c5⟩ := q3
    obtain ⟨c6, c7⟩ := q6
    have hk : w.heap.size ≤ w.heap.size + 1 + 1 := by omega
    have hk' : w.heap.size ≤ w1.heap.size := by omega
    have n1 : ¬ w.heap.size + 1 = w1.heap.size := by omega
    have n2 : ¬ w.heap.size + 1 + 1 = w1.heap.size := by omega
    have n3 : ¬ w1.heap.size = w.heap.size + 1 := by omega
    have n4 : ¬ w1.heap.size = w.heap.size + 1 + 1 := by omega
    clear c0 c1 hsz
    generalize w1.heap.size = k6 at *
    generalize w.heap.size + 1 + 1 = k4 at *
    generalize w.heap.size + 1 = k3 at *
    go_wp2
    all_goals refine post_cell2 rfl rfl (set_get (u := .int .i64 0) (v := .int .i64 0) ?_ ?_).1 (set_get (u := .int .i64 0) (v := .int .i64 0) ?_ ?_).2 rfl ⟨?_, ?_⟩
    all_goals first
      | (simp [bothFrom, bothTo, span, *]; done)
      | (simp [bothFrom, bothTo, span, *]; omega)
      | with_reducible first | exact c4 | exact c5 | exact other_get n4 c4 | exact other_get n4 c5 | exact other_get n4 (other_get n4 c4) | exact other_get n4 (other_get n4 c5)
      | with_reducible exact grown_new (grown_new G2.out hk _) hk _
      | with_reducible exact grown_new (grown_new (grown_new G2.out hk' _) hk _) hk _
      | with_reducible exact grown_new (grown_new (grown_new (grown_new G2.out hk' _) hk' _) hk _) hk _

set_option maxHeartbeats 1000000 in
theorem BothRef_any (a b c d : Int) (w : World) :
    Calls Try.prog 8 #[.agg #[.int .i64 a, .int .i64 b], .agg #[.int .i64 c, .int .i64 d]] w (Says w (.tuple #[span (bothFrom a b c d) (bothTo a b c d), .bool (meets a b c d)])) := by
  go_enter Try.func8, Try.ntmps8
  go_wp2_with fail
  refine (SpanMay_any a b _).mono ?_
  rintro e w1 ⟨rfl, hg1⟩
  obtain ⟨g1, o1, o2, o3⟩ := boxes3 hg1
  clear hg1
  cases hma : spanMay a b
  · have hm : meets a b c d = false := by simp [meets, hma]
    obtain ⟨c0, c1⟩ := o1.two
    obtain ⟨c2, c3⟩ := o2.two
    obtain ⟨c4, c5⟩ := o3.two
    have f4 := o3.frozen 0
    have f5 := o3.frozen 1
    have hsz := o3.lt
    have G1 := Lib.hid g1
    clear g1 o1 o2 o3
    go_wp2
    refine post_cell2 rfl rfl (set_get c4 c5).1 (set_get c4 c5).2 rfl ?_
    refine ⟨?_, ?_⟩
    · simp [bothFrom, bothTo, hm, span]
    · exact grown_new (grown_new G1.out (by omega) _) (by omega) _
  · have c2 := o1.two
    have c3 := o2.two
    go_wp2_with fail
    refine (SpanMay_any c d _).mono ?_
    rintro e w2 ⟨rfl, hg2⟩
    have g1 := grown_trans g1 hg2
    have o1 := o1.kept hg2
    have o2 := o2.kept hg2
    have o3 := o3.kept hg2
    clear hg2 c2 c3
    obtain ⟨c0, c1⟩ := o1.two
    obtain ⟨c2, c3⟩ := o2.two
    obtain ⟨c4, c5⟩ := o3.two
    have f4 := o3.frozen 0
    have f5 := o3.frozen 1
    have hsz := o3.lt
    have G1 := Lib.hid g1
    cases hmc : spanMay c d
    · have hm : meets a b c d = false := by simp [meets, hma, hmc]
      clear g1 o1 o2 o3
      go_wp2
      refine post_cell2 rfl rfl (set_get c4 c5).1 (set_get c4 c5).2 rfl ?_
      refine ⟨?_, ?_⟩
      · simp [bothFrom, bothTo, hm, span]
      · exact grown_new (grown_new G1.out (by omega) _) (by omega) _
    · by_cases h1 : a < d
      · by_cases h2 : c < b
        · have hm : meets a b c d = true := by simp [meets, hma, hmc, h1, h2]
          have h1' : ¬ d ≤ a := by omega
          have h2' : ¬ b ≤ c := by omega
          have h1'' : decide (d ≤ a) = false := by simp [h1]
          have h2'' : decide (b ≤ c) = false := by simp [h2]
          clear hma hmc h1 h2
          go_upto_region 3 with fail
          have O6 : Own (w2.alloc (.cells #[.int .i64 a, .int .i64 b] 23)) w2.heap.size 23 [.int .i64 a, .int .i64 b] := Own.new w2 23 [.int .i64 a, .int .i64 b]
          have q2 := (o2.alloc (.cells #[.int .i64 a, .int .i64 b] 23)).two
          have q3 := (o3.alloc (.cells #[.int .i64 a, .int .i64 b] 23))
          have f6 := q3.frozen 0
          have f7 := q3.frozen 1
          have q3 := q3.two
          have q6 := O6.two
          have f8 := O6.frozen 0
          have f9 := O6.frozen 1
          have G2 := Lib.hid (grown_alloc g1 (.cells #[.int .i64 a, .int .i64 b] 23))
          clear g1 o1 o2 o3 G1 O6 f4 f5 c2 c3 c4 c5
          go_upto_region 4 with fail
          generalize w2.alloc (.cells #[.int .i64 a, .int .i64 b] 23) = w3 at *
          obtain ⟨c2, c3⟩ := q2
          obtain ⟨c4, c5⟩ := q3
          obtain ⟨c6, c7⟩ := q6
          have hk : w.heap.size ≤ w.heap.size + 1 + 1 := by omega
          have hk' : w.heap.size ≤ w2.heap.size := by omega
          have n1 : ¬ w.heap.size + 1 = w2.heap.size := by omega
          have n2 : ¬ w.heap.size + 1 + 1 = w2.heap.size := by omega
          have n3 : ¬ w2.heap.size = w.heap.size + 1 := by omega
          have n4 : ¬ w2.heap.size = w.heap.size + 1 + 1 := by omega
          clear c0 c1 hsz
          generalize w2.heap.size = k6 at *
          generalize w.heap.size + 1 + 1 = k4 at *
          generalize w.heap.size + 1 = k3 at *
          go_wp2
          all_goals refine post_cell2 rfl rfl (set_get (u := .int .i64 0) (v := .int .i64 0) ?_ ?_).1 (set_get (u := .int .i64 0) (v := .int .i64 0) ?_ ?_).2 rfl ⟨?_, ?_⟩
          all_goals first
            | (simp [bothFrom, bothTo, span, *]; done)
            | (simp [bothFrom, bothTo, span, *]; omega)
            | with_reducible first | exact c4 | exact c5 | exact other_get n4 c4 | exact other_get n4 c5 | exact other_get n4 (other_get n4 c4) | exact other_get n4 (other_get n4 c5)
            | with_reducible exact grown_new (grown_new G2.out hk _) hk _
            | with_reducible exact grown_new (grown_new (grown_new G2.out hk' _) hk _) hk _
            | with_reducible exact grown_new (grown_new (grown_new (grown_new G2.out hk' _) hk' _) hk _) hk _
        · have hm : meets a b c d = false := by simp [meets, h2]
          have h1'' : decide (d ≤ a) = false := by simp; omega
          have h2'' : decide (b ≤ c) = true := by simp; omega
          clear g1 o1 o2 o3 hma hmc h1 h2
          go_wp2
          refine post_cell2 rfl rfl (set_get c4 c5).1 (set_get c4 c5).2 rfl ?_
          refine ⟨?_, ?_⟩
          · simp [bothFrom, bothTo, hm, span]
          · exact grown_new (grown_new G1.out (by omega) _) (by omega) _
      · have hm : meets a b c d = false := by simp [meets, h1]
        have h1'' : decide (d ≤ a) = true := by simp; omega
        clear g1 o1 o2 o3 hma hmc h1
        go_wp2
        refine post_cell2 rfl rfl (set_get c4 c5).1 (set_get c4 c5).2 rfl ?_
        refine ⟨?_, ?_⟩
        · simp [bothFrom, bothTo, hm, span]
        · exact grown_new (grown_new G1.out (by omega) _) (by omega) _

end Go.Proofs.Ythblaieneglddaa
