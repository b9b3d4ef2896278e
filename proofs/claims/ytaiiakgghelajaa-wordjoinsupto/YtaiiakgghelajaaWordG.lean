/-
  List, and the reference's List: all numbers of a text.
-/
import Derived.Test.YtaiiakgghelajaaWordF
namespace Go.Proofs.Ytaiiakgghelajaa
open Go.RowKit

theorem allF_fuel (f g : Nat) (l : List UInt8) (hf : l.length ≤ f) (hg : l.length ≤ g) : allF f l = allF g l := by
  induction f generalizing g l with
  | zero =>
    obtain rfl : l = [] := List.eq_nil_of_length_eq_zero (by omega)
    cases g <;> simp [allF]
  | succ f ih =>
    cases g with
    | zero =>
      obtain rfl : l = [] := List.eq_nil_of_length_eq_zero (by omega)
      simp [allF]
    | succ g =>
      simp only [allF]
      by_cases h1 : l = []
      · rw [if_pos h1, if_pos h1]
      · by_cases h2 : gotE l = 0
        · have hk := got_ok l h2
          rw [if_neg h1, if_neg h1, if_pos h2, if_pos h2, ih g (l.drop (gotK l)) (by simp; omega) (by simp; omega)]
        · rw [if_neg h1, if_neg h1, if_neg h2, if_neg h2]

def allW (l : List UInt8) : List Int × Int := allF l.length l

def comb (ys : List Int) (r : List Int × Int) : List Int × Int := if r.2 = 0 then (ys ++ r.1, 0) else ([], r.2)

theorem allW_nil : allW [] = ([], 0) := rfl

theorem allW_bad (l : List UInt8) (h0 : l ≠ []) (h : gotE l ≠ 0) : allW l = ([], gotE l) := by
  unfold allW
  cases l with
  | nil => exact absurd rfl h0
  | cons b l =>
    show allF (l.length + 1) (b :: l) = _
    simp only [allF]
    rw [if_neg h0, if_neg h]

theorem allW_good (l : List UInt8) (h0 : l ≠ []) (h : gotE l = 0) : allW l = comb [gotX l] (allW (l.drop (gotK l))) := by
  have hk := got_ok l h
  unfold allW comb
  cases l with
  | nil => exact absurd rfl h0
  | cons b l =>
    show allF (l.length + 1) (b :: l) = _
    rw [← allF_fuel l.length _ ((b :: l).drop (gotK (b :: l))) (by simp at hk ⊢; omega) (Nat.le_refl _)]
    simp only [allF]
    rw [if_neg h0, if_pos h]
    rfl

theorem comb_comb (a b : List Int) (r : List Int × Int) : comb a (comb b r) = comb (a ++ b) r := by
  unfold comb
  by_cases h : r.2 = 0
  · simp [h]
  · simp [h]

theorem comb_bad (a : List Int) (e : Int) (h : e ≠ 0) : comb a ([], e) = ([], e) := by simp [comb, h]

theorem comb_zero (r : List Int × Int) (h : r.2 ≠ 0 → r.1 = []) : comb [] r = r := by
  unfold comb
  by_cases h2 : r.2 = 0
  · rw [if_pos h2]
    obtain ⟨a, b⟩ := r
    simp at h2
    simp [h2]
  · rw [if_neg h2]
    obtain ⟨a, b⟩ := r
    have := h h2
    simp at this
    simp [this]

theorem allW_bad0 (l : List UInt8) (h : (allW l).2 ≠ 0) : (allW l).1 = [] := by
  revert h
  unfold allW
  cases l.length with
  | zero => simp [allF]
  | succ f =>
    simp only [allF]
    repeat' split
    all_goals simp

/-- Memory bears it: few bytes, or few numbers. -/
def Bears (l : List UInt8) : Prop := l.length * 8 ≤ 140737488355328 ∨ ((allW l).2 = 0 ∧ (allW l).1.length * 8 ≤ 140737488355328)

theorem bears_at (l : List UInt8) (q : Nat) (ys : List Int) (hb : Bears l) (hc : allW l = comb ys (allW (l.drop q))) (hy : ys.length ≤ q) (hq : q < l.length) (hg : gotE (l.drop q) = 0) : (ys.length + 1) * 8 ≤ 140737488355328 := by
  rcases hb with h | ⟨h1, h2⟩
  · omega
  · have hne : l.drop q ≠ [] := by
      intro e
      have := congrArg List.length e
      simp at this
      omega
    rw [allW_good _ hne hg, comb_comb] at hc
    rw [hc] at h1 h2
    unfold comb at h1 h2
    by_cases h3 : (allW ((l.drop q).drop (gotK (l.drop q)))).2 = 0
    · rw [if_pos h3] at h2
      simp at h2
      omega
    · rw [if_neg h3] at h1
      exact absurd h1 h3

def ListPost (w : World) (l : List UInt8) (e : Ending) (w' : World) : Prop :=
  ∃ v, e = .returned (.tuple #[v, .int .i64 (allW l).2]) ∧ Mine w' w.heap.size v (allW l).1.length (allW l).1 ∧ w.grownBy w' none

def ListRel (w : World) (l : List UInt8) (o i : Value) (wr : World) : Prop :=
  ∃ (q : Nat) (ys : List Int), q ≤ l.length ∧ i = .int .i64 (q : Nat) ∧ ys.length ≤ q ∧ allW l = comb ys (allW (l.drop q)) ∧ Mine wr w.heap.size o ys.length ys ∧ w.grownBy wr none

theorem list_next (l : List UInt8) (q : Nat) (ys : List Int) (hq : q < l.length) (hc : allW l = comb ys (allW (l.drop q))) (hg : gotE (l.drop q) = 0) :
    allW l = comb (ys ++ [gotX (l.drop q)]) (allW (l.drop (q + gotK (l.drop q)))) ∧ q + gotK (l.drop q) ≤ l.length ∧ 0 < gotK (l.drop q) := by
  have hne : l.drop q ≠ [] := by
    intro e
    have := congrArg List.length e
    simp at this
    omega
  obtain ⟨h1, h2, _⟩ := got_ok _ hg
  rw [List.length_drop] at h2
  rw [allW_good _ hne hg, comb_comb, List.drop_drop] at hc
  exact ⟨hc, by omega, h1⟩

theorem list_stop (l : List UInt8) (q : Nat) (ys : List Int) (hq : q < l.length) (hc : allW l = comb ys (allW (l.drop q))) (hg : gotE (l.drop q) ≠ 0) : allW l = ([], gotE (l.drop q)) := by
  have hne : l.drop q ≠ [] := by
    intro e
    have := congrArg List.length e
    simp at this
    omega
  rw [allW_bad _ hne hg, comb_bad _ _ hg] at hc
  exact hc

theorem list_end (l : List UInt8) (ys : List Int) (hc : allW l = comb ys (allW (l.drop l.length))) : allW l = (ys, 0) := by
  rw [List.drop_length, allW_nil] at hc
  simpa [comb] using hc

theorem Mine.grow' {w : World} {base : Nat} {v : Value} {n : Nat} {xs : List Int} (h : Mine w base v n xs) (o : Obj) : Mine (w.alloc o) base v n xs := h.kept (grow0 w o)

theorem List_any (s : ByteArray) (w : World) (hs : s.size ≤ 9223372036854775807) (hb : Bears (bsOf s)) :
    Calls Try.prog 17 #[.string s] w (ListPost w (bsOf s)) := by
  have hl := bsOf_len s
  have HB := Lib.hid hb
  clear hb
  go_enter Try.func17, Try.ntmps17
  have HS : Hid (ListRel w (bsOf s) (.slice none 0 0) (.int .i64 0) w) := ⟨0, [], Nat.zero_le _, rfl, Nat.zero_le _, (comb_zero _ (allW_bad0 _)).symm, Mine.nil _ _, World.grownBy.refl _ _⟩
  go_wp2
  go_loopw [4, 5] (fun o i wr => ListRel w (bsOf s) o i wr) (fun _ i _ => s.size - (intOf i).toNat)
  case atStart => exact HS.out
  case round =>
    clear HS
    obtain ⟨q, ys, hq, rfl, hy, hc, hmine, hg⟩ := hrel
    have HM := Lib.hid hmine
    have HC := Lib.hid hc
    have HG := Lib.hid hg
    have hsz := hg.size
    clear hmine hc hg
    by_cases hlt : q < s.size
    · go_wp2_with fail
      refine (Get_any s (q : Int) wr hs).mono ?_
      rintro e w1 ⟨he, hg1⟩
      rw [GetV_in _ q (by omega)] at he
      have HG1 := Lib.hid (grown_trans HG.out hg1)
      have HM1 := Lib.hid (HM.out.kept hg1)
      have hsz1 := hg1.size
      clear HM HG hg1
      by_cases h0 : gotE ((bsOf s).drop q) = 0
      · rw [if_pos h0, h0] at he
        obtain ⟨hn1, hn2, hn3⟩ := list_next _ q ys (by omega) HC.out h0
        have hcap := bears_at _ q ys HB.out HC.out hy (by omega) h0
        obtain ⟨_, _, _, hx, _⟩ := got_ok _ h0
        obtain ⟨hx0, hx1⟩ := hx
        have HN := Lib.hid hn1
        clear hn1 HC HB h0
        generalize gotX ((bsOf s).drop q) = x at *
        generalize gotK ((bsOf s).drop q) = j at *
        subst he
        have HR := Lib.hid (Row.one (w := w1) x (by omega))
        have HM2 := Lib.hid (HM1.out.grow' (.cells #[.int .i64 x] 3))
        go_wp2_with (first | (at_builtin; refine wpList_app _ rfl _ _ rfl w.heap.size _ _ ys rfl HM2.out _ 1 1 [x] rfl HR.out (by simp) hcap (by simp; omega) ?_))
        intro v2 w2 hmine2 hg2 _
        have HR2 : Hid (ListRel w (bsOf s) v2 (.int .i64 ((q + j : Nat) : Int)) w2) :=
          ⟨q + j, ys ++ [x], hn2, rfl, by simp; omega, HN.out, by simpa using hmine2, grown_none (grown_trans HG1.out (grow0 _ _)) hg2 (fun g hg => HM2.out.own_ge g hg)⟩
        clear hmine2 hg2 HM2 HR HM1 HG1 HN
        go_wp2
        go_roundw
        case rel => exact HR2.out
        case measure => simp [intOf]; omega
      · rw [if_neg h0] at he
        have HE := Lib.hid (list_stop _ q ys (by omega) HC.out h0)
        have h1 : (gotE ((bsOf s).drop q) != 0) = true := by simp [h0]
        clear HC HB
        generalize gotE ((bsOf s).drop q) = er at *
        subst he
        go_wp2
        go_ret2
        exact ⟨_, by rw [HE.out]; rfl, by rw [HE.out]; exact Mine.nil _ _, HG1.out⟩
    · obtain rfl : q = s.size := by omega
      have hc := HC.out
      rw [← hl] at hc
      have HE := Lib.hid (list_end _ ys hc)
      clear hc HC HB
      go_wp2
      go_ret2
      exact ⟨_, by rw [HE.out]; rfl, by rw [HE.out]; exact HM.out, HG.out⟩

theorem RefList_any (s : ByteArray) (w : World) (hs : s.size ≤ 9223372036854775807) (hb : Bears (bsOf s)) :
    Calls Try.prog 18 #[.string s] w (ListPost w (bsOf s)) := by
  have hl := bsOf_len s
  have HB := Lib.hid hb
  clear hb
  go_enter Try.func18, Try.ntmps18
  have HS : Hid (ListRel w (bsOf s) (.slice none 0 0) (.int .i64 0) w) := ⟨0, [], Nat.zero_le _, rfl, Nat.zero_le _, (comb_zero _ (allW_bad0 _)).symm, Mine.nil _ _, World.grownBy.refl _ _⟩
  go_wp2
  go_loopw [4, 5] (fun o i wr => ListRel w (bsOf s) o i wr) (fun _ i _ => s.size - (intOf i).toNat)
  case atStart => exact HS.out
  case round =>
    clear HS
    obtain ⟨q, ys, hq, rfl, hy, hc, hmine, hg⟩ := hrel
    have HM := Lib.hid hmine
    have HC := Lib.hid hc
    have HG := Lib.hid hg
    have hsz := hg.size
    clear hmine hc hg
    by_cases hlt : q < s.size
    · go_wp2_with fail
      refine (RefGet_any s (q : Int) wr hs).mono ?_
      rintro e w1 ⟨he, hg1⟩
      rw [GetV_in _ q (by omega)] at he
      have HG1 := Lib.hid (grown_trans HG.out hg1)
      have HM1 := Lib.hid (HM.out.kept hg1)
      have hsz1 := hg1.size
      clear HM HG hg1
      by_cases h0 : gotE ((bsOf s).drop q) = 0
      · rw [if_pos h0, h0] at he
        obtain ⟨hn1, hn2, hn3⟩ := list_next _ q ys (by omega) HC.out h0
        have hcap := bears_at _ q ys HB.out HC.out hy (by omega) h0
        obtain ⟨_, _, _, hx, _⟩ := got_ok _ h0
        obtain ⟨hx0, hx1⟩ := hx
        have HN := Lib.hid hn1
        clear hn1 HC HB h0
        generalize gotX ((bsOf s).drop q) = x at *
        generalize gotK ((bsOf s).drop q) = j at *
        subst he
        have HR := Lib.hid (Row.one (w := w1) x (by omega))
        have HM2 := Lib.hid (HM1.out.grow' (.cells #[.int .i64 x] 3))
        go_wp2_with (first | (at_builtin; refine wpList_app _ rfl _ _ rfl w.heap.size _ _ ys rfl HM2.out _ 1 1 [x] rfl HR.out (by simp) hcap (by simp; omega) ?_))
        intro v2 w2 hmine2 hg2 _
        have HR2 : Hid (ListRel w (bsOf s) v2 (.int .i64 ((q + j : Nat) : Int)) w2) :=
          ⟨q + j, ys ++ [x], hn2, rfl, by simp; omega, HN.out, by simpa using hmine2, grown_none (grown_trans HG1.out (grow0 _ _)) hg2 (fun g hg => HM2.out.own_ge g hg)⟩
        clear hmine2 hg2 HM2 HR HM1 HG1 HN
        go_wp2
        go_roundw
        case rel => exact HR2.out
        case measure => simp [intOf]; omega
      · rw [if_neg h0] at he
        have HE := Lib.hid (list_stop _ q ys (by omega) HC.out h0)
        have h1 : (gotE ((bsOf s).drop q) != 0) = true := by simp [h0]
        clear HC HB
        generalize gotE ((bsOf s).drop q) = er at *
        subst he
        go_wp2
        go_ret2
        exact ⟨_, by rw [HE.out]; rfl, by rw [HE.out]; exact Mine.nil _ _, HG1.out⟩
    · obtain rfl : q = s.size := by omega
      have hc := HC.out
      rw [← hl] at hc
      have HE := Lib.hid (list_end _ ys hc)
      clear hc HC HB
      go_wp2
      go_ret2
      exact ⟨_, by rw [HE.out]; rfl, by rw [HE.out]; exact HM.out, HG.out⟩

end Go.Proofs.Ytaiiakgghelajaa
