import Derived.Test.YthblaieneglddaaSortInts
import Derived.Test.YthblaieneglddaaSpanE
import Derived.Test.YthblaieneglddaaMathCut
namespace Go.Proofs.Ythblaieneglddaa
open Go.RowKit

theorem inside_step (a b : Int) (ps : List Int) (k : Nat) (h : k < ps.length) :
    inside a b (ps.take (k + 1)) = inside a b (ps.take k) ++ (if a < ps[k]?.getD 0 ∧ ps[k]?.getD 0 < b then [ps[k]?.getD 0] else []) := by
  have e : ps.take (k + 1) = ps.take k ++ [ps[k]?.getD 0] := by
    rw [List.take_add_one, List.getElem?_eq_getElem h]
    rfl
  rw [e, inside, inside, List.filter_append]
  congr 1
  by_cases c : a < ps[k]?.getD 0 ∧ ps[k]?.getD 0 < b
  · rw [if_pos c]; simp [List.filter, c.1, c.2]
  · rw [if_neg c]
    have : (decide (a < ps[k]?.getD 0) && decide (ps[k]?.getD 0 < b)) = false := by simpa using c
    simp [List.filter, this]

theorem inside_len (a b : Int) (ps : List Int) (k : Nat) : (inside a b (ps.take k)).length ≤ k :=
  Nat.le_trans (List.length_filter_le _ _) (by simp; omega)

theorem pts_ok (a b : Int) (ps : List Int) (h : ∀ i : Nat, -9223372036854775808 ≤ ps[i]?.getD 0 ∧ ps[i]?.getD 0 ≤ 9223372036854775807) (i : Nat) :
    -9223372036854775808 ≤ (pts a b ps)[i]?.getD 0 ∧ (pts a b ps)[i]?.getD 0 ≤ 9223372036854775807 := by
  rcases Nat.lt_or_ge i (pts a b ps).length with hi | hi
  · have hm := ((pts_mem a b ps _).1 (List.getElem_mem hi)).1
    obtain ⟨j, hj, e⟩ := List.mem_iff_getElem.1 hm
    have := h j
    rw [List.getElem?_eq_getElem hj, e] at this
    rw [List.getElem?_eq_getElem hi]
    exact this
  · rw [List.getElem?_eq_none hi]
    simp

theorem pts_len (a b : Int) (ps : List Int) : (pts a b ps).length ≤ ps.length := by
  refine Nat.le_trans (compact_le _) ?_
  rw [sortI_len]
  exact List.length_filter_le _ _

def WithinRel (w : World) (n : Nat) (a b : Int) (ps : List Int) (s i : Value) (wr : World) : Prop :=
  ∃ k m, k ≤ n ∧ m ≤ k ∧ i = .int .i64 (k : Nat) ∧ w.grownBy wr none ∧ Own wr w.heap.size 23 [.int .i64 a, .int .i64 b] ∧ Mine wr (w.heap.size + 1) s m (inside a b (ps.take k))

def WithinPost (w : World) (ys : List Int) (e : Ending) (w' : World) : Prop :=
  ∃ A c, e = .returned (.slice A ys.length c) ∧ Row w' w'.heap.size A ys.length ys ∧ w.grownBy w' none

theorem within_any (a b : Int) (A : Option Addr) (n c : Nat) (ps : List Int) (w : World) {B : Nat} (h : Row w B A n ps) (hr : n * 8 ≤ 140737488351232) :
    Calls Try.prog 26 #[.agg #[.int .i64 a, .int .i64 b], .slice A n c] w (WithinPost w (pts a b ps)) := by
  have hn := h.small
  have HR := Lib.hid h
  have HL := Lib.hid h.len
  have HS : Hid (WithinRel w n a b ps (.slice none 0 0) (.int .i64 0) (w.alloc (.cells #[.int .i64 a, .int .i64 b] 23))) :=
    ⟨0, 0, Nat.zero_le _, Nat.le_refl _, rfl, grow0 _ _, Own.new w 23 [.int .i64 a, .int .i64 b], Mine.nil _ _⟩
  clear h
  go_enter Try.func26, Try.ntmps26
  go_wp2
  go_loopw [5, 10] (fun s i wr => WithinRel w n a b ps s i wr) (fun _ i _ => n - (intOf i).toNat)
  case atStart => exact HS.out
  case round =>
    clear HS
    obtain ⟨k, m, hk, hmk, rfl, hg, o2, hmine⟩ := hrel
    have G := Lib.hid hg
    have O2 := Lib.hid o2
    have HM := Lib.hid hmine
    have hl2 := o2.lt
    obtain ⟨c0, c1⟩ := o2.two
    clear hmine o2
    by_cases hlt : k < n
    · obtain ⟨bb, off, hA, hbb, hcell⟩ := HR.out.at_ (by omega)
      subst hA
      have d0 := kept hg (hcell k hlt)
      have HI := Lib.hid (inside_step a b ps k (by rw [HL.out]; exact hlt))
      have hok := HR.out.ok k
      clear hcell hg
      generalize ps[k]?.getD 0 = x at *
      by_cases hx : a < x ∧ x < b
      · have HI2 := HI.out
        rw [if_pos hx] at HI2
        have HI2 := Lib.hid HI2
        obtain ⟨h1, h2⟩ := hx
        have HROW := Lib.hid (Row.one (w := wr) x hok)
        have HM1 : Hid (Mine (wr.alloc (.cells #[.int .i64 x] 3)) (w.heap.size + 1) u5 m (inside a b (ps.take k))) := HM.out.kept (grow0 _ _)
        clear HI
        go_wp2_with (first | (at_builtin; refine wpList_app _ rfl _ _ rfl (w.heap.size + 1) _ m (inside a b (ps.take k)) rfl HM1.out (B := wr.heap.size + 1) _ 1 1 [x] rfl HROW.out (by simp) (by omega) (by simp; omega) ?_))
        intro v2 w2 hmine2 hg2 _
        have HM2 : Hid (Mine w2 (w.heap.size + 1) v2 (m + 1) (inside a b (ps.take (k + 1)))) := by rw [HI2.out]; exact hmine2
        have HG2 := Lib.hid (grown_none (grown_trans G.out (grow0 wr (.cells #[.int .i64 x] 3))) hg2 (fun g hg => by have := HM1.out.own_ge g hg; omega))
        have HO2 : Hid (Own w2 w.heap.size 23 [.int .i64 a, .int .i64 b]) := (O2.out.alloc (.cells #[.int .i64 x] 3)).keep (hg2.block _ (by simp; omega) (fun e => by have := HM1.out.own_ge _ e.symm; omega))
        clear hmine2 hg2
        go_wp2
        go_roundw
        case rel => exact ⟨k + 1, m + 1, by omega, by omega, by go_num, HG2.out, HO2.out, HM2.out⟩
        case measure => simp [intOf]; omega
      · have HI2 := HI.out
        rw [if_neg hx, List.append_nil] at HI2
        have HM2 : Hid (Mine wr (w.heap.size + 1) u5 m (inside a b (ps.take (k + 1)))) := by rw [HI2]; exact HM.out
        clear HI HI2
        by_cases h1 : a < x
        · have h2 : ¬ x < b := fun h2 => hx ⟨h1, h2⟩
          clear hx
          go_wp2
          go_roundw
          case rel => exact ⟨k + 1, m, by omega, by omega, by go_num, G.out, O2.out, HM2.out⟩
          case measure => simp [intOf]; omega
        · clear hx
          go_wp2
          go_roundw
          case rel => exact ⟨k + 1, m, by omega, by omega, by go_num, G.out, O2.out, HM2.out⟩
          case measure => simp [intOf]; omega
    · have e : ps.take k = ps := List.take_of_length_le (by rw [HL.out]; omega)
      have hm1 := HM.out
      rw [e] at hm1
      have HM := Lib.hid hm1
      clear hm1 e hg
      go_wp2_with fail
      refine (Sort_any _ m _ _ HM.out (by omega)).mono ?_
      rintro e w2 ⟨rfl, hm2, hg2⟩
      have HM2 := Lib.hid hm2
      have HG2 := Lib.hid (grown_none G.out hg2 (fun g hg => by have := HM.out.own_ge g hg; omega))
      clear hm2 hg2
      go_wp2_with fail
      refine (Compact_any _ m _ _ HM2.out (by omega)).mono ?_
      rintro e w3 ⟨v3, rfl, hm3, hv3, hg3⟩
      have hok : ∀ i : Nat, -9223372036854775808 ≤ (pts a b ps)[i]?.getD 0 ∧ (pts a b ps)[i]?.getD 0 ≤ 9223372036854775807 := pts_ok a b ps HR.out.ok
      obtain ⟨A3, c3, hv, _, hrow⟩ := hm3.row hok
      subst hv
      have HG3 := Lib.hid (grown_none HG2.out hg3 (fun g hg => by have := HM2.out.own_ge g hg; omega))
      have HROW := Lib.hid hrow
      clear hm3 hv3 hg3 hrow hok
      go_wp2
      go_ret
      exact ⟨A3, c3, rfl, HROW.out, HG3.out⟩

end Go.Proofs.Ythblaieneglddaa
