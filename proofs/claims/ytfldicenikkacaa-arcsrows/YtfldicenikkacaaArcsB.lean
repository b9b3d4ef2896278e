/-
  Row; the reference's Tail, Head, Row.
-/
import Derived.Test.YtfldicenikkacaaArcsA
namespace Go.Proofs.Ytfldicenikkacaa
open Go.RowKit

theorem Row_any (V x : Int) (A : Option Addr) (n c : Nat) (ls : List Lk) (w : World) {B : Nat} (h : Lks w B A n ls) (hB : B ≤ w.heap.size) :
    Calls Try.prog 32 #[.agg #[.int .i64 V, .slice A n c], .int .i64 x] w (SelPost w (rowOf V ls x) (rowE V ls x)) := by
  have hn := h.small
  have HL := Lib.hid h.len
  have HR := Lib.hid h
  have HR1 := Lib.hid (h.grown hB (grow0 w (.cells #[.int .i64 V, .slice A n c] 24)))
  clear h
  go_enter Try.func32, Try.ntmps32
  go_wp2_with fail
  refine (GMay_any V A n c ls _ HR1.out (by simp; omega)).mono ?_
  rintro e w1 ⟨rfl, g1⟩
  obtain ⟨g, o2⟩ := box1 [.int .i64 V, .slice A n c] g1
  obtain ⟨c0, c1⟩ := o2.two
  have G := Lib.hid g
  have O2 := Lib.hid o2
  have s1 := g.size
  clear g g1 o2 HR1
  cases hm : mayG V ls
  · have E := Lib.hid (rowOf_no (V := V) (ls := ls) (v := x) (by simp [goodB, hm]))
    go_wp2
    go_ret2
    exact ⟨.slice none 0 0, ret_sel E.out.2, by rw [E.out.1]; exact Mine.nil _ _, G.out⟩
  · go_wp2_with fail
    refine (Vert1_any V x A n c _ rfl).mono ?_
    rintro e w9 ⟨rfl, g9⟩
    have O2 := Lib.hid (O2.out.kept g9)
    have G := Lib.hid (grown_trans G.out g9)
    have s9 := G.out.size
    clear g9 c0 c1
    obtain ⟨c0, c1⟩ := O2.out.two
    cases hx : isV V x
    · have E := Lib.hid (rowOf_no (V := V) (ls := ls) (v := x) (by simp [goodB, hx]))
      clear hx
      go_wp2
      go_ret2
      exact ⟨.slice none 0 0, ret_sel E.out.2, by rw [E.out.1]; exact Mine.nil _ _, G.out⟩
    · have E := Lib.hid (rowOf_yes (V := V) (ls := ls) (v := x) (by simp [goodB, hm, hx]))
      have h16 := may_small hm
      rw [HL.out] at h16
      have HR2 := Lib.hid (HR.out.grown hB G.out)
      clear hm hx
      go_wp2_with fail
      refine (begin_any V x A n c ls _ HR2.out (by omega)).mono ?_
      rintro e w2 ⟨v, rfl, hv, k⟩
      have HM := Lib.hid (hv.wide s9)
      have G := Lib.hid (grown_trans G.out k)
      clear hv k
      go_wp2
      go_ret2
      exact ⟨_, ret_sel E.out.2, by rw [E.out.1, HL.out]; exact HM.out, G.out⟩

theorem tail_ev {ls : List Lk} {a : Nat} (h : a % 2 = 0) : tailOf ls a = (at3 ls (a / 2)).1 ∧ headOf ls a = (at3 ls (a / 2)).2.1 := by
  unfold tailOf headOf
  rw [if_pos h, if_pos h]
  exact ⟨rfl, rfl⟩

theorem tail_od {ls : List Lk} {a : Nat} (h : ¬ a % 2 = 0) : tailOf ls a = (at3 ls (a / 2)).2.1 ∧ headOf ls a = (at3 ls (a / 2)).1 := by
  unfold tailOf headOf
  rw [if_neg h, if_neg h]
  exact ⟨rfl, rfl⟩

theorem half_int (a : Nat) : (a : Int).tdiv 2 = ((a / 2 : Nat) : Int) ∧ (a : Int).tmod 2 = ((a % 2 : Nat) : Int) := by
  constructor
  · rfl
  · rfl

theorem RTail_any (V : Int) (A : Option Addr) (n c : Nat) (ls : List Lk) (a : Nat) (w : World) {B : Nat} (h : Lks w B A n ls) (ha : a < 2 * n) :
    Calls Try.prog 55 #[.agg #[.int .i64 V, .slice A n c], .int .i64 (a : Nat)] w (Says w (.int .i64 (tailOf ls a))) := by
  have hn := h.small
  obtain ⟨b, off, hA, hb, hcell⟩ := h.cells (by omega)
  subst hA
  obtain ⟨d0, d1, d2⟩ := hcell (a / 2) (by omega)
  have q0 := kept (grow0 w (.cells #[.int .i64 V, .slice (some ⟨b, off, none⟩) n c] 24)) d0
  have q1 := kept (grow0 w (.cells #[.int .i64 V, .slice (some ⟨b, off, none⟩) n c] 24)) d1
  obtain ⟨x0, x1⟩ := half_int a
  have hlt : a / 2 < n := by omega
  clear h hcell d0 d1 d2
  by_cases he : a % 2 = 0
  · have E := Lib.hid (tail_ev (ls := ls) he).1
    rw [he] at x1
    clear he
    generalize a / 2 = k at *
    generalize at3 ls k = l at *
    obtain ⟨p, t, cp⟩ := l
    simp only at q0 q1
    go_enter Try.func55, Try.ntmps55
    go_wp2
    go_ret
    exact ⟨ret_int E.out.symm, grow0 _ _⟩
  · have E := Lib.hid (tail_od (ls := ls) he).1
    have h1 : a % 2 = 1 := by omega
    rw [h1] at x1
    clear he h1
    generalize a / 2 = k at *
    generalize at3 ls k = l at *
    obtain ⟨p, t, cp⟩ := l
    simp only at q0 q1
    go_enter Try.func55, Try.ntmps55
    go_wp2
    go_ret
    exact ⟨ret_int E.out.symm, grow0 _ _⟩

theorem RHead_any (V : Int) (A : Option Addr) (n c : Nat) (ls : List Lk) (a : Nat) (w : World) {B : Nat} (h : Lks w B A n ls) (ha : a < 2 * n) :
    Calls Try.prog 54 #[.agg #[.int .i64 V, .slice A n c], .int .i64 (a : Nat)] w (Says w (.int .i64 (headOf ls a))) := by
  have hn := h.small
  obtain ⟨b, off, hA, hb, hcell⟩ := h.cells (by omega)
  subst hA
  obtain ⟨d0, d1, d2⟩ := hcell (a / 2) (by omega)
  have q0 := kept (grow0 w (.cells #[.int .i64 V, .slice (some ⟨b, off, none⟩) n c] 24)) d0
  have q1 := kept (grow0 w (.cells #[.int .i64 V, .slice (some ⟨b, off, none⟩) n c] 24)) d1
  obtain ⟨x0, x1⟩ := half_int a
  have hlt : a / 2 < n := by omega
  clear h hcell d0 d1 d2
  by_cases he : a % 2 = 0
  · have E := Lib.hid (tail_ev (ls := ls) he).2
    rw [he] at x1
    clear he
    generalize a / 2 = k at *
    generalize at3 ls k = l at *
    obtain ⟨p, t, cp⟩ := l
    simp only at q0 q1
    go_enter Try.func54, Try.ntmps54
    go_wp2
    go_ret
    exact ⟨ret_int E.out.symm, grow0 _ _⟩
  · have E := Lib.hid (tail_od (ls := ls) he).2
    have h1 : a % 2 = 1 := by omega
    rw [h1] at x1
    clear he h1
    generalize a / 2 = k at *
    generalize at3 ls k = l at *
    obtain ⟨p, t, cp⟩ := l
    simp only at q0 q1
    go_enter Try.func54, Try.ntmps54
    go_wp2
    go_ret
    exact ⟨ret_int E.out.symm, grow0 _ _⟩

def RRowRel (w : World) (V : Int) (A : Option Addr) (n c : Nat) (ls : List Lk) (x : Int) (o i : Value) (wr : World) : Prop :=
  ∃ k : Nat, k ≤ 2 * n ∧ i = .int .i64 (k : Nat) ∧ w.grownBy wr none ∧ Own wr w.heap.size 24 [.int .i64 V, .slice A n c] ∧ Mine wr (w.heap.size + 1) o (rowA ls x k).length (rowA ls x k)

theorem RRow_any (V x : Int) (A : Option Addr) (n c : Nat) (ls : List Lk) (w : World) {B : Nat} (h : Lks w B A n ls) (hB : B ≤ w.heap.size) :
    Calls Try.prog 33 #[.agg #[.int .i64 V, .slice A n c], .int .i64 x] w (SelPost w (rowOf V ls x) (rowE V ls x)) := by
  have hn := h.small
  have HL := Lib.hid h.len
  have HR := Lib.hid h
  have HR1 := Lib.hid (h.grown hB (grow0 w (.cells #[.int .i64 V, .slice A n c] 24)))
  clear h
  go_enter Try.func33, Try.ntmps33
  go_wp2_with fail
  refine (RMay_any V A n c ls _ HR1.out).mono ?_
  rintro e w1 ⟨rfl, g1⟩
  obtain ⟨g, o2⟩ := box1 [.int .i64 V, .slice A n c] g1
  obtain ⟨c0, c1⟩ := o2.two
  have G := Lib.hid g
  have O2 := Lib.hid o2
  clear g g1 o2 HR1
  cases hm : mayG V ls
  · have E := Lib.hid (rowOf_no (V := V) (ls := ls) (v := x) (by simp [goodB, hm]))
    go_wp2
    go_ret2
    exact ⟨.slice none 0 0, ret_sel E.out.2, by rw [E.out.1]; exact Mine.nil _ _, G.out⟩
  · go_wp2_with fail
    refine (RVertex_any V x A n c _).mono ?_
    rintro e w2 ⟨rfl, g2⟩
    have O2 := Lib.hid (O2.out.kept g2)
    have G := Lib.hid (grown_trans G.out g2)
    obtain ⟨c0, c1⟩ := O2.out.two
    clear g2
    cases hx : isV V x
    · have E := Lib.hid (rowOf_no (V := V) (ls := ls) (v := x) (by simp [goodB, hx]))
      go_wp2
      go_ret2
      exact ⟨.slice none 0 0, ret_sel E.out.2, by rw [E.out.1]; exact Mine.nil _ _, G.out⟩
    · have E := Lib.hid (rowOf_yes (V := V) (ls := ls) (v := x) (by simp [goodB, hm, hx]))
      have h16 := may_small hm
      rw [HL.out] at h16
      have HS : Hid (RRowRel w V A n c ls x (.slice none 0 0) (.int .i64 0) w2) := ⟨0, Nat.zero_le _, rfl, G.out, O2.out, Mine.nil _ _⟩
      clear G hm hx
      go_wp2
      go_loopw [6, 7] (fun o i wr => RRowRel w V A n c ls x o i wr) (fun _ i _ => 2 * n - (intOf i).toNat)
      case atStart => exact HS.out
      case round =>
        clear HS c0 c1 O2
        obtain ⟨k, hk, rfl, hg, o2, hmine⟩ := hrel
        have G := Lib.hid hg
        have hsz := hg.size
        have l2 := o2.lt
        obtain ⟨c0, c1⟩ := o2.two
        have O2 := Lib.hid o2
        have HM := Lib.hid hmine
        clear o2 hmine hg
        by_cases hlt : k < 2 * n
        · have hlt' : (k : Int) < 2 * (n : Int) := by omega
          have hyes := Lib.hid (row_yes (ls := ls) (v := x) (m := k))
          have hno := Lib.hid (row_no (ls := ls) (v := x) (m := k))
          have hl := row_len ls x k
          have HT := Lib.hid (RTail_any V A n c ls k wr (HR.out.grown hB G.out) hlt)
          go_wp2_with fail
          refine HT.out.mono ?_
          rintro e w3 ⟨rfl, g3⟩
          have s3 := g3.size
          have O2 := Lib.hid (O2.out.kept g3)
          have HM := Lib.hid (HM.out.kept g3)
          have G := Lib.hid (grown_trans G.out g3)
          have l2 := O2.out.lt
          clear g3 c0 c1 HT
          obtain ⟨c0, c1⟩ := O2.out.two
          generalize tailOf ls k = p at *
          by_cases hp : p = x
          · have HY := Lib.hid (hyes.out hp)
            clear hyes hno
            subst hp
            have hpp : (p == p) = true := by simp
            have HM1 := Lib.hid (HM.out.kept (grow0 _ (.cells #[.int .i64 (k : Nat)] 3)))
            have HROW := Lib.hid (Row.newAt (w := w3) (g := w3.heap.size) (n := 1) (vs := #[.int .i64 (k : Nat)]) [(k : Int)] rfl rfl rfl (by simp) (by simp; omega))
            go_wp2_with (first | (at_builtin; refine wpList_app _ rfl _ _ rfl (w.heap.size + 1) _ _ _ rfl HM1.out _ 1 1 [(k : Int)] rfl HROW.out (by simp) (by omega) (by simp; omega) ?_))
            intro v1 w4 hm1 hg4 _
            have G3 := Lib.hid (grown_none (grown_alloc G.out (.cells #[.int .i64 (k : Nat)] 3)) hg4 (fun g hg => by have := HM.out.own_ge g hg; omega))
            have O3 := Lib.hid (Own.kept' (O2.out.alloc (.cells #[.int .i64 (k : Nat)] 3)) hg4 HM.out.apart)
            have HM3 := Lib.hid hm1
            clear hm1 hg4
            go_wp2
            go_roundw
            case rel => exact ⟨k + 1, by omega, by go_num, G3.out, O3.out, by rw [HY.out]; simpa using HM3.out⟩
            case measure => simp [intOf]; omega
          · have hpp : (p == x) = false := by simp [hp]
            have HN := Lib.hid (hno.out hp)
            go_wp2
            go_roundw
            case rel => exact ⟨k + 1, by omega, by go_num, G.out, O2.out, by rw [HN.out]; exact HM.out⟩
            case measure => simp [intOf]; omega
        · obtain rfl : k = 2 * n := by omega
          have hlt' : ¬ ((2 * n : Nat) : Int) < 2 * (n : Int) := by omega
          go_wp2
          go_ret2
          exact ⟨_, ret_sel E.out.2, by rw [E.out.1, HL.out]; exact HM.out.wide (by omega), G.out⟩

end Go.Proofs.Ytfldicenikkacaa
