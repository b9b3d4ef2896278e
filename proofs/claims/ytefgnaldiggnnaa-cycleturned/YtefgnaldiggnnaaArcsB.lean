/-
  Row; the reference's Tail, Head, Row.
-/
import Derived.Test.YtefgnaldiggnnaaArcsA
set_option maxRecDepth 20000
namespace Go.Proofs.Ytefgnaldiggnnaa
open Go.RowKit

theorem tail_ev {ls : List Lk} {a : Nat} (h : a % 2 = 0) : tailOf ls a = (at3 ls (a / 2)).1 ∧ headOf ls a = (at3 ls (a / 2)).2.1 := by
  unfold tailOf headOf
  rw [if_pos h, if_pos h]
  exact ⟨rfl, rfl⟩

theorem tail_od {ls : List Lk} {a : Nat} (h : ¬ a % 2 = 0) : tailOf ls a = (at3 ls (a / 2)).2.1 ∧ headOf ls a = (at3 ls (a / 2)).1 := by
  unfold tailOf headOf
  rw [if_neg h, if_neg h]
  exact ⟨rfl, rfl⟩

theorem half_int (a : Nat) : (a : Int).tdiv 2 = ((a / 2 : Nat) : Int) ∧ (a : Int).tmod 2 = ((a % 2 : Nat) : Int) := by
  constructor
  · rfl
  · rfl

theorem RTail_any (V : Int) (A : Option Addr) (n c : Nat) (ls : List Lk) (a : Nat) (w : World) {B : Nat} (h : Lks w B A n ls) (ha : a < 2 * n) :
    Calls Try.prog 40 #[.agg #[.int .i64 V, .slice A n c], .int .i64 (a : Nat)] w (Says w (.int .i64 (tailOf ls a))) := by
  have hn := h.small
  obtain ⟨b, off, hA, hb, hcell⟩ := h.cells (by omega)
  subst hA
  obtain ⟨d0, d1, d2⟩ := hcell (a / 2) (by omega)
  have q0 := kept (grow0 w (.cells #[.int .i64 V, .slice (some ⟨b, off, none⟩) n c] 24)) d0
  have q1 := kept (grow0 w (.cells #[.int .i64 V, .slice (some ⟨b, off, none⟩) n c] 24)) d1
  obtain ⟨x0, x1⟩ := half_int a
  have hlt : a / 2 < n := by omega
  clear h hcell d0 d1 d2
  by_cases he : a % 2 = 0
  · have E := Lib.hid (tail_ev (ls := ls) he).1
    rw [he] at x1
    clear he
    generalize a / 2 = k at *
    generalize at3 ls k = l at *
    obtain ⟨p, t, cp⟩ := l
    simp only at q0 q1
    go_enter Try.func40, Try.ntmps40
    go_wp2
    go_ret
    exact ⟨ret_int E.out.symm, grow0 _ _⟩
  · have E := Lib.hid (tail_od (ls := ls) he).1
    have h1 : a % 2 = 1 := by omega
    rw [h1] at x1
    clear he h1
    generalize a / 2 = k at *
    generalize at3 ls k = l at *
    obtain ⟨p, t, cp⟩ := l
    simp only at q0 q1
    go_enter Try.func40, Try.ntmps40
    go_wp2
    go_ret
    exact ⟨ret_int E.out.symm, grow0 _ _⟩

theorem RHead_any (V : Int) (A : Option Addr) (n c : Nat) (ls : List Lk) (a : Nat) (w : World) {B : Nat} (h : Lks w B A n ls) (ha : a < 2 * n) :
    Calls Try.prog 41 #[.agg #[.int .i64 V, .slice A n c], .int .i64 (a : Nat)] w (Says w (.int .i64 (headOf ls a))) := by
  have hn := h.small
  obtain ⟨b, off, hA, hb, hcell⟩ := h.cells (by omega)
  subst hA
  obtain ⟨d0, d1, d2⟩ := hcell (a / 2) (by omega)
  have q0 := kept (grow0 w (.cells #[.int .i64 V, .slice (some ⟨b, off, none⟩) n c] 24)) d0
  have q1 := kept (grow0 w (.cells #[.int .i64 V, .slice (some ⟨b, off, none⟩) n c] 24)) d1
  obtain ⟨x0, x1⟩ := half_int a
  have hlt : a / 2 < n := by omega
  clear h hcell d0 d1 d2
  by_cases he : a % 2 = 0
  · have E := Lib.hid (tail_ev (ls := ls) he).2
    rw [he] at x1
    clear he
    generalize a / 2 = k at *
    generalize at3 ls k = l at *
    obtain ⟨p, t, cp⟩ := l
    simp only at q0 q1
    go_enter Try.func41, Try.ntmps41
    go_wp2
    go_ret
    exact ⟨ret_int E.out.symm, grow0 _ _⟩
  · have E := Lib.hid (tail_od (ls := ls) he).2
    have h1 : a % 2 = 1 := by omega
    rw [h1] at x1
    clear he h1
    generalize a / 2 = k at *
    generalize at3 ls k = l at *
    obtain ⟨p, t, cp⟩ := l
    simp only at q0 q1
    go_enter Try.func41, Try.ntmps41
    go_wp2
    go_ret
    exact ⟨ret_int E.out.symm, grow0 _ _⟩

def RRowRel (w : World) (V : Int) (A : Option Addr) (n c : Nat) (ls : List Lk) (x : Int) (o i : Value) (wr : World) : Prop :=
  ∃ k : Nat, k ≤ 2 * n ∧ i = .int .i64 (k : Nat) ∧ w.grownBy wr none ∧ Own wr w.heap.size 24 [.int .i64 V, .slice A n c] ∧ Mine wr (w.heap.size + 1) o (rowA ls x k).length (rowA ls x k)

end Go.Proofs.Ytefgnaldiggnnaa
