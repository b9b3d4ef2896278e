/-
  A copy of a row, a rate; stream.Move and the reference's.
-/
import Derived.Test.YtefgnaldiggnnaaOwnC
import Derived.Test.YtefgnaldiggnnaaFlowC
import Derived.Lib.SliceRun
set_option maxRecDepth 20000
namespace Go.Proofs.Ytefgnaldiggnnaa
open Go.RowKit

def ClonePost (w : World) (n : Nat) (xs : List Int) (e : Ending) (w' : World) : Prop := ∃ v, e = .returned v ∧ Mine w' w.heap.size v n xs ∧ w.grownBy w' none

set_option maxRecDepth 20000 in
theorem Clone_any (A : Option Addr) (n c : Nat) (xs : List Int) (w : World) {B : Nat} (h : Row w B A n xs) (hB : B ≤ w.heap.size) (hr : n * 8 ≤ 140737488355328) :
    Calls Try.prog 30 #[.slice A n c] w (ClonePost w n xs) := by
  cases A with
  | none =>
    have hm : n = 0 := by
      rcases Nat.eq_zero_or_pos n with h0 | h0
      · exact h0
      · obtain ⟨b, off, h, _⟩ := h.at_ h0
        cases h
    subst hm
    have hx : xs = [] := List.eq_nil_of_length_eq_zero h.len
    subst hx
    clear h
    have hq : (binOp .eql 25 (.slice none 0 c) (.slice none 0 0)).run Try.prog w = .ok (.bool true) w := Lib.run_eql_slice_nil w 25 3 none 0 c 0 0 Try.underlying25
    go_enter Try.func30, Try.ntmps30
    go_wp2
    go_ret
    exact ⟨_, rfl, Mine.nil _ _, World.grownBy.refl w none⟩
  | some ad =>
    have HM := Lib.hid (Mine.lit (w := w) (base := w.heap.size) (g := w.heap.size) (vs := #[]) [] 0 rfl rfl rfl (Nat.le_refl _) (by simp))
    have HR := Lib.hid (h.grown hB (grow0 w (.cells #[] 3)))
    have hq : (binOp .eql 25 (.slice (some ad) n c) (.slice none 0 0)).run Try.prog w = .ok (.bool false) w := Lib.run_eql_slice_nil w 25 3 (some ad) n c 0 0 Try.underlying25
    clear h
    go_enter Try.func30, Try.ntmps30
    go_wp2_with (first | (at_builtin; refine wpList_app _ rfl _ _ rfl w.heap.size _ _ _ rfl HM.out _ n c xs rfl HR.out (by simp) (by omega) (by simp) ?_))
    intro v1 w3 hm1 hg3 _
    have G3 := Lib.hid (grown_none (grow0 w (.cells #[] 3)) hg3 (fun g hg => HM.out.own_ge g hg))
    have HM3 := Lib.hid hm1
    clear hm1 hg3
    go_wp2
    go_ret
    exact ⟨_, rfl, by simpa using HM3.out, G3.out⟩

theorem rateF_no0 {b : Int} (h : b < 0) : rateF b = false := by simp [rateF]; omega
theorem rateF_no1 {b : Int} (h : 4611686018427387904 < b) : rateF b = false := by simp [rateF]; omega
theorem rateF_yes {b : Int} (h : ¬ b < 0) (k : ¬ 4611686018427387904 < b) : rateF b = true := by simp [rateF]; omega

def MvRel (w1 : World) (b : Int) (n m : Nat) (caps f rs : List Int) (Av : Option Addr) (cv : Nat) (i : Value) (wr : World) : Prop :=
  ∃ (k : Nat) (g : List Int), k ≤ m ∧ i = .int .i64 (k : Nat) ∧ w1.grownBy wr none ∧ Mine wr w1.heap.size (.slice Av n cv) n g ∧ ratesB caps g = true ∧ movK caps b g (rs.drop k) = movK caps b f rs

theorem form_fits {V : Int} {L : List Lk} {caps f rs : List Int} {b : Int} (h : fitsF V L caps f = false) : formM V L caps f b rs = false := by simp [formM, h]
theorem form_rate {V : Int} {L : List Lk} {caps f rs : List Int} {b : Int} (h : rateF b = false) : formM V L caps f b rs = false := by simp [formM, h]
theorem form_many {V : Int} {L : List Lk} {caps f rs : List Int} {b : Int} (h : ¬ rs.length ≤ 64) : formM V L caps f b rs = false := by simp [formM, h]
theorem form_arcs {V : Int} {L : List Lk} {caps f rs : List Int} {b : Int} (h : allV (2 * (L.length : Int)) rs = false) : formM V L caps f b rs = false := by simp [formM, h]
theorem form_move {V : Int} {L : List Lk} {caps f rs : List Int} {b : Int} (h : fitsF V L caps f = true) (h1 : rateF b = true) (h2 : rs.length ≤ 64) (h3 : allV (2 * (L.length : Int)) rs = true) : formM V L caps f b rs = true := by simp [formM, h, h1, h2, h3]

theorem new_even {f : List Int} {b a : Int} {i : Nat} (hi : (a / 2).toNat = i) (h : a % 2 = 0) : f.set (a / 2).toNat (newI f b a) = f.set i (f[i]?.getD 0 + b) := by simp [newI, hi, h]
theorem new_odd {f : List Int} {b a : Int} {i : Nat} (hi : (a / 2).toNat = i) (h : a % 2 = 1) : f.set (a / 2).toNat (newI f b a) = f.set i (f[i]?.getD 0 - b) := by simp [newI, hi, h]

theorem rates_ok2 {caps f : List Int} (h : ratesB caps f = true) (ho : okI caps) : okI f := by
  intro i
  by_cases hi : i < f.length
  · have h1 := rates_at h (i := i) (by have := (ratesB_parts h).1; omega)
    have := ho i
    omega
  · rw [List.getElem?_eq_none (by omega)]
    simp

end Go.Proofs.Ytefgnaldiggnnaa
