/-
  Each arc stands once in Order; links turned. No program here.
-/
import Derived.Test.YtmamnjnmcipjbaaMathArcs
namespace Go.Proofs.Ytmamnjnmcipjbaa

theorem count_arc (ls : List Lk) (v : Int) (m a : Nat) : (arcIf ls v m).count (a : Int) = if m = a ∧ tailOf ls a = v then 1 else 0 := by
  unfold arcIf
  by_cases h : tailOf ls m = v
  · rw [if_pos h]
    by_cases k : m = a
    · subst k; simp [h]
    · have : ((m : Nat) : Int) ≠ (a : Int) := by omega
      simp [k, this]
  · rw [if_neg h]
    by_cases k : m = a
    · subst k; simp [h]
    · simp [k]

theorem count_row (ls : List Lk) (v : Int) (a : Nat) : ∀ m, (rowA ls v m).count (a : Int) = if a < m ∧ tailOf ls a = v then 1 else 0
  | 0 => by simp [rowA]
  | m + 1 => by
    rw [rowA, List.count_append, count_row ls v a m, count_arc]
    by_cases h : tailOf ls a = v
    · simp only [h, and_true]
      by_cases k : a < m
      · rw [if_pos k, if_neg (by omega), if_pos (by omega)]
      · by_cases j : m = a
        · rw [if_neg k, if_pos j, if_pos (by omega)]
        · rw [if_neg k, if_neg j, if_neg (by omega)]
    · simp [h]

theorem count_ord (ls : List Lk) (n a : Nat) (ha : a < 2 * n) : ∀ v : Nat, (ordA ls n v).count (a : Int) = if 0 ≤ tailOf ls a ∧ tailOf ls a < v then 1 else 0
  | 0 => by
    have : ¬ (0 ≤ tailOf ls a ∧ tailOf ls a < ((0 : Nat) : Int)) := by omega
    rw [if_neg this]; simp [ordA]
  | v + 1 => by
    rw [ordA, List.count_append, count_ord ls n a ha v, count_row]
    by_cases h : tailOf ls a = (v : Int)
    · rw [if_neg (by omega), if_pos ⟨ha, h⟩, if_pos (by omega)]
    · rw [if_neg (show ¬ (a < 2 * n ∧ tailOf ls a = (v : Int)) from fun k => h k.2)]
      by_cases k : 0 ≤ tailOf ls a ∧ tailOf ls a < v
      · rw [if_pos k, if_pos (by omega)]
      · rw [if_neg k, if_neg (by omega)]

theorem once {vn : Nat} {ls : List Lk} (h : mayG (vn : Nat) ls = true) {a : Nat} (ha : a < 2 * ls.length) : (ordA ls ls.length vn).count (a : Int) = 1 := by
  rw [count_ord ls ls.length a ha vn, if_pos (tail_bd h ha)]

def sumRows (ls : List Lk) (m : Nat) : Nat → Nat
  | 0 => 0
  | v + 1 => sumRows ls m v + (rowA ls (v : Int) m).length

theorem arc_len (ls : List Lk) (v : Int) (m : Nat) : (rowA ls v (m + 1)).length = (rowA ls v m).length + if tailOf ls m = v then 1 else 0 := by
  rw [rowA, List.length_append, arcIf]
  by_cases h : tailOf ls m = v
  · rw [if_pos h, if_pos h]; rfl
  · rw [if_neg h, if_neg h]; rfl

theorem rows_step (ls : List Lk) (m : Nat) : ∀ v : Nat, sumRows ls (m + 1) v = sumRows ls m v + if 0 ≤ tailOf ls m ∧ tailOf ls m < v then 1 else 0
  | 0 => by
    have : ¬ (0 ≤ tailOf ls m ∧ tailOf ls m < ((0 : Nat) : Int)) := by omega
    rw [if_neg this]; rfl
  | v + 1 => by
    rw [sumRows, sumRows, rows_step ls m v, arc_len]
    by_cases h : tailOf ls m = (v : Int)
    · rw [if_neg (by omega), if_pos h, if_pos (by omega)]; omega
    · rw [if_neg h]
      by_cases k : 0 ≤ tailOf ls m ∧ tailOf ls m < v
      · rw [if_pos k, if_pos (by omega)]; omega
      · rw [if_neg k, if_neg (by omega)]; omega

theorem sum_zero (ls : List Lk) : ∀ v, sumRows ls 0 v = 0
  | 0 => rfl
  | v + 1 => by rw [sumRows, sum_zero ls v]; rfl

theorem sum_all (ls : List Lk) (v : Nat) : ∀ m, (∀ a, a < m → 0 ≤ tailOf ls a ∧ tailOf ls a < v) → sumRows ls m v = m
  | 0, _ => sum_zero ls v
  | m + 1, h => by rw [rows_step, sum_all ls v m (fun a ha => h a (by omega)), if_pos (h m (by omega))]

theorem ord_sum (ls : List Lk) (n : Nat) : ∀ v, (ordA ls n v).length = sumRows ls (2 * n) v
  | 0 => rfl
  | v + 1 => by rw [ordA, List.length_append, ord_sum ls n v]; rfl

theorem ord_all {vn : Nat} {ls : List Lk} (h : mayG (vn : Nat) ls = true) : (ordA ls ls.length vn).length = 2 * ls.length := by
  rw [ord_sum, sum_all ls vn _ fun a ha => tail_bd h ha]

/-- The first k links turned. -/
def turnK (ls : List Lk) : Nat → List Lk
  | 0 => ls
  | k + 1 => (turnK ls k).set k ((at3 ls k).2.1, (at3 ls k).1, (at3 ls k).2.2)

theorem turn_len (ls : List Lk) : ∀ k, (turnK ls k).length = ls.length
  | 0 => rfl
  | k + 1 => by rw [turnK, List.length_set, turn_len ls k]

theorem turn_at (ls : List Lk) : ∀ k i, i < ls.length → at3 (turnK ls k) i = if i < k then ((at3 ls i).2.1, (at3 ls i).1, (at3 ls i).2.2) else at3 ls i
  | 0, i, _ => by simp [turnK]
  | k + 1, i, hi => by
    have hl := turn_len ls k
    rw [turnK]
    unfold at3
    by_cases h : i = k
    · subst h
      rw [List.getElem?_set_self (by omega), if_pos (by omega)]
      rfl
    · rw [List.getElem?_set_ne (by omega)]
      have := turn_at ls k i hi
      unfold at3 at this
      rw [this]
      by_cases j : i < k
      · rw [if_pos j, if_pos (by omega)]
      · rw [if_neg j, if_neg (by omega)]

theorem tail_turn (ls : List Lk) (i : Nat) (hi : i < ls.length) : tailOf (turnK ls ls.length) (2 * i) = tailOf ls (2 * i + 1) ∧ tailOf (turnK ls ls.length) (2 * i + 1) = tailOf ls (2 * i) := by
  rw [tail_even, tail_odd, tail_even, tail_odd, turn_at ls _ i hi, if_pos hi]
  exact ⟨rfl, rfl⟩

theorem head_turn (ls : List Lk) (i : Nat) (hi : i < ls.length) : headOf (turnK ls ls.length) (2 * i) = headOf ls (2 * i + 1) ∧ headOf (turnK ls ls.length) (2 * i + 1) = headOf ls (2 * i) := by
  rw [head_even, head_odd, head_even, head_odd, turn_at ls _ i hi, if_pos hi]
  exact ⟨rfl, rfl⟩

theorem row_turn (ls : List Lk) (v : Int) : ∀ k, k ≤ ls.length → (rowA (turnK ls ls.length) v (2 * k)).length = (rowA ls v (2 * k)).length
  | 0, _ => rfl
  | k + 1, h => by
    obtain ⟨h1, h2⟩ := tail_turn ls k (by omega)
    rw [show 2 * (k + 1) = 2 * k + 1 + 1 by omega, arc_len, arc_len, arc_len, arc_len, row_turn ls v k (by omega), h1, h2]
    omega

theorem ord_turn (ls : List Lk) : ∀ v, (ordA (turnK ls ls.length) ls.length v).length = (ordA ls ls.length v).length
  | 0 => rfl
  | v + 1 => by
    rw [ordA, ordA, List.length_append, List.length_append, ord_turn ls v, row_turn ls _ _ (Nat.le_refl _)]

theorem starts_turn (ls : List Lk) : ∀ v, startsA (turnK ls ls.length) ls.length v = startsA ls ls.length v
  | 0 => rfl
  | v + 1 => by rw [startsA, startsA, starts_turn ls v, ord_turn]

theorem joins_symm (V f t : Int) : joinsB V f t = joinsB V t f := by
  unfold joinsB
  have : (f == t) = (t == f) := Bool.eq_iff_iff.2 (by simp only [beq_iff_eq]; exact eq_comm)
  rw [this, Bool.and_comm (isV V f)]

def turnL (l : Lk) : Lk := (l.2.1, l.1, l.2.2)

theorem caps_turn (V : Int) : ∀ (ls : List Lk) (acc : Int), capsFrom V acc (ls.map turnL) = capsFrom V acc ls
  | [], _ => rfl
  | l :: r, acc => by
    rw [List.map_cons, capsFrom, capsFrom]
    have e : linkOk V acc (turnL l) = linkOk V acc l := by
      unfold linkOk turnL
      rw [joins_symm]
    rw [e]
    by_cases h : linkOk V acc l = true
    · rw [if_pos h, if_pos h]; exact caps_turn V r _
    · rw [if_neg h, if_neg h]

theorem turn_map (ls : List Lk) : turnK ls ls.length = ls.map turnL := by
  refine List.ext_getElem? fun i => ?_
  by_cases hi : i < ls.length
  · have h1 := turn_at ls ls.length i hi
    rw [if_pos hi] at h1
    have hl := turn_len ls ls.length
    unfold at3 at h1
    rw [List.getElem?_eq_getElem (by omega)] at h1 ⊢
    rw [List.getElem?_map, List.getElem?_eq_getElem hi]
    rw [List.getElem?_eq_getElem hi] at h1
    simp only [Option.getD_some] at h1
    rw [h1]
    rfl
  · rw [List.getElem?_eq_none (by rw [turn_len]; omega), List.getElem?_eq_none (by simp; omega)]

theorem may_turn {V : Int} {ls : List Lk} (h : mayG V ls = true) : mayG V (turnK ls ls.length) = true := by
  rw [turn_map]
  unfold mayG totalOf at h ⊢
  rw [List.length_map, caps_turn]
  exact h

theorem turn_ok {ls : List Lk} (P : Int → Prop) (h : ∀ i : Nat, P (at3 ls i).1 ∧ P (at3 ls i).2.1 ∧ P (at3 ls i).2.2) (k : Nat) : ∀ i : Nat, P (at3 (turnK ls k) i).1 ∧ P (at3 (turnK ls k) i).2.1 ∧ P (at3 (turnK ls k) i).2.2 := by
  intro i
  by_cases hi : i < ls.length
  · rw [turn_at ls k i hi]
    obtain ⟨a, b, c⟩ := h i
    by_cases j : i < k
    · rw [if_pos j]; exact ⟨b, a, c⟩
    · rw [if_neg j]; exact ⟨a, b, c⟩
  · have h0 := h i
    have e : at3 ls i = (0, 0, 0) := by unfold at3; rw [List.getElem?_eq_none (by omega)]; rfl
    have e' : at3 (turnK ls k) i = (0, 0, 0) := by unfold at3; rw [List.getElem?_eq_none (by rw [turn_len]; omega)]; rfl
    rw [e'] 
    rw [e] at h0
    exact h0

end Go.Proofs.Ytmamnjnmcipjbaa
