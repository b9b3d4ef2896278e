/-
  Arcs, as numbers: of link i arc 2i from its beginning, arc 2i + 1 back. No program here.
-/
import Derived.Test.YtppcncblmakekaaMathGraph
set_option maxRecDepth 20000
namespace Go.Proofs.Ytppcncblmakekaa

def tailOf (ls : List Lk) (a : Nat) : Int := if a % 2 = 0 then (at3 ls (a / 2)).1 else (at3 ls (a / 2)).2.1
def headOf (ls : List Lk) (a : Nat) : Int := if a % 2 = 0 then (at3 ls (a / 2)).2.1 else (at3 ls (a / 2)).1

theorem tail_even (ls : List Lk) (k : Nat) : tailOf ls (2 * k) = (at3 ls k).1 := by
  unfold tailOf
  rw [if_pos (by omega), show 2 * k / 2 = k by omega]

theorem tail_odd (ls : List Lk) (k : Nat) : tailOf ls (2 * k + 1) = (at3 ls k).2.1 := by
  unfold tailOf
  rw [if_neg (by omega), show (2 * k + 1) / 2 = k by omega]

theorem head_even (ls : List Lk) (k : Nat) : headOf ls (2 * k) = (at3 ls k).2.1 := by
  unfold headOf
  rw [if_pos (by omega), show 2 * k / 2 = k by omega]

theorem head_odd (ls : List Lk) (k : Nat) : headOf ls (2 * k + 1) = (at3 ls k).1 := by
  unfold headOf
  rw [if_neg (by omega), show (2 * k + 1) / 2 = k by omega]

def arcIf (ls : List Lk) (v : Int) (m : Nat) : List Int := if tailOf ls m = v then [(m : Int)] else []
/-- The arcs that begin at v, of the first m. -/
def rowA (ls : List Lk) (v : Int) : Nat → List Int
  | 0 => []
  | m + 1 => rowA ls v m ++ arcIf ls v m
def headsA (ls : List Lk) : Nat → List Int
  | 0 => []
  | m + 1 => headsA ls m ++ [headOf ls m]
def ordA (ls : List Lk) (n : Nat) : Nat → List Int
  | 0 => []
  | v + 1 => ordA ls n v ++ rowA ls (v : Int) (2 * n)
def startsA (ls : List Lk) (n : Nat) : Nat → List Int
  | 0 => []
  | v + 1 => startsA ls n v ++ [((ordA ls n v).length : Int)]

theorem row_yes {ls : List Lk} {v : Int} {m : Nat} (h : tailOf ls m = v) : rowA ls v (m + 1) = rowA ls v m ++ [(m : Int)] := by
  rw [rowA, arcIf, if_pos h]

theorem row_no {ls : List Lk} {v : Int} {m : Nat} (h : ¬ tailOf ls m = v) : rowA ls v (m + 1) = rowA ls v m := by
  rw [rowA, arcIf, if_neg h, List.append_nil]

theorem row_pair (ls : List Lk) (v : Int) (k : Nat) : rowA ls v (2 * (k + 1)) = (rowA ls v (2 * k) ++ (if (at3 ls k).1 = v then [(2 * (k : Int))] else [])) ++ (if (at3 ls k).2.1 = v then [(2 * (k : Int) + 1)] else []) := by
  rw [show 2 * (k + 1) = 2 * k + 1 + 1 by omega, rowA, rowA, arcIf, arcIf, tail_even, tail_odd]
  congr 1

theorem heads_pair (ls : List Lk) (k : Nat) : headsA ls (2 * (k + 1)) = headsA ls (2 * k) ++ [(at3 ls k).2.1, (at3 ls k).1] := by
  rw [show 2 * (k + 1) = 2 * k + 1 + 1 by omega, headsA, headsA, head_even, head_odd, List.append_assoc]
  rfl

theorem row_len (ls : List Lk) (v : Int) : ∀ m, (rowA ls v m).length ≤ m
  | 0 => by simp [rowA]
  | m + 1 => by
    have := row_len ls v m
    rw [rowA, List.length_append, arcIf]
    by_cases h : tailOf ls m = v
    · rw [if_pos h]; simp; omega
    · rw [if_neg h]; simp; omega

theorem heads_len (ls : List Lk) : ∀ m, (headsA ls m).length = m
  | 0 => rfl
  | m + 1 => by rw [headsA, List.length_append, heads_len ls m]; rfl

theorem ord_len (ls : List Lk) (n : Nat) : ∀ v, (ordA ls n v).length ≤ 2 * n * v
  | 0 => by simp [ordA]
  | v + 1 => by
    have h1 := ord_len ls n v
    have h2 := row_len ls (v : Int) (2 * n)
    rw [ordA, List.length_append, Nat.mul_succ]
    omega

theorem starts_len (ls : List Lk) (n : Nat) : ∀ v, (startsA ls n v).length = v
  | 0 => rfl
  | v + 1 => by rw [startsA, List.length_append, starts_len ls n v]; rfl

theorem row_mem (ls : List Lk) (v : Int) : ∀ m, ∀ x ∈ rowA ls v m, 0 ≤ x ∧ x < m
  | 0 => by simp [rowA]
  | m + 1 => by
    intro x hx
    rw [rowA, List.mem_append] at hx
    rcases hx with hx | hx
    · have := row_mem ls v m x hx; omega
    · unfold arcIf at hx
      by_cases h : tailOf ls m = v
      · rw [if_pos h] at hx; simp at hx; omega
      · rw [if_neg h] at hx; simp at hx

theorem ord_mem (ls : List Lk) (n : Nat) : ∀ v, ∀ x ∈ ordA ls n v, 0 ≤ x ∧ x < 2 * n
  | 0 => by simp [ordA]
  | v + 1 => by
    intro x hx
    rw [ordA, List.mem_append] at hx
    rcases hx with hx | hx
    · exact ord_mem ls n v x hx
    · have := row_mem ls (v : Int) (2 * n) x hx; omega

theorem starts_mem (ls : List Lk) (n : Nat) : ∀ v, ∀ x ∈ startsA ls n v, 0 ≤ x ∧ x ≤ 2 * n * v
  | 0 => by simp [startsA]
  | v + 1 => by
    intro x hx
    rw [startsA, List.mem_append] at hx
    have e : (2 * (n : Int) * ((v + 1 : Nat) : Int)) = 2 * (n : Int) * (v : Int) + 2 * (n : Int) := by rw [Int.natCast_add, Int.mul_add]; simp
    rw [e]
    rcases hx with hx | hx
    · have := starts_mem ls n v x hx; omega
    · have h := ord_len ls n v
      simp only [List.mem_singleton] at hx
      have h2 : (((ordA ls n v).length : Nat) : Int) ≤ ((2 * n * v : Nat) : Int) := Int.ofNat_le.2 h
      rw [Int.natCast_mul, Int.natCast_mul] at h2
      simp at h2
      omega

theorem heads_at (ls : List Lk) : ∀ m i, i < m → (headsA ls m)[i]?.getD 0 = headOf ls i
  | 0, _, h => by omega
  | m + 1, i, h => by
    have hl := heads_len ls m
    rw [headsA]
    rcases Nat.lt_or_ge i m with k | k
    · rw [List.getElem?_append_left (by omega)]
      exact heads_at ls m i k
    · obtain rfl : i = m := by omega
      rw [List.getElem?_append_right (by omega), hl]
      simp

theorem starts_at (ls : List Lk) (n : Nat) : ∀ v i, i < v → (startsA ls n v)[i]?.getD 0 = ((ordA ls n i).length : Int)
  | 0, _, h => by omega
  | v + 1, i, h => by
    have hl := starts_len ls n v
    rw [startsA]
    rcases Nat.lt_or_ge i v with k | k
    · rw [List.getElem?_append_left (by omega)]
      exact starts_at ls n v i k
    · obtain rfl : i = v := by omega
      rw [List.getElem?_append_right (by omega), hl]
      simp

def rowOf (V : Int) (ls : List Lk) (v : Int) : List Int := if goodB V ls v then rowA ls v (2 * ls.length) else []
def rowE (V : Int) (ls : List Lk) (v : Int) : Int := if goodB V ls v then 0 else 500
def arcS (V : Int) (ls : List Lk) : List Int := if mayG V ls then startsA ls ls.length (V.toNat + 1) else []
def arcO (V : Int) (ls : List Lk) : List Int := if mayG V ls then ordA ls ls.length V.toNat else []
def arcH (V : Int) (ls : List Lk) : List Int := if mayG V ls then headsA ls (2 * ls.length) else []
def arcE (V : Int) (ls : List Lk) : Int := if mayG V ls then 0 else 500

theorem rowOf_no {V : Int} {ls : List Lk} {v : Int} (h : goodB V ls v = false) : rowOf V ls v = [] ∧ rowE V ls v = 500 := by simp [rowOf, rowE, h]
theorem rowOf_yes {V : Int} {ls : List Lk} {v : Int} (h : goodB V ls v = true) : rowOf V ls v = rowA ls v (2 * ls.length) ∧ rowE V ls v = 0 := by simp [rowOf, rowE, h]
theorem arc_no {V : Int} {ls : List Lk} (h : mayG V ls = false) : arcS V ls = [] ∧ arcO V ls = [] ∧ arcH V ls = [] ∧ arcE V ls = 500 := by simp [arcS, arcO, arcH, arcE, h]
theorem arc_yes {V : Int} {ls : List Lk} (h : mayG V ls = true) : arcS V ls = startsA ls ls.length (V.toNat + 1) ∧ arcO V ls = ordA ls ls.length V.toNat ∧ arcH V ls = headsA ls (2 * ls.length) ∧ arcE V ls = 0 := by simp [arcS, arcO, arcH, arcE, h]

theorem get_ok {xs : List Int} (h : ∀ x ∈ xs, -9223372036854775808 ≤ x ∧ x ≤ 9223372036854775807) (i : Nat) : -9223372036854775808 ≤ xs[i]?.getD 0 ∧ xs[i]?.getD 0 ≤ 9223372036854775807 := by
  by_cases hi : i < xs.length
  · rw [List.getElem?_eq_getElem hi]
    exact h _ (List.getElem_mem hi)
  · rw [List.getElem?_eq_none (by omega)]
    simp

theorem row_ok (ls : List Lk) (v : Int) {m : Nat} (h : m ≤ 1000) : ∀ i : Nat, -9223372036854775808 ≤ (rowA ls v m)[i]?.getD 0 ∧ (rowA ls v m)[i]?.getD 0 ≤ 9223372036854775807 :=
  get_ok fun x hx => by have := row_mem ls v m x hx; omega

theorem may_good {V : Int} {ls : List Lk} {v : Int} (h : goodB V ls v = true) : mayG V ls = true := by
  simp only [goodB, Bool.and_eq_true] at h
  exact h.1

theorem rowOf_ok (V : Int) (ls : List Lk) (v : Int) : ∀ i : Nat, -9223372036854775808 ≤ (rowOf V ls v)[i]?.getD 0 ∧ (rowOf V ls v)[i]?.getD 0 ≤ 9223372036854775807 := by
  cases h : goodB V ls v
  · rw [(rowOf_no h).1]; simp
  · rw [(rowOf_yes h).1]
    have := may_small (may_good h)
    exact row_ok ls v (by omega)

theorem arcS_ok (V : Int) (ls : List Lk) : ∀ i : Nat, -9223372036854775808 ≤ (arcS V ls)[i]?.getD 0 ∧ (arcS V ls)[i]?.getD 0 ≤ 9223372036854775807 := by
  cases h : mayG V ls
  · rw [(arc_no h).1]; simp
  · rw [(arc_yes h).1]
    have := may_small h
    refine get_ok fun x hx => ?_
    have h1 := starts_mem ls ls.length (V.toNat + 1) x hx
    have h2 : 2 * ls.length * (V.toNat + 1) ≤ 2 * 16 * 9 := Nat.mul_le_mul (by omega) (by omega)
    have h3 : ((2 * ls.length * (V.toNat + 1) : Nat) : Int) ≤ 288 := by omega
    rw [Int.natCast_mul, Int.natCast_mul] at h3
    simp at h1 h3
    omega

theorem arcO_ok (V : Int) (ls : List Lk) : ∀ i : Nat, -9223372036854775808 ≤ (arcO V ls)[i]?.getD 0 ∧ (arcO V ls)[i]?.getD 0 ≤ 9223372036854775807 := by
  cases h : mayG V ls
  · rw [(arc_no h).2.1]; simp
  · rw [(arc_yes h).2.1]
    have := may_small h
    refine get_ok fun x hx => ?_
    have h1 := ord_mem ls ls.length V.toNat x hx
    omega

theorem caps_joins {V : Int} : ∀ (ls : List Lk) (acc : Int), (capsFrom V acc ls).isSome = true → ∀ l ∈ ls, joinsB V l.1 l.2.1 = true
  | [], _, _ => by simp
  | l :: r, acc, h => by
    intro x hx
    rw [capsFrom] at h
    by_cases k : linkOk V acc l = true
    · rw [if_pos k] at h
      rcases List.mem_cons.1 hx with rfl | hx
      · simp only [linkOk, Bool.and_eq_true] at k
        exact k.1
      · exact caps_joins r _ h x hx
    · rw [if_neg k] at h
      cases h

theorem may_joins {V : Int} {ls : List Lk} (h : mayG V ls = true) {i : Nat} (hi : i < ls.length) : 0 ≤ (at3 ls i).1 ∧ (at3 ls i).1 < V ∧ 0 ≤ (at3 ls i).2.1 ∧ (at3 ls i).2.1 < V ∧ (at3 ls i).1 ≠ (at3 ls i).2.1 := by
  unfold mayG totalOf at h
  by_cases k : formOk V ls.length = true
  · rw [if_pos k] at h
    have := caps_joins ls 0 h (at3 ls i) (by unfold at3; rw [List.getElem?_eq_getElem hi]; exact List.getElem_mem hi)
    simp only [joinsB, isV, Bool.and_eq_true, decide_eq_true_eq, Bool.not_eq_true', beq_eq_false_iff_ne] at this
    obtain ⟨⟨⟨a, b⟩, c, d⟩, e⟩ := this
    exact ⟨a, b, c, d, e⟩
  · rw [if_neg k] at h
    cases h

theorem head_bd {V : Int} {ls : List Lk} (h : mayG V ls = true) {a : Nat} (ha : a < 2 * ls.length) : 0 ≤ headOf ls a ∧ headOf ls a < V := by
  have := may_joins h (i := a / 2) (by omega)
  unfold headOf
  by_cases k : a % 2 = 0
  · rw [if_pos k]; omega
  · rw [if_neg k]; omega

theorem tail_bd {V : Int} {ls : List Lk} (h : mayG V ls = true) {a : Nat} (ha : a < 2 * ls.length) : 0 ≤ tailOf ls a ∧ tailOf ls a < V := by
  have := may_joins h (i := a / 2) (by omega)
  unfold tailOf
  by_cases k : a % 2 = 0
  · rw [if_pos k]; omega
  · rw [if_neg k]; omega

theorem heads_mem (ls : List Lk) : ∀ m, ∀ x ∈ headsA ls m, ∃ a, a < m ∧ x = headOf ls a
  | 0 => by simp [headsA]
  | m + 1 => by
    intro x hx
    rw [headsA, List.mem_append] at hx
    rcases hx with hx | hx
    · obtain ⟨a, h1, h2⟩ := heads_mem ls m x hx
      exact ⟨a, by omega, h2⟩
    · simp only [List.mem_singleton] at hx
      exact ⟨m, by omega, hx⟩

theorem arcH_ok (V : Int) (ls : List Lk) : ∀ i : Nat, -9223372036854775808 ≤ (arcH V ls)[i]?.getD 0 ∧ (arcH V ls)[i]?.getD 0 ≤ 9223372036854775807 := by
  cases h : mayG V ls
  · rw [(arc_no h).2.2.1]; simp
  · rw [(arc_yes h).2.2.1]
    have := may_small h
    refine get_ok fun x hx => ?_
    obtain ⟨a, h1, rfl⟩ := heads_mem ls _ x hx
    have := head_bd h h1
    omega

end Go.Proofs.Ytppcncblmakekaa
