import Derived.Test.YtgfehlmiejnonaaMathSort
set_option maxRecDepth 20000
namespace Go.Proofs.Ytgfehlmiejnonaa

def inside (a b : Int) (ps : List Int) : List Int := ps.filter fun p => decide (a < p) && decide (p < b)

def pts (a b : Int) (ps : List Int) : List Int := Lib.compact (sortI (inside a b ps))

theorem pts_lt (a b : Int) (ps : List Int) : (pts a b ps).Pairwise (· < ·) := (compact_sorted _ (sortI_le _)).1

theorem pts_mem (a b : Int) (ps : List Int) (x : Int) : x ∈ pts a b ps ↔ x ∈ ps ∧ a < x ∧ x < b := by
  rw [pts, (compact_sorted _ (sortI_le _)).2, sortI_mem, inside, List.mem_filter]
  simp

/-- The ends of the parts. -/
def ends (a b : Int) (ps : List Int) : List Int := pts a b ps ++ [b]

def cutsOf (a b : Int) (ps : List Int) : List (Int × Int) := List.zip (a :: ends a b ps) (ends a b ps)

def fromAt (a b : Int) (ps : List Int) (j : Nat) : Int := (a :: ends a b ps)[j]?.getD 0
def toAt (a b : Int) (ps : List Int) (j : Nat) : Int := (ends a b ps)[j]?.getD 0

theorem fromAt_succ (a b : Int) (ps : List Int) (j : Nat) : fromAt a b ps (j + 1) = toAt a b ps j := rfl

theorem cuts_len (a b : Int) (ps : List Int) : (cutsOf a b ps).length = (ends a b ps).length := by simp [cutsOf]

theorem ends_len (a b : Int) (ps : List Int) : (ends a b ps).length = (pts a b ps).length + 1 := by simp [ends]

theorem cuts_step (a b : Int) (ps : List Int) (j : Nat) (h : j < (ends a b ps).length) : (cutsOf a b ps).take (j + 1) = (cutsOf a b ps).take j ++ [(fromAt a b ps j, toAt a b ps j)] := by
  have hl := cuts_len a b ps
  rw [List.take_add_one, List.getElem?_eq_getElem (by omega)]
  congr 1
  simp only [cutsOf, List.getElem_zip, fromAt, toAt, List.getElem?_eq_getElem h, List.getElem?_eq_getElem (show j < (a :: ends a b ps).length by simp; omega), Option.getD_some, Option.toList_some]

theorem toAt_pts (a b : Int) (ps : List Int) (j : Nat) (h : j < (pts a b ps).length) : toAt a b ps j = (pts a b ps)[j]?.getD 0 := by
  rw [toAt, ends, List.getElem?_append_left h]

theorem toAt_last (a b : Int) (ps : List Int) : toAt a b ps (pts a b ps).length = b := by
  rw [toAt, ends, List.getElem?_append_right (Nat.le_refl _)]
  simp

theorem all_lt (a b : Int) (ps : List Int) (hab : a < b) : (a :: ends a b ps).Pairwise (· < ·) := by
  refine List.pairwise_cons.2 ⟨fun x hx => ?_, List.pairwise_append.2 ⟨pts_lt a b ps, by simp, fun x hx y hy => ?_⟩⟩
  · rcases List.mem_append.1 hx with hx | hx
    · exact ((pts_mem a b ps x).1 hx).2.1
    · rw [List.mem_singleton.1 hx]; exact hab
  · rw [List.mem_singleton.1 hy]
    exact ((pts_mem a b ps x).1 hx).2.2

theorem from_lt (a b : Int) (ps : List Int) (hab : a < b) (i j : Nat) (hij : i < j) (hj : j < (ends a b ps).length + 1) : fromAt a b ps i < fromAt a b ps j := by
  have hl : (a :: ends a b ps).length = (ends a b ps).length + 1 := rfl
  have := List.pairwise_iff_getElem.1 (all_lt a b ps hab) i j (by omega) (by omega) hij
  simp only [fromAt, List.getElem?_eq_getElem (show i < (a :: ends a b ps).length by omega), List.getElem?_eq_getElem (show j < (a :: ends a b ps).length by omega), Option.getD_some]
  exact this

theorem fromAt_end (a b : Int) (ps : List Int) : fromAt a b ps (ends a b ps).length = b := by
  rw [ends_len, fromAt_succ, toAt_last]

theorem from_not_end (a b : Int) (ps : List Int) (hab : a < b) (j : Nat) (h : j < (ends a b ps).length) : fromAt a b ps j < b := by
  have := from_lt a b ps hab j (ends a b ps).length h (by omega)
  rwa [fromAt_end] at this

def nxt (f : Int) : List Int → Int → Int
  | [], t => t
  | p :: r, t => nxt f r (if f < p ∧ p < t then p else t)

theorem nxt_spec (f : Int) : ∀ (ps : List Int) (t : Int), nxt f ps t ≤ t ∧ (nxt f ps t = t ∨ (nxt f ps t ∈ ps ∧ f < nxt f ps t)) ∧ ∀ p ∈ ps, f < p → nxt f ps t ≤ p
  | [], t => ⟨Int.le_refl _, .inl rfl, by simp⟩
  | p :: r, t => by
    obtain ⟨h1, h2, h3⟩ := nxt_spec f r (if f < p ∧ p < t then p else t)
    simp only [nxt]
    by_cases c : f < p ∧ p < t
    · rw [if_pos c] at *
      refine ⟨by omega, .inr ?_, fun q hq hf => ?_⟩
      · rcases h2 with h2 | h2
        · rw [h2]; exact ⟨by simp, c.1⟩
        · exact ⟨by simp [h2.1], h2.2⟩
      · rcases List.mem_cons.1 hq with rfl | hq
        · exact h1
        · exact h3 q hq hf
    · rw [if_neg c] at *
      refine ⟨h1, ?_, fun q hq hf => ?_⟩
      · rcases h2 with h2 | h2
        · exact .inl h2
        · exact .inr ⟨by simp [h2.1], h2.2⟩
      · rcases List.mem_cons.1 hq with rfl | hq
        · have : ¬ q < t := fun k => c ⟨hf, k⟩
          omega
        · exact h3 q hq hf

theorem nxt_at (a b : Int) (ps : List Int) (hab : a < b) (j : Nat) (h : j < (ends a b ps).length) : nxt (fromAt a b ps j) ps b = fromAt a b ps (j + 1) := by
  obtain ⟨h1, h2, h3⟩ := nxt_spec (fromAt a b ps j) ps b
  have hel := ends_len a b ps
  have hf := from_lt a b ps hab j (j + 1) (by omega) (by omega)
  have ha : a ≤ fromAt a b ps j := by
    rcases Nat.eq_zero_or_pos j with e | e
    · subst e; exact Int.le_refl _
    · have := from_lt a b ps hab 0 j e (by omega)
      have e0 : fromAt a b ps 0 = a := rfl
      omega
  refine Int.le_antisymm ?_ ?_
  · by_cases hj : j < (pts a b ps).length
    · have e : fromAt a b ps (j + 1) = (pts a b ps)[j] := by rw [fromAt_succ, toAt_pts a b ps j hj, List.getElem?_eq_getElem hj]; rfl
      have hm := (pts_mem a b ps _).1 (List.getElem_mem hj)
      rw [← e] at hm
      exact h3 _ hm.1 hf
    · have e : j = (pts a b ps).length := by omega
      rw [fromAt_succ, e, toAt_last, ← e]
      exact h1
  · have hle : fromAt a b ps (j + 1) ≤ b := by
      rcases Nat.lt_or_ge (j + 1) (ends a b ps).length with k | k
      · exact Int.le_of_lt (from_not_end a b ps hab _ k)
      · have e : j + 1 = (ends a b ps).length := by omega
        rw [e, fromAt_end]
        exact Int.le_refl _
    rcases h2 with h2 | ⟨h2, h4⟩
    · rw [h2]; exact hle
    · by_cases e : nxt (fromAt a b ps j) ps b = b
      · rw [e]; exact hle
      · have hm : nxt (fromAt a b ps j) ps b ∈ pts a b ps := (pts_mem a b ps _).2 ⟨h2, by omega, by omega⟩
        obtain ⟨i, hi, hx⟩ := List.mem_iff_getElem.1 hm
        have ex : fromAt a b ps (i + 1) = nxt (fromAt a b ps j) ps b := by rw [fromAt_succ, toAt_pts a b ps i hi, List.getElem?_eq_getElem hi, ← hx]; rfl
        rcases Nat.lt_or_ge i j with k | k
        · exfalso
          rcases Nat.lt_or_ge (i + 1) j with k2 | k2
          · have := from_lt a b ps hab (i + 1) j k2 (by omega)
            omega
          · have e2 : i + 1 = j := by omega
            rw [e2] at ex
            omega
        · rcases Nat.lt_or_ge j i with k2 | k2
          · have := from_lt a b ps hab (j + 1) (i + 1) (by omega) (by omega)
            omega
          · have e2 : i = j := by omega
            subst e2
            omega

theorem from_ge (a b : Int) (ps : List Int) (hab : a < b) : ∀ j, j ≤ (ends a b ps).length → a + j ≤ fromAt a b ps j
  | 0, _ => by have : fromAt a b ps 0 = a := rfl; omega
  | j + 1, h => by
    have h1 := from_ge a b ps hab j (by omega)
    have h2 := from_lt a b ps hab j (j + 1) (by omega) (by omega)
    omega

theorem ends_few (a b : Int) (ps : List Int) (hab : a < b) : ((ends a b ps).length : Int) ≤ b - a := by
  have := from_ge a b ps hab _ (Nat.le_refl _)
  rw [fromAt_end] at this
  omega

theorem cuts_all (a b : Int) (ps : List Int) : (cutsOf a b ps).take (ends a b ps).length = cutsOf a b ps := List.take_of_length_le (by rw [cuts_len]; exact Nat.le_refl _)

theorem nxt_step (f : Int) (ps : List Int) (k : Nat) (h : k < ps.length) (t : Int) : nxt f (ps.drop k) t = nxt f (ps.drop (k + 1)) (if f < ps[k]?.getD 0 ∧ ps[k]?.getD 0 < t then ps[k]?.getD 0 else t) := by
  rw [List.drop_eq_getElem_cons h, List.getElem?_eq_getElem h]
  rfl

end Go.Proofs.Ytgfehlmiejnonaa
