/-
  Sorted rows of numbers, and what Compact leaves of them.
-/
import Derived.Lib.SlicesCompact
set_option maxRecDepth 20000
namespace Go.Proofs.Ytgfehlmiejnonaa

def sortI (xs : List Int) : List Int := xs.mergeSort fun x y => decide (x ≤ y)

theorem sortI_le (xs : List Int) : (sortI xs).Pairwise (· ≤ ·) := by
  have h := List.pairwise_mergeSort (le := fun x y : Int => decide (x ≤ y)) (by intro a b c; simp; omega) (by intro a b; simp; omega) xs
  exact h.imp (by simp)

theorem sortI_mem (xs : List Int) (x : Int) : x ∈ sortI xs ↔ x ∈ xs := List.mem_mergeSort

theorem compactUpTo_sorted (d : Array Int) (h : ∀ i j, i < j → j < d.size → d[i]! ≤ d[j]!) :
    ∀ m, m ≤ d.size → (Lib.compactUpTo d m).Pairwise (· < ·) ∧ (∀ x, x ∈ Lib.compactUpTo d m ↔ ∃ i, i < m ∧ d[i]! = x) := by
  intro m
  induction m with
  | zero => intro _; simp [Lib.compactUpTo]
  | succ m ih =>
    intro hm
    obtain ⟨h1, h2⟩ := ih (by omega)
    rw [Lib.compactUpTo_succ]
    by_cases hk : Lib.keeps d m = true
    · rw [if_pos hk]
      refine ⟨List.pairwise_append.2 ⟨h1, by simp, fun x hx y hy => ?_⟩, fun x => ?_⟩
      · obtain rfl : y = d[m]! := by simpa using hy
        obtain ⟨i, hi, rfl⟩ := (h2 x).1 hx
        have hle := h i m hi (by omega)
        by_cases e : i = m - 1
        · subst e
          have : d[m]! ≠ d[m - 1]! := by
            simp only [Lib.keeps, decide_eq_true_eq] at hk
            rcases hk with hk | hk
            · omega
            · exact hk
          omega
        · have h3 := h i (m - 1) (by omega) (by omega)
          have h4 := h (m - 1) m (by omega) (by omega)
          have : d[m]! ≠ d[m - 1]! := by
            simp only [Lib.keeps, decide_eq_true_eq] at hk
            rcases hk with hk | hk
            · omega
            · exact hk
          omega
      · constructor
        · intro hx
          rcases List.mem_append.1 hx with hx | hx
          · obtain ⟨i, hi, e⟩ := (h2 x).1 hx
            exact ⟨i, by omega, e⟩
          · exact ⟨m, by omega, by simpa using (List.mem_singleton.1 hx).symm⟩
        · rintro ⟨i, hi, rfl⟩
          by_cases e : i = m
          · subst e; simp
          · exact List.mem_append_left _ ((h2 _).2 ⟨i, by omega, rfl⟩)
    · rw [if_neg hk, List.append_nil]
      refine ⟨h1, fun x => ?_⟩
      have hk0 : Lib.keeps d m = false := by simpa using hk
      simp only [Lib.keeps, decide_eq_false_iff_not, not_or, Decidable.not_not] at hk0
      rw [h2]
      constructor
      · rintro ⟨i, hi, e⟩
        exact ⟨i, by omega, e⟩
      · rintro ⟨i, hi, e⟩
        by_cases e2 : i = m
        · subst e2
          exact ⟨i - 1, by omega, by rw [← hk0.2]; exact e⟩
        · exact ⟨i, by omega, e⟩

theorem compact_sorted (xs : List Int) (h : xs.Pairwise (· ≤ ·)) : (Lib.compact xs).Pairwise (· < ·) ∧ ∀ x, x ∈ Lib.compact xs ↔ x ∈ xs := by
  have hg : ∀ i, i < xs.length → xs.toArray[i]! = xs[i]?.getD 0 := by
    intro i hi
    simp [hi]
  obtain ⟨h1, h2⟩ := compactUpTo_sorted xs.toArray (by
    intro i j hij hj
    have hj' : j < xs.length := by simpa using hj
    rw [hg i (by omega), hg j hj']
    have := List.pairwise_iff_getElem.1 h i j (by omega) hj' hij
    simpa [hj', show i < xs.length by omega] using this) xs.length (by simp)
  refine ⟨h1, fun x => ?_⟩
  refine (h2 x).trans ?_
  constructor
  · rintro ⟨i, hi, rfl⟩
    rw [hg i hi, List.getElem?_eq_getElem hi]
    exact List.getElem_mem hi
  · intro hx
    obtain ⟨i, hi, rfl⟩ := List.mem_iff_getElem.1 hx
    exact ⟨i, hi, by rw [hg i hi, List.getElem?_eq_getElem hi]; rfl⟩

end Go.Proofs.Ytgfehlmiejnonaa
