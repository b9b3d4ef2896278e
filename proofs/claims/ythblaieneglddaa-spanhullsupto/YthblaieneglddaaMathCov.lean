import Derived.Test.YthblaieneglddaaLawA
namespace Go.Proofs.Ythblaieneglddaa

theorem cov_spec : ∀ (xs : List (Int × Int)) (a b u v : Int), cov xs a b = some (u, v) →
    u ≤ a ∧ b ≤ v ∧ (∀ p ∈ xs, spanMay p.1 p.2 = true ∧ u ≤ p.1 ∧ p.2 ≤ v) ∧ (u = a ∨ ∃ p ∈ xs, u = p.1) ∧ (v = b ∨ ∃ p ∈ xs, v = p.2)
  | [], a, b, u, v, h => by
    simp only [cov, Option.some.injEq, Prod.mk.injEq] at h
    obtain ⟨rfl, rfl⟩ := h
    exact ⟨Int.le_refl _, Int.le_refl _, by simp, .inl rfl, .inl rfl⟩
  | p :: r, a, b, u, v, h => by
    simp only [cov] at h
    by_cases hm : spanMay p.1 p.2 = true
    · rw [if_pos hm] at h
      obtain ⟨h1, h2, h3, h4, h5⟩ := cov_spec r _ _ u v h
      have e1 : u ≤ a ∧ u ≤ p.1 := by by_cases c : p.1 < a <;> simp only [c, if_true, if_false] at h1 <;> omega
      have e2 : b ≤ v ∧ p.2 ≤ v := by by_cases c : b < p.2 <;> simp only [c, if_true, if_false] at h2 <;> omega
      refine ⟨e1.1, e2.1, fun q hq => ?_, ?_, ?_⟩
      · rcases List.mem_cons.1 hq with rfl | hq
        · exact ⟨hm, e1.2, e2.2⟩
        · exact h3 q hq
      · rcases h4 with h4 | ⟨q, hq, h4⟩
        · by_cases c : p.1 < a
          · rw [if_pos c] at h4; exact .inr ⟨p, by simp, h4⟩
          · rw [if_neg c] at h4; exact .inl h4
        · exact .inr ⟨q, by simp [hq], h4⟩
      · rcases h5 with h5 | ⟨q, hq, h5⟩
        · by_cases c : b < p.2
          · rw [if_pos c] at h5; exact .inr ⟨p, by simp, h5⟩
          · rw [if_neg c] at h5; exact .inl h5
        · exact .inr ⟨q, by simp [hq], h5⟩
    · rw [if_neg hm] at h
      cases h

theorem cov_some : ∀ (xs : List (Int × Int)) (a b : Int), (∀ p ∈ xs, spanMay p.1 p.2 = true) → ∃ u v, cov xs a b = some (u, v)
  | [], a, b, _ => ⟨a, b, rfl⟩
  | p :: r, a, b, h => by
    simp only [cov]
    rw [if_pos (h p (by simp))]
    exact cov_some r _ _ fun q hq => h q (by simp [hq])

theorem coverOf_spec (xs : List (Int × Int)) (u v : Int) (h : coverOf xs = some (u, v)) :
    (∀ p ∈ xs, spanMay p.1 p.2 = true ∧ u ≤ p.1 ∧ p.2 ≤ v) ∧ (∃ p ∈ xs, u = p.1) ∧ (∃ p ∈ xs, v = p.2) := by
  cases xs with
  | nil => cases h
  | cons p r =>
    obtain ⟨_, _, h3, h4, h5⟩ := cov_spec (p :: r) _ _ u v h
    exact ⟨h3, h4.elim (fun e => ⟨p, by simp, e⟩) id, h5.elim (fun e => ⟨p, by simp, e⟩) id⟩

theorem coverOf_may (xs : List (Int × Int)) (u v : Int) (h : coverOf xs = some (u, v)) : spanMay u v = true := by
  obtain ⟨h1, ⟨p, hp, rfl⟩, ⟨q, hq, rfl⟩⟩ := coverOf_spec xs u v h
  obtain ⟨m1, _, l1⟩ := h1 p hp
  obtain ⟨m2, _, _⟩ := h1 q hq
  have := spanMay_bd m1
  have := spanMay_bd m2
  simp [spanMay]
  omega

theorem coverOf_some (xs : List (Int × Int)) (h : ∀ p ∈ xs, spanMay p.1 p.2 = true) (hn : xs ≠ []) : ∃ u v, coverOf xs = some (u, v) := by
  cases xs with
  | nil => exact absurd rfl hn
  | cons p r => exact cov_some _ _ _ h

theorem hull (xs ys : List (Int × Int)) (x1 x2 y1 y2 : Int) (hx : coverOf xs = some (x1, x2)) (hy : coverOf ys = some (y1, y2)) :
    ∃ u v, coverOf (xs ++ ys) = some (u, v) ∧ coverOf [(x1, x2), (y1, y2)] = some (u, v) := by
  have sx := coverOf_spec xs x1 x2 hx
  have sy := coverOf_spec ys y1 y2 hy
  have mx := coverOf_may xs x1 x2 hx
  have my := coverOf_may ys y1 y2 hy
  obtain ⟨u, v, hz⟩ := coverOf_some (xs ++ ys) (fun p hp => (List.mem_append.1 hp).elim (fun h => (sx.1 p h).1) (fun h => (sy.1 p h).1)) (by
    obtain ⟨p, hp, _⟩ := sx.2.1
    intro e
    rw [List.append_eq_nil_iff] at e
    rw [e.1] at hp
    cases hp)
  obtain ⟨s, t, hb⟩ := coverOf_some [(x1, x2), (y1, y2)] (by simp [mx, my]) (by simp)
  have sz := coverOf_spec _ u v hz
  have sb := coverOf_spec _ s t hb
  have b1 := (sb.1 (x1, x2) (by simp)).2
  have b2 := (sb.1 (y1, y2) (by simp)).2
  refine ⟨u, v, hz, ?_⟩
  rw [hb]
  have e1 : s = u := by
    obtain ⟨p, hp, e⟩ := sz.2.1
    obtain ⟨q, hq, e'⟩ := sx.2.1
    obtain ⟨r, hr, e''⟩ := sy.2.1
    have z1 := (sz.1 q (List.mem_append_left _ hq)).2.1
    have z2 := (sz.1 r (List.mem_append_right _ hr)).2.1
    have z3 : x1 ≤ u ∨ y1 ≤ u := by
      rcases List.mem_append.1 hp with h | h
      · have := (sx.1 p h).2.1; omega
      · have := (sy.1 p h).2.1; omega
    obtain ⟨k, hk, e3⟩ := sb.2.1
    simp only [List.mem_cons, List.not_mem_nil, or_false] at hk
    rcases hk with rfl | rfl <;> simp only at e3 b1 b2 <;> omega
  have e2 : t = v := by
    obtain ⟨p, hp, e⟩ := sz.2.2
    obtain ⟨q, hq, e'⟩ := sx.2.2
    obtain ⟨r, hr, e''⟩ := sy.2.2
    have z1 := (sz.1 q (List.mem_append_left _ hq)).2.2
    have z2 := (sz.1 r (List.mem_append_right _ hr)).2.2
    have z3 : v ≤ x2 ∨ v ≤ y2 := by
      rcases List.mem_append.1 hp with h | h
      · have := (sx.1 p h).2.2; omega
      · have := (sy.1 p h).2.2; omega
    obtain ⟨k, hk, e3⟩ := sb.2.2
    simp only [List.mem_cons, List.not_mem_nil, or_false] at hk
    rcases hk with rfl | rfl <;> simp only at e3 b1 b2 <;> omega
  rw [e1, e2]

theorem hull_both (zs : List (Int × Int)) (u v : Int) (h : coverOf zs = some (u, v)) (p : Int × Int) (hp : p ∈ zs) :
    meets p.1 p.2 u v = true ∧ bothFrom p.1 p.2 u v = p.1 ∧ bothTo p.1 p.2 u v = p.2 := by
  obtain ⟨m, l1, l2⟩ := (coverOf_spec zs u v h).1 p hp
  have m2 := coverOf_may zs u v h
  have := spanMay_bd m
  have hm : meets p.1 p.2 u v = true := by simp [meets, m, m2]; omega
  refine ⟨hm, ?_, ?_⟩
  · simp only [bothFrom, hm, if_true]; rw [if_neg (by omega)]
  · simp only [bothTo, hm, if_true]; rw [if_neg (by omega)]

end Go.Proofs.Ythblaieneglddaa
