/-
  Plain mathematics of checked sums and least numbers: what Sum and Least of package rate compute, as functions on lists of whole numbers. No condition.
-/
namespace Go.Proofs.Ytppcncblmakekaa

/-- The sum so far and the numbers that are left: the sum, or none if a number is below 0 or the sum would pass 2^62. -/
def sumFrom (s : Int) : List Int → Option Int
  | [] => some s
  | x :: r => if x < 0 ∨ 4611686018427387904 - s < x then none else sumFrom (s + x) r
def sumV (xs : List Int) : Int := (sumFrom 0 xs).getD 0
def sumB (xs : List Int) : Bool := (sumFrom 0 xs).isSome
def leastFrom (s : Int) : List Int → Int
  | [] => s
  | x :: r => leastFrom (if x < s then x else s) r

theorem drop_get (xs : List Int) (k : Nat) (h : k < xs.length) : xs.drop k = xs[k]?.getD 0 :: xs.drop (k + 1) := by
  rw [List.drop_eq_getElem_cons h]
  simp [h]
theorem sum_step (s : Int) (xs : List Int) (k : Nat) (h : k < xs.length) (h0 : 0 ≤ xs[k]?.getD 0) (h1 : xs[k]?.getD 0 ≤ 4611686018427387904 - s) :
    sumFrom s (xs.drop k) = sumFrom (s + xs[k]?.getD 0) (xs.drop (k + 1)) := by
  rw [drop_get xs k h, sumFrom, if_neg (by omega)]
theorem sum_stop (s : Int) (xs : List Int) (k : Nat) (h : k < xs.length) (h0 : xs[k]?.getD 0 < 0 ∨ 4611686018427387904 - s < xs[k]?.getD 0) :
    sumFrom s (xs.drop k) = none := by
  rw [drop_get xs k h, sumFrom, if_pos h0]
theorem least_step (s : Int) (xs : List Int) (k : Nat) (h : k < xs.length) :
    leastFrom s (xs.drop k) = leastFrom (if xs[k]?.getD 0 < s then xs[k]?.getD 0 else s) (xs.drop (k + 1)) := by
  rw [drop_get xs k h, leastFrom]
theorem sum_ge (xs : List Int) (s t : Int) (h : sumFrom s xs = some t) (hs : s ≤ 4611686018427387904) : s ≤ t ∧ t ≤ 4611686018427387904 := by
  induction xs generalizing s with
  | nil => simp [sumFrom] at h; omega
  | cons x r ih =>
    rw [sumFrom] at h
    split at h
    · simp at h
    · have := ih (s + x) h (by omega)
      omega
theorem sumV_bd (xs : List Int) : 0 ≤ sumV xs ∧ sumV xs ≤ 4611686018427387904 := by
  unfold sumV
  cases h : sumFrom 0 xs with
  | none => simp
  | some t => have := sum_ge xs 0 t h (by omega); simp; omega

/-- What a meter at t comes to behind Add(xs ..), and whether it takes them. -/
def addV (t : Int) (xs : List Int) : Int := (sumFrom t xs).getD t
def addB (t : Int) (xs : List Int) : Bool := (sumFrom t xs).isSome
theorem sum_shift (xs : List Int) (s r : Int) (hs : 0 ≤ s) (hr : s + r ≤ 4611686018427387904) :
    sumFrom (s + r) xs = (sumFrom r xs).bind fun m => if s + m ≤ 4611686018427387904 then some (s + m) else none := by
  induction xs generalizing r with
  | nil => simp [sumFrom, hr]
  | cons x q ih =>
    rw [sumFrom, sumFrom]
    by_cases h : x < 0 ∨ 4611686018427387904 - r < x
    · rw [if_pos h, if_pos (by omega)]; rfl
    · rw [if_neg h]
      by_cases h2 : 4611686018427387904 - (s + r) < x
      · rw [if_pos (by omega)]
        cases e : sumFrom (r + x) q with
        | none => rfl
        | some m => have := sum_ge q (r + x) m e (by omega); simp; omega
      · rw [if_neg (by omega), ← ih (r + x) (by omega), Int.add_assoc]
theorem add_none (t : Int) (xs : List Int) (h0 : 0 ≤ t) (h1 : t ≤ 4611686018427387904) (h : sumB xs = false) : addV t xs = t ∧ addB t xs = false := by
  have e : sumFrom 0 xs = none := by simpa [sumB] using h
  have := sum_shift xs t 0 h0 (by omega)
  rw [e] at this
  simp only [Int.add_zero] at this
  simp [addV, addB, this]
theorem add_some (t : Int) (xs : List Int) (h0 : 0 ≤ t) (h1 : t ≤ 4611686018427387904) (h : sumB xs = true) :
    (sumB [t, sumV xs] = true → addV t xs = sumV [t, sumV xs] ∧ addB t xs = true) ∧ (sumB [t, sumV xs] = false → addV t xs = t ∧ addB t xs = false) := by
  cases e : sumFrom 0 xs with
  | none => simp [sumB, e] at h
  | some m =>
    have hm : sumV xs = m := by simp [sumV, e]
    have hb := sumV_bd xs
    rw [hm] at hb ⊢
    have := sum_shift xs t 0 h0 (by omega)
    rw [e] at this
    simp only [Int.add_zero, Option.bind_some] at this
    simp only [addV, addB, this, sumB, sumV, sumFrom]
    rw [if_neg (by omega)]
    by_cases k : t + m ≤ 4611686018427387904
    · rw [if_pos k, if_neg (by omega)]; simp
    · rw [if_neg k, if_pos (by omega)]; simp
theorem addV_bd (t : Int) (xs : List Int) (h0 : 0 ≤ t) (h1 : t ≤ 4611686018427387904) : 0 ≤ addV t xs ∧ addV t xs ≤ 4611686018427387904 := by
  unfold addV
  cases h : sumFrom t xs with
  | none => simp; omega
  | some u => have := sum_ge xs t u h h1; simp; omega

/-- A gauge's most: below 0 it counts as 0, above 2^62 as 2^62. -/
def topOf (m : Int) : Int := if m < 0 then 0 else if 4611686018427387904 < m then 4611686018427387904 else m
theorem topOf_bd (m : Int) : 0 ≤ topOf m ∧ topOf m ≤ 4611686018427387904 := by
  unfold topOf; split
  · omega
  · split <;> omega
/-- What a gauge at t with that top comes to behind its own Add(xs ..). -/
def ownB (top t : Int) (xs : List Int) : Bool := addB t xs && decide (addV t xs ≤ top)
def ownV (top t : Int) (xs : List Int) : Int := if ownB top t xs then addV t xs else t
def roomOf (top t : Int) : Int := if top < t then 0 else top - t
theorem pair_sum (t m : Int) (h0 : 0 ≤ t) (h1 : t ≤ 4611686018427387904) (h2 : 0 ≤ m) : sumFrom 0 [t, m] = if t + m ≤ 4611686018427387904 then some (t + m) else none := by
  simp only [sumFrom]
  rw [if_neg (by omega)]
  by_cases h : t + m ≤ 4611686018427387904
  · rw [if_pos h, if_neg (by omega)]; simp
  · rw [if_neg h, if_pos (by omega)]
theorem own_no (top t : Int) (xs : List Int) (h0 : 0 ≤ t) (h1 : t ≤ 4611686018427387904) (h : sumB xs = false ∨ top - t < sumV xs) : ownB top t xs = false ∧ ownV top t xs = t := by
  have : ownB top t xs = false := by
    rcases h with h | h
    · simp [ownB, (add_none t xs h0 h1 h).2]
    · cases hs : sumB xs with
      | false => simp [ownB, (add_none t xs h0 h1 hs).2]
      | true =>
        have k := add_some t xs h0 h1 hs
        have hb := sumV_bd xs
        have hp := pair_sum t (sumV xs) h0 h1 hb.1
        generalize sumV xs = m at *
        by_cases hm : t + m ≤ 4611686018427387904
        · rw [if_pos hm] at hp
          have k1 := k.1 (by rw [sumB, hp]; rfl)
          have e : sumV [t, m] = t + m := by rw [sumV, hp]; rfl
          rw [ownB, k1.1, e]
          simp; intro _; omega
        · rw [if_neg hm] at hp
          have k1 := k.2 (by rw [sumB, hp]; rfl)
          simp [ownB, k1.2]
  exact ⟨this, by simp [ownV, this]⟩
theorem own_yes (top t : Int) (xs : List Int) (h0 : 0 ≤ t) (h1 : t ≤ 4611686018427387904) (ht : top ≤ 4611686018427387904) (hs : sumB xs = true) (h : sumV xs ≤ top - t) :
    ownB top t xs = true ∧ ownV top t xs = addV t [sumV xs] ∧ addB t [sumV xs] = true := by
  have hb := sumV_bd xs
  have k := add_some t xs h0 h1 hs
  have hp := pair_sum t (sumV xs) h0 h1 hb.1
  generalize sumV xs = m at *
  have a1 : sumFrom t [m] = some (t + m) := by simp only [sumFrom]; rw [if_neg (by omega)]
  rw [if_pos (by omega)] at hp
  have k1 := k.1 (by rw [sumB, hp]; rfl)
  have e : sumV [t, m] = t + m := by rw [sumV, hp]; rfl
  have eo : ownB top t xs = true := by rw [ownB, k1.2, k1.1, e]; simp; omega
  refine ⟨eo, ?_, by rw [addB, a1]; rfl⟩
  rw [ownV, if_pos eo, k1.1, e, addV, a1]; rfl

theorem least_le (xs : List Int) (s : Int) : leastFrom s xs ≤ s ∧ ∀ x ∈ xs, leastFrom s xs ≤ x := by
  induction xs generalizing s with
  | nil => simp [leastFrom]
  | cons x r ih =>
    rw [leastFrom]
    by_cases k : x < s
    · rw [if_pos k]
      have h := ih x
      refine ⟨by omega, fun y hy => ?_⟩
      rcases List.mem_cons.1 hy with rfl | hy
      · exact h.1
      · exact h.2 y hy
    · rw [if_neg k]
      have h := ih s
      refine ⟨by omega, fun y hy => ?_⟩
      rcases List.mem_cons.1 hy with rfl | hy
      · omega
      · exact h.2 y hy
theorem least_in (xs : List Int) (s : Int) : leastFrom s xs = s ∨ leastFrom s xs ∈ xs := by
  induction xs generalizing s with
  | nil => simp [leastFrom]
  | cons x r ih =>
    rw [leastFrom]
    rcases ih (if x < s then x else s) with h | h
    · by_cases k : x < s
      · rw [if_pos k] at h ⊢; rw [h]; simp
      · rw [if_neg k] at h ⊢; rw [h]; simp
    · exact .inr (List.mem_cons_of_mem _ h)
theorem get_mem (xs : List Int) (k : Nat) (h : k < xs.length) : xs[k]?.getD 0 ∈ xs := by
  rw [List.getElem?_eq_getElem h]; exact List.getElem_mem h
/-- Has one of the first k been met? -/
def seenB (low x0 : Int) (xs : List Int) (k : Nat) : Bool := (low == x0) || (xs.take k).any (· == low)
theorem seen_step (low x0 : Int) (xs : List Int) (k : Nat) (h : k < xs.length) : seenB low x0 xs (k + 1) = (seenB low x0 xs k || (xs[k]?.getD 0 == low)) := by
  unfold seenB
  rw [List.take_succ_eq_append_getElem h, List.any_append, List.getElem?_eq_getElem h]
  simp [Bool.or_assoc]
theorem seen_all (x0 : Int) (xs : List Int) (k : Nat) (h : xs.length ≤ k) : seenB (leastFrom x0 xs) x0 xs k = true := by
  unfold seenB
  rw [List.take_of_length_le h]
  rcases least_in xs x0 with e | e
  · simp [e]
  · simp only [Bool.or_eq_true, List.any_eq_true]
    exact .inr ⟨_, e, by simp⟩
theorem least_bd (xs : List Int) (s : Int) (hs : -9223372036854775808 ≤ s ∧ s ≤ 9223372036854775807) (h : ∀ i : Nat, -9223372036854775808 ≤ xs[i]?.getD 0 ∧ xs[i]?.getD 0 ≤ 9223372036854775807) :
    -9223372036854775808 ≤ leastFrom s xs ∧ leastFrom s xs ≤ 9223372036854775807 := by
  rcases least_in xs s with e | e
  · rw [e]; exact hs
  · obtain ⟨i, hi, e⟩ := List.getElem_of_mem e
    have := h i
    rw [List.getElem?_eq_getElem hi, e] at this
    exact this

theorem sum_app (a b : List Int) (s : Int) : sumFrom s (a ++ b) = (sumFrom s a).bind fun t => sumFrom t b := by
  induction a generalizing s with
  | nil => rfl
  | cons x r ih =>
    rw [List.cons_append, sumFrom, sumFrom]
    split
    · rfl
    · exact ih _
theorem sum_two (a b : List Int) : sumFrom 0 (a ++ b) = if sumB a && sumB b then sumFrom 0 [sumV a, sumV b] else none := by
  rw [sum_app]
  cases ha : sumFrom 0 a with
  | none => simp [sumB, ha]
  | some s =>
    have hs := sum_ge a 0 s ha (by omega)
    have hsh := sum_shift b s 0 hs.1 (by omega)
    simp only [Int.add_zero] at hsh
    rw [Option.bind_some, hsh]
    cases hb : sumFrom 0 b with
    | none => simp [sumB, hb]
    | some t =>
      have ht := sum_ge b 0 t hb (by omega)
      have hp := pair_sum s t hs.1 hs.2 ht.1
      have ea : sumV a = s := by rw [sumV, ha]; rfl
      have eb : sumV b = t := by rw [sumV, hb]; rfl
      have fa : sumB a = true := by rw [sumB, ha]; rfl
      have fb : sumB b = true := by rw [sumB, hb]; rfl
      rw [ea, eb, hp, fa, fb]
      rfl
theorem split_b (xs : List Int) (k : Nat) : sumB xs = (sumB (xs.take k) && sumB (xs.drop k) && sumB [sumV (xs.take k), sumV (xs.drop k)]) := by
  have h := sum_two (xs.take k) (xs.drop k)
  rw [List.take_append_drop] at h
  rw [sumB, h]
  cases e : (sumB (xs.take k) && sumB (xs.drop k)) with
  | true => rfl
  | false => rfl
theorem split_v (xs : List Int) (k : Nat) (hx : sumB xs = true) : sumV xs = sumV [sumV (xs.take k), sumV (xs.drop k)] := by
  have h := sum_two (xs.take k) (xs.drop k)
  rw [List.take_append_drop] at h
  have hb := split_b xs k
  rw [hx] at hb
  cases e : (sumB (xs.take k) && sumB (xs.drop k)) with
  | true => rw [e, if_pos rfl] at h; rw [sumV, h]; rfl
  | false => rw [e] at hb; simp at hb

theorem sum_swap (a b : List Int) : sumFrom 0 (a ++ b) = sumFrom 0 (b ++ a) := by
  rw [sum_two, sum_two]
  have ha := sumV_bd a
  have hb := sumV_bd b
  rw [pair_sum _ _ ha.1 ha.2 hb.1, pair_sum _ _ hb.1 hb.2 ha.1, Bool.and_comm, Int.add_comm]
theorem sum_turn (xs : List Int) (k : Nat) : sumV (xs.drop k ++ xs.take k) = sumV xs ∧ sumB (xs.drop k ++ xs.take k) = sumB xs := by
  have h := sum_swap (xs.drop k) (xs.take k)
  rw [List.take_append_drop] at h
  exact ⟨by rw [sumV, h]; rfl, by rw [sumB, h]; rfl⟩
theorem least_same (x y : Int) (r q : List Int) (h : ∀ z, z ∈ x :: r ↔ z ∈ y :: q) : leastFrom x r = leastFrom y q := by
  have a := least_le r x
  have b := least_le q y
  have a1 : leastFrom x r ∈ x :: r := by
    rcases least_in r x with e | e
    · rw [e]; simp
    · exact List.mem_cons_of_mem _ e
  have b1 : leastFrom y q ∈ y :: q := by
    rcases least_in q y with e | e
    · rw [e]; simp
    · exact List.mem_cons_of_mem _ e
  have a2 := (h _).1 a1
  have b2 := (h _).2 b1
  have u : leastFrom y q ≤ leastFrom x r := by
    rcases List.mem_cons.1 a2 with e | e
    · rw [e]; exact b.1
    · exact b.2 _ e
  have v : leastFrom x r ≤ leastFrom y q := by
    rcases List.mem_cons.1 b2 with e | e
    · rw [e]; exact a.1
    · exact a.2 _ e
  omega
theorem head_drop (xs : List Int) (h : 0 < xs.length) : xs[0]?.getD 0 :: xs.drop 1 = xs := by
  have := drop_get xs 0 h
  simpa using this.symm
theorem least_turn (xs : List Int) (k : Nat) (h : 0 < xs.length) :
    leastFrom (xs[0]?.getD 0) (xs.drop 1) = leastFrom ((xs.drop k ++ xs.take k)[0]?.getD 0) ((xs.drop k ++ xs.take k).drop 1) := by
  refine least_same _ _ _ _ fun z => ?_
  rw [head_drop xs h, head_drop _ (by simp; omega)]
  have : z ∈ xs ↔ z ∈ xs.take k ++ xs.drop k := by rw [List.take_append_drop]
  rw [this, List.mem_append, List.mem_append]
  exact Or.comm
end Go.Proofs.Ytppcncblmakekaa
