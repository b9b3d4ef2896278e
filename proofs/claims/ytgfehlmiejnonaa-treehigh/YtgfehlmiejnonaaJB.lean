/-
  Plain mathematics of checked sums and least numbers: what Sum and Least of package rate compute, as functions on lists of whole numbers. No condition. Graphs, as numbers: V vertices, links (from, to, cap). No program here. Arcs, as numbers: of link i arc 2i from its beginning, arc 2i + 1 back. No program here. Each arc stands once in Order; links turned. No program here.
-/

namespace Go.Proofs.Ytgfehlmiejnonaa

/-- The sum so far and the numbers that are left: the sum, or none if a number is below 0 or the sum would pass 2^62. -/
def sumFrom (s : Int) : List Int → Option Int
  | [] => some s
  | x :: r => if x < 0 ∨ 4611686018427387904 - s < x then none else sumFrom (s + x) r
def sumV (xs : List Int) : Int := (sumFrom 0 xs).getD 0
def sumB (xs : List Int) : Bool := (sumFrom 0 xs).isSome
def leastFrom (s : Int) : List Int → Int
  | [] => s
  | x :: r => leastFrom (if x < s then x else s) r

theorem drop_get (xs : List Int) (k : Nat) (h : k < xs.length) : xs.drop k = xs[k]?.getD 0 :: xs.drop (k + 1) := by
  rw [List.drop_eq_getElem_cons h]
  simp [h]
theorem sum_step (s : Int) (xs : List Int) (k : Nat) (h : k < xs.length) (h0 : 0 ≤ xs[k]?.getD 0) (h1 : xs[k]?.getD 0 ≤ 4611686018427387904 - s) :
    sumFrom s (xs.drop k) = sumFrom (s + xs[k]?.getD 0) (xs.drop (k + 1)) := by
  rw [drop_get xs k h, sumFrom, if_neg (by omega)]
theorem sum_stop (s : Int) (xs : List Int) (k : Nat) (h : k < xs.length) (h0 : xs[k]?.getD 0 < 0 ∨ 4611686018427387904 - s < xs[k]?.getD 0) :
    sumFrom s (xs.drop k) = none := by
  rw [drop_get xs k h, sumFrom, if_pos h0]
theorem least_step (s : Int) (xs : List Int) (k : Nat) (h : k < xs.length) :
    leastFrom s (xs.drop k) = leastFrom (if xs[k]?.getD 0 < s then xs[k]?.getD 0 else s) (xs.drop (k + 1)) := by
  rw [drop_get xs k h, leastFrom]
theorem sum_ge (xs : List Int) (s t : Int) (h : sumFrom s xs = some t) (hs : s ≤ 4611686018427387904) : s ≤ t ∧ t ≤ 4611686018427387904 := by
  induction xs generalizing s with
  | nil => simp [sumFrom] at h; omega
  | cons x r ih =>
    rw [sumFrom] at h
    split at h
    · simp at h
    · have := ih (s + x) h (by omega)
      omega
theorem sumV_bd (xs : List Int) : 0 ≤ sumV xs ∧ sumV xs ≤ 4611686018427387904 := by
  unfold sumV
  cases h : sumFrom 0 xs with
  | none => simp
  | some t => have := sum_ge xs 0 t h (by omega); simp; omega

/-- What a meter at t comes to behind Add(xs ..), and whether it takes them. -/
def addV (t : Int) (xs : List Int) : Int := (sumFrom t xs).getD t
def addB (t : Int) (xs : List Int) : Bool := (sumFrom t xs).isSome
theorem sum_shift (xs : List Int) (s r : Int) (hs : 0 ≤ s) (hr : s + r ≤ 4611686018427387904) :
    sumFrom (s + r) xs = (sumFrom r xs).bind fun m => if s + m ≤ 4611686018427387904 then some (s + m) else none := by
  induction xs generalizing r with
  | nil => simp [sumFrom, hr]
  | cons x q ih =>
    rw [sumFrom, sumFrom]
    by_cases h : x < 0 ∨ 4611686018427387904 - r < x
    · rw [if_pos h, if_pos (by omega)]; rfl
    · rw [if_neg h]
      by_cases h2 : 4611686018427387904 - (s + r) < x
      · rw [if_pos (by omega)]
        cases e : sumFrom (r + x) q with
        | none => rfl
        | some m => have := sum_ge q (r + x) m e (by omega); simp; omega
      · rw [if_neg (by omega), ← ih (r + x) (by omega), Int.add_assoc]
theorem add_none (t : Int) (xs : List Int) (h0 : 0 ≤ t) (h1 : t ≤ 4611686018427387904) (h : sumB xs = false) : addV t xs = t ∧ addB t xs = false := by
  have e : sumFrom 0 xs = none := by simpa [sumB] using h
  have := sum_shift xs t 0 h0 (by omega)
  rw [e] at this
  simp only [Int.add_zero] at this
  simp [addV, addB, this]
theorem add_some (t : Int) (xs : List Int) (h0 : 0 ≤ t) (h1 : t ≤ 4611686018427387904) (h : sumB xs = true) :
    (sumB [t, sumV xs] = true → addV t xs = sumV [t, sumV xs] ∧ addB t xs = true) ∧ (sumB [t, sumV xs] = false → addV t xs = t ∧ addB t xs = false) := by
  cases e : sumFrom 0 xs with
  | none => simp [sumB, e] at h
  | some m =>
    have hm : sumV xs = m := by simp [sumV, e]
    have hb := sumV_bd xs
    rw [hm] at hb ⊢
    have := sum_shift xs t 0 h0 (by omega)
    rw [e] at this
    simp only [Int.add_zero, Option.bind_some] at this
    simp only [addV, addB, this, sumB, sumV, sumFrom]
    rw [if_neg (by omega)]
    by_cases k : t + m ≤ 4611686018427387904
    · rw [if_pos k, if_neg (by omega)]; simp
    · rw [if_neg k, if_pos (by omega)]; simp
theorem addV_bd (t : Int) (xs : List Int) (h0 : 0 ≤ t) (h1 : t ≤ 4611686018427387904) : 0 ≤ addV t xs ∧ addV t xs ≤ 4611686018427387904 := by
  unfold addV
  cases h : sumFrom t xs with
  | none => simp; omega
  | some u => have := sum_ge xs t u h h1; simp; omega

/-- A gauge's most: below 0 it counts as 0, above 2^62 as 2^62. -/
def topOf (m : Int) : Int := if m < 0 then 0 else if 4611686018427387904 < m then 4611686018427387904 else m
theorem topOf_bd (m : Int) : 0 ≤ topOf m ∧ topOf m ≤ 4611686018427387904 := by
  unfold topOf; split
  · omega
  · split <;> omega
/-- What a gauge at t with that top comes to behind its own Add(xs ..). -/
def ownB (top t : Int) (xs : List Int) : Bool := addB t xs && decide (addV t xs ≤ top)
def ownV (top t : Int) (xs : List Int) : Int := if ownB top t xs then addV t xs else t
def roomOf (top t : Int) : Int := if top < t then 0 else top - t
theorem pair_sum (t m : Int) (h0 : 0 ≤ t) (h1 : t ≤ 4611686018427387904) (h2 : 0 ≤ m) : sumFrom 0 [t, m] = if t + m ≤ 4611686018427387904 then some (t + m) else none := by
  simp only [sumFrom]
  rw [if_neg (by omega)]
  by_cases h : t + m ≤ 4611686018427387904
  · rw [if_pos h, if_neg (by omega)]; simp
  · rw [if_neg h, if_pos (by omega)]
theorem own_no (top t : Int) (xs : List Int) (h0 : 0 ≤ t) (h1 : t ≤ 4611686018427387904) (h : sumB xs = false ∨ top - t < sumV xs) : ownB top t xs = false ∧ ownV top t xs = t := by
  have : ownB top t xs = false := by
    rcases h with h | h
    · simp [ownB, (add_none t xs h0 h1 h).2]
    · cases hs : sumB xs with
      | false => simp [ownB, (add_none t xs h0 h1 hs).2]
      | true =>
        have k := add_some t xs h0 h1 hs
        have hb := sumV_bd xs
        have hp := pair_sum t (sumV xs) h0 h1 hb.1
        generalize sumV xs = m at *
        by_cases hm : t + m ≤ 4611686018427387904
        · rw [if_pos hm] at hp
          have k1 := k.1 (by rw [sumB, hp]; rfl)
          have e : sumV [t, m] = t + m := by rw [sumV, hp]; rfl
          rw [ownB, k1.1, e]
          simp; intro _; omega
        · rw [if_neg hm] at hp
          have k1 := k.2 (by rw [sumB, hp]; rfl)
          simp [ownB, k1.2]
  exact ⟨this, by simp [ownV, this]⟩
theorem own_yes (top t : Int) (xs : List Int) (h0 : 0 ≤ t) (h1 : t ≤ 4611686018427387904) (ht : top ≤ 4611686018427387904) (hs : sumB xs = true) (h : sumV xs ≤ top - t) :
    ownB top t xs = true ∧ ownV top t xs = addV t [sumV xs] ∧ addB t [sumV xs] = true := by
  have hb := sumV_bd xs
  have k := add_some t xs h0 h1 hs
  have hp := pair_sum t (sumV xs) h0 h1 hb.1
  generalize sumV xs = m at *
  have a1 : sumFrom t [m] = some (t + m) := by simp only [sumFrom]; rw [if_neg (by omega)]
  rw [if_pos (by omega)] at hp
  have k1 := k.1 (by rw [sumB, hp]; rfl)
  have e : sumV [t, m] = t + m := by rw [sumV, hp]; rfl
  have eo : ownB top t xs = true := by rw [ownB, k1.2, k1.1, e]; simp; omega
  refine ⟨eo, ?_, by rw [addB, a1]; rfl⟩
  rw [ownV, if_pos eo, k1.1, e, addV, a1]; rfl

theorem least_le (xs : List Int) (s : Int) : leastFrom s xs ≤ s ∧ ∀ x ∈ xs, leastFrom s xs ≤ x := by
  induction xs generalizing s with
  | nil => simp [leastFrom]
  | cons x r ih =>
    rw [leastFrom]
    by_cases k : x < s
    · rw [if_pos k]
      have h := ih x
      refine ⟨by omega, fun y hy => ?_⟩
      rcases List.mem_cons.1 hy with rfl | hy
      · exact h.1
      · exact h.2 y hy
    · rw [if_neg k]
      have h := ih s
      refine ⟨by omega, fun y hy => ?_⟩
      rcases List.mem_cons.1 hy with rfl | hy
      · omega
      · exact h.2 y hy
theorem least_in (xs : List Int) (s : Int) : leastFrom s xs = s ∨ leastFrom s xs ∈ xs := by
  induction xs generalizing s with
  | nil => simp [leastFrom]
  | cons x r ih =>
    rw [leastFrom]
    rcases ih (if x < s then x else s) with h | h
    · by_cases k : x < s
      · rw [if_pos k] at h ⊢; rw [h]; simp
      · rw [if_neg k] at h ⊢; rw [h]; simp
    · exact .inr (List.mem_cons_of_mem _ h)
theorem get_mem (xs : List Int) (k : Nat) (h : k < xs.length) : xs[k]?.getD 0 ∈ xs := by
  rw [List.getElem?_eq_getElem h]; exact List.getElem_mem h
/-- Has one of the first k been met? -/
def seenB (low x0 : Int) (xs : List Int) (k : Nat) : Bool := (low == x0) || (xs.take k).any (· == low)
theorem seen_step (low x0 : Int) (xs : List Int) (k : Nat) (h : k < xs.length) : seenB low x0 xs (k + 1) = (seenB low x0 xs k || (xs[k]?.getD 0 == low)) := by
  unfold seenB
  rw [List.take_succ_eq_append_getElem h, List.any_append, List.getElem?_eq_getElem h]
  simp [Bool.or_assoc]
theorem seen_all (x0 : Int) (xs : List Int) (k : Nat) (h : xs.length ≤ k) : seenB (leastFrom x0 xs) x0 xs k = true := by
  unfold seenB
  rw [List.take_of_length_le h]
  rcases least_in xs x0 with e | e
  · simp [e]
  · simp only [Bool.or_eq_true, List.any_eq_true]
    exact .inr ⟨_, e, by simp⟩
theorem least_bd (xs : List Int) (s : Int) (hs : -9223372036854775808 ≤ s ∧ s ≤ 9223372036854775807) (h : ∀ i : Nat, -9223372036854775808 ≤ xs[i]?.getD 0 ∧ xs[i]?.getD 0 ≤ 9223372036854775807) :
    -9223372036854775808 ≤ leastFrom s xs ∧ leastFrom s xs ≤ 9223372036854775807 := by
  rcases least_in xs s with e | e
  · rw [e]; exact hs
  · obtain ⟨i, hi, e⟩ := List.getElem_of_mem e
    have := h i
    rw [List.getElem?_eq_getElem hi, e] at this
    exact this

theorem sum_app (a b : List Int) (s : Int) : sumFrom s (a ++ b) = (sumFrom s a).bind fun t => sumFrom t b := by
  induction a generalizing s with
  | nil => rfl
  | cons x r ih =>
    rw [List.cons_append, sumFrom, sumFrom]
    split
    · rfl
    · exact ih _
theorem sum_two (a b : List Int) : sumFrom 0 (a ++ b) = if sumB a && sumB b then sumFrom 0 [sumV a, sumV b] else none := by
  rw [sum_app]
  cases ha : sumFrom 0 a with
  | none => simp [sumB, ha]
  | some s =>
    have hs := sum_ge a 0 s ha (by omega)
    have hsh := sum_shift b s 0 hs.1 (by omega)
    simp only [Int.add_zero] at hsh
    rw [Option.bind_some, hsh]
    cases hb : sumFrom 0 b with
    | none => simp [sumB, hb]
    | some t =>
      have ht := sum_ge b 0 t hb (by omega)
      have hp := pair_sum s t hs.1 hs.2 ht.1
      have ea : sumV a = s := by rw [sumV, ha]; rfl
      have eb : sumV b = t := by rw [sumV, hb]; rfl
      have fa : sumB a = true := by rw [sumB, ha]; rfl
      have fb : sumB b = true := by rw [sumB, hb]; rfl
      rw [ea, eb, hp, fa, fb]
      rfl
theorem split_b (xs : List Int) (k : Nat) : sumB xs = (sumB (xs.take k) && sumB (xs.drop k) && sumB [sumV (xs.take k), sumV (xs.drop k)]) := by
  have h := sum_two (xs.take k) (xs.drop k)
  rw [List.take_append_drop] at h
  rw [sumB, h]
  cases e : (sumB (xs.take k) && sumB (xs.drop k)) with
  | true => rfl
  | false => rfl
theorem split_v (xs : List Int) (k : Nat) (hx : sumB xs = true) : sumV xs = sumV [sumV (xs.take k), sumV (xs.drop k)] := by
  have h := sum_two (xs.take k) (xs.drop k)
  rw [List.take_append_drop] at h
  have hb := split_b xs k
  rw [hx] at hb
  cases e : (sumB (xs.take k) && sumB (xs.drop k)) with
  | true => rw [e, if_pos rfl] at h; rw [sumV, h]; rfl
  | false => rw [e] at hb; simp at hb

theorem sum_swap (a b : List Int) : sumFrom 0 (a ++ b) = sumFrom 0 (b ++ a) := by
  rw [sum_two, sum_two]
  have ha := sumV_bd a
  have hb := sumV_bd b
  rw [pair_sum _ _ ha.1 ha.2 hb.1, pair_sum _ _ hb.1 hb.2 ha.1, Bool.and_comm, Int.add_comm]
theorem sum_turn (xs : List Int) (k : Nat) : sumV (xs.drop k ++ xs.take k) = sumV xs ∧ sumB (xs.drop k ++ xs.take k) = sumB xs := by
  have h := sum_swap (xs.drop k) (xs.take k)
  rw [List.take_append_drop] at h
  exact ⟨by rw [sumV, h]; rfl, by rw [sumB, h]; rfl⟩
theorem least_same (x y : Int) (r q : List Int) (h : ∀ z, z ∈ x :: r ↔ z ∈ y :: q) : leastFrom x r = leastFrom y q := by
  have a := least_le r x
  have b := least_le q y
  have a1 : leastFrom x r ∈ x :: r := by
    rcases least_in r x with e | e
    · rw [e]; simp
    · exact List.mem_cons_of_mem _ e
  have b1 : leastFrom y q ∈ y :: q := by
    rcases least_in q y with e | e
    · rw [e]; simp
    · exact List.mem_cons_of_mem _ e
  have a2 := (h _).1 a1
  have b2 := (h _).2 b1
  have u : leastFrom y q ≤ leastFrom x r := by
    rcases List.mem_cons.1 a2 with e | e
    · rw [e]; exact b.1
    · exact b.2 _ e
  have v : leastFrom x r ≤ leastFrom y q := by
    rcases List.mem_cons.1 b2 with e | e
    · rw [e]; exact a.1
    · exact a.2 _ e
  omega
theorem head_drop (xs : List Int) (h : 0 < xs.length) : xs[0]?.getD 0 :: xs.drop 1 = xs := by
  have := drop_get xs 0 h
  simpa using this.symm
theorem least_turn (xs : List Int) (k : Nat) (h : 0 < xs.length) :
    leastFrom (xs[0]?.getD 0) (xs.drop 1) = leastFrom ((xs.drop k ++ xs.take k)[0]?.getD 0) ((xs.drop k ++ xs.take k).drop 1) := by
  refine least_same _ _ _ _ fun z => ?_
  rw [head_drop xs h, head_drop _ (by simp; omega)]
  have : z ∈ xs ↔ z ∈ xs.take k ++ xs.drop k := by rw [List.take_append_drop]
  rw [this, List.mem_append, List.mem_append]
  exact Or.comm
end Go.Proofs.Ytgfehlmiejnonaa

set_option maxRecDepth 20000
namespace Go.Proofs.Ytgfehlmiejnonaa

abbrev Lk := Int × Int × Int

def isV (V v : Int) : Bool := decide (0 ≤ v) && decide (v < V)
def joinsB (V f t : Int) : Bool := isV V f && isV V t && !(f == t)
def linkOk (V acc : Int) (l : Lk) : Bool := joinsB V l.1 l.2.1 && decide (0 ≤ l.2.2 ∧ l.2.2 ≤ 4611686018427387904 - acc)
def capsFrom (V : Int) : Int → List Lk → Option Int
  | acc, [] => some acc
  | acc, l :: r => if linkOk V acc l then capsFrom V (acc + l.2.2) r else none
def formOk (V : Int) (n : Nat) : Bool := decide (2 ≤ V ∧ V ≤ 8 ∧ n ≤ 16)
def totalOf (V : Int) (ls : List Lk) : Option Int := if formOk V ls.length then capsFrom V 0 ls else none
def mayG (V : Int) (ls : List Lk) : Bool := (totalOf V ls).isSome

def at3 (ls : List Lk) (i : Nat) : Lk := ls[i]?.getD (0, 0, 0)

theorem at3_drop (ls : List Lk) (k : Nat) (h : k < ls.length) : ls.drop k = at3 ls k :: ls.drop (k + 1) := by
  rw [List.drop_eq_getElem_cons h]
  simp [at3, List.getElem?_eq_getElem h]

theorem caps_step {V acc : Int} {ls : List Lk} {k : Nat} (h : k < ls.length) (hk : linkOk V acc (at3 ls k) = true) : capsFrom V acc (ls.drop k) = capsFrom V (acc + (at3 ls k).2.2) (ls.drop (k + 1)) := by
  rw [at3_drop ls k h, capsFrom, if_pos hk]

theorem caps_stop {V acc : Int} {ls : List Lk} {k : Nat} (h : k < ls.length) (hk : linkOk V acc (at3 ls k) = false) : capsFrom V acc (ls.drop k) = none := by
  rw [at3_drop ls k h, capsFrom, if_neg (by simp [hk])]

theorem caps_end {V acc : Int} {ls : List Lk} {k : Nat} (h : ls.length ≤ k) : capsFrom V acc (ls.drop k) = some acc := by
  rw [List.drop_eq_nil_of_le h, capsFrom]

theorem link_bd {V acc : Int} {l : Lk} (h : linkOk V acc l = true) : 0 ≤ l.2.2 ∧ l.2.2 ≤ 4611686018427387904 - acc := by
  simp only [linkOk, Bool.and_eq_true, decide_eq_true_eq] at h
  exact h.2

theorem add_one {t c : Int} (h : 0 ≤ c ∧ c ≤ 4611686018427387904 - t) : addV t [c] = t + c ∧ addB t [c] = true := by
  have e : sumFrom t [c] = some (t + c) := by
    rw [sumFrom, if_neg (by omega), sumFrom]
  simp [addV, addB, e]

theorem add_one_no {t c : Int} (h : ¬ (0 ≤ c ∧ c ≤ 4611686018427387904 - t)) : addB t [c] = false := by
  have e : sumFrom t [c] = none := by
    rw [sumFrom, if_pos (by omega)]
  simp [addB, e]

/-- Which links have the vertex v at the end f, of the first k. -/
def sel (f : Lk → Int) (ls : List Lk) (v : Int) (k : Nat) : List Int := ((List.range k).filter fun i => f (at3 ls i) == v).map fun i : Nat => (i : Int)

theorem sel_zero (f : Lk → Int) (ls : List Lk) (v : Int) : sel f ls v 0 = [] := rfl

theorem sel_yes {f : Lk → Int} {ls : List Lk} {v : Int} {k : Nat} (h : f (at3 ls k) = v) : sel f ls v (k + 1) = sel f ls v k ++ [(k : Int)] := by
  simp [sel, List.range_succ, List.filter_append, h]

theorem sel_no {f : Lk → Int} {ls : List Lk} {v : Int} {k : Nat} (h : ¬ f (at3 ls k) = v) : sel f ls v (k + 1) = sel f ls v k := by
  simp [sel, List.range_succ, List.filter_append, h]

theorem sel_len (f : Lk → Int) (ls : List Lk) (v : Int) (k : Nat) : (sel f ls v k).length ≤ k := by
  have := List.length_filter_le (fun i => f (at3 ls i) == v) (List.range k)
  simp only [sel, List.length_map]
  simpa using this

theorem sel_mem {f : Lk → Int} {ls : List Lk} {v : Int} {k : Nat} : ∀ x ∈ sel f ls v k, 0 ≤ x ∧ x < k := by
  intro x hx
  simp only [sel, List.mem_map, List.mem_filter, List.mem_range] at hx
  obtain ⟨i, ⟨hi, _⟩, rfl⟩ := hx
  omega

def totE (V : Int) (ls : List Lk) : Int := if mayG V ls then 0 else 400
def totX (V : Int) (ls : List Lk) : Int := (totalOf V ls).getD 0
/-- May Out and In answer? -/
def goodB (V : Int) (ls : List Lk) (v : Int) : Bool := mayG V ls && isV V v
def selOf (f : Lk → Int) (V : Int) (ls : List Lk) (v : Int) : List Int := if goodB V ls v then sel f ls v ls.length else []
def selE (V : Int) (ls : List Lk) (v : Int) : Int := if goodB V ls v then 0 else 400

theorem may_small {V : Int} {ls : List Lk} (h : mayG V ls = true) : 2 ≤ V ∧ V ≤ 8 ∧ ls.length ≤ 16 := by
  unfold mayG totalOf at h
  by_cases k : formOk V ls.length = true
  · simpa [formOk] using k
  · rw [if_neg k] at h
    cases h

theorem selOf_len (f : Lk → Int) (V : Int) (ls : List Lk) (v : Int) : (selOf f V ls v).length ≤ 16 := by
  unfold selOf
  by_cases h : goodB V ls v = true
  · rw [if_pos h]
    have h2 : mayG V ls = true := by
      simp only [goodB, Bool.and_eq_true] at h
      exact h.1
    have := may_small h2
    have := sel_len f ls v ls.length
    omega
  · rw [if_neg h]
    simp

theorem selOf_ok (f : Lk → Int) (V : Int) (ls : List Lk) (v : Int) : ∀ i : Nat, -9223372036854775808 ≤ (selOf f V ls v)[i]?.getD 0 ∧ (selOf f V ls v)[i]?.getD 0 ≤ 9223372036854775807 := by
  intro i
  by_cases hi : i < (selOf f V ls v).length
  · rw [List.getElem?_eq_getElem hi]
    have hm := List.getElem_mem hi
    simp only [Option.getD_some]
    unfold selOf at hm
    by_cases h : goodB V ls v = true
    · have h2 : mayG V ls = true := by
        simp only [goodB, Bool.and_eq_true] at h
        exact h.1
      have := may_small h2
      have hm2 : (selOf f V ls v)[i] ∈ sel f ls v ls.length := by
        have e : selOf f V ls v = sel f ls v ls.length := by unfold selOf; rw [if_pos h]
        rw [← e]
        exact List.getElem_mem hi
      have := sel_mem _ hm2
      omega
    · have e : selOf f V ls v = [] := by unfold selOf; rw [if_neg h]
      rw [e] at hi
      simp at hi
  · rw [List.getElem?_eq_none (by omega)]
    simp

end Go.Proofs.Ytgfehlmiejnonaa

set_option maxRecDepth 20000
namespace Go.Proofs.Ytgfehlmiejnonaa

def tailOf (ls : List Lk) (a : Nat) : Int := if a % 2 = 0 then (at3 ls (a / 2)).1 else (at3 ls (a / 2)).2.1
def headOf (ls : List Lk) (a : Nat) : Int := if a % 2 = 0 then (at3 ls (a / 2)).2.1 else (at3 ls (a / 2)).1

theorem tail_even (ls : List Lk) (k : Nat) : tailOf ls (2 * k) = (at3 ls k).1 := by
  unfold tailOf
  rw [if_pos (by omega), show 2 * k / 2 = k by omega]

theorem tail_odd (ls : List Lk) (k : Nat) : tailOf ls (2 * k + 1) = (at3 ls k).2.1 := by
  unfold tailOf
  rw [if_neg (by omega), show (2 * k + 1) / 2 = k by omega]

theorem head_even (ls : List Lk) (k : Nat) : headOf ls (2 * k) = (at3 ls k).2.1 := by
  unfold headOf
  rw [if_pos (by omega), show 2 * k / 2 = k by omega]

theorem head_odd (ls : List Lk) (k : Nat) : headOf ls (2 * k + 1) = (at3 ls k).1 := by
  unfold headOf
  rw [if_neg (by omega), show (2 * k + 1) / 2 = k by omega]

def arcIf (ls : List Lk) (v : Int) (m : Nat) : List Int := if tailOf ls m = v then [(m : Int)] else []
/-- The arcs that begin at v, of the first m. -/
def rowA (ls : List Lk) (v : Int) : Nat → List Int
  | 0 => []
  | m + 1 => rowA ls v m ++ arcIf ls v m
def headsA (ls : List Lk) : Nat → List Int
  | 0 => []
  | m + 1 => headsA ls m ++ [headOf ls m]
def ordA (ls : List Lk) (n : Nat) : Nat → List Int
  | 0 => []
  | v + 1 => ordA ls n v ++ rowA ls (v : Int) (2 * n)
def startsA (ls : List Lk) (n : Nat) : Nat → List Int
  | 0 => []
  | v + 1 => startsA ls n v ++ [((ordA ls n v).length : Int)]

theorem row_yes {ls : List Lk} {v : Int} {m : Nat} (h : tailOf ls m = v) : rowA ls v (m + 1) = rowA ls v m ++ [(m : Int)] := by
  rw [rowA, arcIf, if_pos h]

theorem row_no {ls : List Lk} {v : Int} {m : Nat} (h : ¬ tailOf ls m = v) : rowA ls v (m + 1) = rowA ls v m := by
  rw [rowA, arcIf, if_neg h, List.append_nil]

theorem row_pair (ls : List Lk) (v : Int) (k : Nat) : rowA ls v (2 * (k + 1)) = (rowA ls v (2 * k) ++ (if (at3 ls k).1 = v then [(2 * (k : Int))] else [])) ++ (if (at3 ls k).2.1 = v then [(2 * (k : Int) + 1)] else []) := by
  rw [show 2 * (k + 1) = 2 * k + 1 + 1 by omega, rowA, rowA, arcIf, arcIf, tail_even, tail_odd]
  congr 1

theorem heads_pair (ls : List Lk) (k : Nat) : headsA ls (2 * (k + 1)) = headsA ls (2 * k) ++ [(at3 ls k).2.1, (at3 ls k).1] := by
  rw [show 2 * (k + 1) = 2 * k + 1 + 1 by omega, headsA, headsA, head_even, head_odd, List.append_assoc]
  rfl

theorem row_len (ls : List Lk) (v : Int) : ∀ m, (rowA ls v m).length ≤ m
  | 0 => by simp [rowA]
  | m + 1 => by
    have := row_len ls v m
    rw [rowA, List.length_append, arcIf]
    by_cases h : tailOf ls m = v
    · rw [if_pos h]; simp; omega
    · rw [if_neg h]; simp; omega

theorem heads_len (ls : List Lk) : ∀ m, (headsA ls m).length = m
  | 0 => rfl
  | m + 1 => by rw [headsA, List.length_append, heads_len ls m]; rfl

theorem ord_len (ls : List Lk) (n : Nat) : ∀ v, (ordA ls n v).length ≤ 2 * n * v
  | 0 => by simp [ordA]
  | v + 1 => by
    have h1 := ord_len ls n v
    have h2 := row_len ls (v : Int) (2 * n)
    rw [ordA, List.length_append, Nat.mul_succ]
    omega

theorem starts_len (ls : List Lk) (n : Nat) : ∀ v, (startsA ls n v).length = v
  | 0 => rfl
  | v + 1 => by rw [startsA, List.length_append, starts_len ls n v]; rfl

theorem row_mem (ls : List Lk) (v : Int) : ∀ m, ∀ x ∈ rowA ls v m, 0 ≤ x ∧ x < m
  | 0 => by simp [rowA]
  | m + 1 => by
    intro x hx
    rw [rowA, List.mem_append] at hx
    rcases hx with hx | hx
    · have := row_mem ls v m x hx; omega
    · unfold arcIf at hx
      by_cases h : tailOf ls m = v
      · rw [if_pos h] at hx; simp at hx; omega
      · rw [if_neg h] at hx; simp at hx

theorem ord_mem (ls : List Lk) (n : Nat) : ∀ v, ∀ x ∈ ordA ls n v, 0 ≤ x ∧ x < 2 * n
  | 0 => by simp [ordA]
  | v + 1 => by
    intro x hx
    rw [ordA, List.mem_append] at hx
    rcases hx with hx | hx
    · exact ord_mem ls n v x hx
    · have := row_mem ls (v : Int) (2 * n) x hx; omega

theorem starts_mem (ls : List Lk) (n : Nat) : ∀ v, ∀ x ∈ startsA ls n v, 0 ≤ x ∧ x ≤ 2 * n * v
  | 0 => by simp [startsA]
  | v + 1 => by
    intro x hx
    rw [startsA, List.mem_append] at hx
    have e : (2 * (n : Int) * ((v + 1 : Nat) : Int)) = 2 * (n : Int) * (v : Int) + 2 * (n : Int) := by rw [Int.natCast_add, Int.mul_add]; simp
    rw [e]
    rcases hx with hx | hx
    · have := starts_mem ls n v x hx; omega
    · have h := ord_len ls n v
      simp only [List.mem_singleton] at hx
      have h2 : (((ordA ls n v).length : Nat) : Int) ≤ ((2 * n * v : Nat) : Int) := Int.ofNat_le.2 h
      rw [Int.natCast_mul, Int.natCast_mul] at h2
      simp at h2
      omega

theorem heads_at (ls : List Lk) : ∀ m i, i < m → (headsA ls m)[i]?.getD 0 = headOf ls i
  | 0, _, h => by omega
  | m + 1, i, h => by
    have hl := heads_len ls m
    rw [headsA]
    rcases Nat.lt_or_ge i m with k | k
    · rw [List.getElem?_append_left (by omega)]
      exact heads_at ls m i k
    · obtain rfl : i = m := by omega
      rw [List.getElem?_append_right (by omega), hl]
      simp

theorem starts_at (ls : List Lk) (n : Nat) : ∀ v i, i < v → (startsA ls n v)[i]?.getD 0 = ((ordA ls n i).length : Int)
  | 0, _, h => by omega
  | v + 1, i, h => by
    have hl := starts_len ls n v
    rw [startsA]
    rcases Nat.lt_or_ge i v with k | k
    · rw [List.getElem?_append_left (by omega)]
      exact starts_at ls n v i k
    · obtain rfl : i = v := by omega
      rw [List.getElem?_append_right (by omega), hl]
      simp

def rowOf (V : Int) (ls : List Lk) (v : Int) : List Int := if goodB V ls v then rowA ls v (2 * ls.length) else []
def rowE (V : Int) (ls : List Lk) (v : Int) : Int := if goodB V ls v then 0 else 500
def arcS (V : Int) (ls : List Lk) : List Int := if mayG V ls then startsA ls ls.length (V.toNat + 1) else []
def arcO (V : Int) (ls : List Lk) : List Int := if mayG V ls then ordA ls ls.length V.toNat else []
def arcH (V : Int) (ls : List Lk) : List Int := if mayG V ls then headsA ls (2 * ls.length) else []
def arcE (V : Int) (ls : List Lk) : Int := if mayG V ls then 0 else 500

theorem rowOf_no {V : Int} {ls : List Lk} {v : Int} (h : goodB V ls v = false) : rowOf V ls v = [] ∧ rowE V ls v = 500 := by simp [rowOf, rowE, h]
theorem rowOf_yes {V : Int} {ls : List Lk} {v : Int} (h : goodB V ls v = true) : rowOf V ls v = rowA ls v (2 * ls.length) ∧ rowE V ls v = 0 := by simp [rowOf, rowE, h]
theorem arc_no {V : Int} {ls : List Lk} (h : mayG V ls = false) : arcS V ls = [] ∧ arcO V ls = [] ∧ arcH V ls = [] ∧ arcE V ls = 500 := by simp [arcS, arcO, arcH, arcE, h]
theorem arc_yes {V : Int} {ls : List Lk} (h : mayG V ls = true) : arcS V ls = startsA ls ls.length (V.toNat + 1) ∧ arcO V ls = ordA ls ls.length V.toNat ∧ arcH V ls = headsA ls (2 * ls.length) ∧ arcE V ls = 0 := by simp [arcS, arcO, arcH, arcE, h]

theorem get_ok {xs : List Int} (h : ∀ x ∈ xs, -9223372036854775808 ≤ x ∧ x ≤ 9223372036854775807) (i : Nat) : -9223372036854775808 ≤ xs[i]?.getD 0 ∧ xs[i]?.getD 0 ≤ 9223372036854775807 := by
  by_cases hi : i < xs.length
  · rw [List.getElem?_eq_getElem hi]
    exact h _ (List.getElem_mem hi)
  · rw [List.getElem?_eq_none (by omega)]
    simp

theorem row_ok (ls : List Lk) (v : Int) {m : Nat} (h : m ≤ 1000) : ∀ i : Nat, -9223372036854775808 ≤ (rowA ls v m)[i]?.getD 0 ∧ (rowA ls v m)[i]?.getD 0 ≤ 9223372036854775807 :=
  get_ok fun x hx => by have := row_mem ls v m x hx; omega

theorem may_good {V : Int} {ls : List Lk} {v : Int} (h : goodB V ls v = true) : mayG V ls = true := by
  simp only [goodB, Bool.and_eq_true] at h
  exact h.1

theorem rowOf_ok (V : Int) (ls : List Lk) (v : Int) : ∀ i : Nat, -9223372036854775808 ≤ (rowOf V ls v)[i]?.getD 0 ∧ (rowOf V ls v)[i]?.getD 0 ≤ 9223372036854775807 := by
  cases h : goodB V ls v
  · rw [(rowOf_no h).1]; simp
  · rw [(rowOf_yes h).1]
    have := may_small (may_good h)
    exact row_ok ls v (by omega)

theorem arcS_ok (V : Int) (ls : List Lk) : ∀ i : Nat, -9223372036854775808 ≤ (arcS V ls)[i]?.getD 0 ∧ (arcS V ls)[i]?.getD 0 ≤ 9223372036854775807 := by
  cases h : mayG V ls
  · rw [(arc_no h).1]; simp
  · rw [(arc_yes h).1]
    have := may_small h
    refine get_ok fun x hx => ?_
    have h1 := starts_mem ls ls.length (V.toNat + 1) x hx
    have h2 : 2 * ls.length * (V.toNat + 1) ≤ 2 * 16 * 9 := Nat.mul_le_mul (by omega) (by omega)
    have h3 : ((2 * ls.length * (V.toNat + 1) : Nat) : Int) ≤ 288 := by omega
    rw [Int.natCast_mul, Int.natCast_mul] at h3
    simp at h1 h3
    omega

theorem arcO_ok (V : Int) (ls : List Lk) : ∀ i : Nat, -9223372036854775808 ≤ (arcO V ls)[i]?.getD 0 ∧ (arcO V ls)[i]?.getD 0 ≤ 9223372036854775807 := by
  cases h : mayG V ls
  · rw [(arc_no h).2.1]; simp
  · rw [(arc_yes h).2.1]
    have := may_small h
    refine get_ok fun x hx => ?_
    have h1 := ord_mem ls ls.length V.toNat x hx
    omega

theorem caps_joins {V : Int} : ∀ (ls : List Lk) (acc : Int), (capsFrom V acc ls).isSome = true → ∀ l ∈ ls, joinsB V l.1 l.2.1 = true
  | [], _, _ => by simp
  | l :: r, acc, h => by
    intro x hx
    rw [capsFrom] at h
    by_cases k : linkOk V acc l = true
    · rw [if_pos k] at h
      rcases List.mem_cons.1 hx with rfl | hx
      · simp only [linkOk, Bool.and_eq_true] at k
        exact k.1
      · exact caps_joins r _ h x hx
    · rw [if_neg k] at h
      cases h

theorem may_joins {V : Int} {ls : List Lk} (h : mayG V ls = true) {i : Nat} (hi : i < ls.length) : 0 ≤ (at3 ls i).1 ∧ (at3 ls i).1 < V ∧ 0 ≤ (at3 ls i).2.1 ∧ (at3 ls i).2.1 < V ∧ (at3 ls i).1 ≠ (at3 ls i).2.1 := by
  unfold mayG totalOf at h
  by_cases k : formOk V ls.length = true
  · rw [if_pos k] at h
    have := caps_joins ls 0 h (at3 ls i) (by unfold at3; rw [List.getElem?_eq_getElem hi]; exact List.getElem_mem hi)
    simp only [joinsB, isV, Bool.and_eq_true, decide_eq_true_eq, Bool.not_eq_true', beq_eq_false_iff_ne] at this
    obtain ⟨⟨⟨a, b⟩, c, d⟩, e⟩ := this
    exact ⟨a, b, c, d, e⟩
  · rw [if_neg k] at h
    cases h

theorem head_bd {V : Int} {ls : List Lk} (h : mayG V ls = true) {a : Nat} (ha : a < 2 * ls.length) : 0 ≤ headOf ls a ∧ headOf ls a < V := by
  have := may_joins h (i := a / 2) (by omega)
  unfold headOf
  by_cases k : a % 2 = 0
  · rw [if_pos k]; omega
  · rw [if_neg k]; omega

theorem tail_bd {V : Int} {ls : List Lk} (h : mayG V ls = true) {a : Nat} (ha : a < 2 * ls.length) : 0 ≤ tailOf ls a ∧ tailOf ls a < V := by
  have := may_joins h (i := a / 2) (by omega)
  unfold tailOf
  by_cases k : a % 2 = 0
  · rw [if_pos k]; omega
  · rw [if_neg k]; omega

theorem heads_mem (ls : List Lk) : ∀ m, ∀ x ∈ headsA ls m, ∃ a, a < m ∧ x = headOf ls a
  | 0 => by simp [headsA]
  | m + 1 => by
    intro x hx
    rw [headsA, List.mem_append] at hx
    rcases hx with hx | hx
    · obtain ⟨a, h1, h2⟩ := heads_mem ls m x hx
      exact ⟨a, by omega, h2⟩
    · simp only [List.mem_singleton] at hx
      exact ⟨m, by omega, hx⟩

theorem arcH_ok (V : Int) (ls : List Lk) : ∀ i : Nat, -9223372036854775808 ≤ (arcH V ls)[i]?.getD 0 ∧ (arcH V ls)[i]?.getD 0 ≤ 9223372036854775807 := by
  cases h : mayG V ls
  · rw [(arc_no h).2.2.1]; simp
  · rw [(arc_yes h).2.2.1]
    have := may_small h
    refine get_ok fun x hx => ?_
    obtain ⟨a, h1, rfl⟩ := heads_mem ls _ x hx
    have := head_bd h h1
    omega

end Go.Proofs.Ytgfehlmiejnonaa

set_option maxRecDepth 20000
namespace Go.Proofs.Ytgfehlmiejnonaa

theorem count_arc (ls : List Lk) (v : Int) (m a : Nat) : (arcIf ls v m).count (a : Int) = if m = a ∧ tailOf ls a = v then 1 else 0 := by
  unfold arcIf
  by_cases h : tailOf ls m = v
  · rw [if_pos h]
    by_cases k : m = a
    · subst k; simp [h]
    · have : ((m : Nat) : Int) ≠ (a : Int) := by omega
      simp [k, this]
  · rw [if_neg h]
    by_cases k : m = a
    · subst k; simp [h]
    · simp [k]

theorem count_row (ls : List Lk) (v : Int) (a : Nat) : ∀ m, (rowA ls v m).count (a : Int) = if a < m ∧ tailOf ls a = v then 1 else 0
  | 0 => by simp [rowA]
  | m + 1 => by
    rw [rowA, List.count_append, count_row ls v a m, count_arc]
    by_cases h : tailOf ls a = v
    · simp only [h, and_true]
      by_cases k : a < m
      · rw [if_pos k, if_neg (by omega), if_pos (by omega)]
      · by_cases j : m = a
        · rw [if_neg k, if_pos j, if_pos (by omega)]
        · rw [if_neg k, if_neg j, if_neg (by omega)]
    · simp [h]

theorem count_ord (ls : List Lk) (n a : Nat) (ha : a < 2 * n) : ∀ v : Nat, (ordA ls n v).count (a : Int) = if 0 ≤ tailOf ls a ∧ tailOf ls a < v then 1 else 0
  | 0 => by
    have : ¬ (0 ≤ tailOf ls a ∧ tailOf ls a < ((0 : Nat) : Int)) := by omega
    rw [if_neg this]; simp [ordA]
  | v + 1 => by
    rw [ordA, List.count_append, count_ord ls n a ha v, count_row]
    by_cases h : tailOf ls a = (v : Int)
    · rw [if_neg (by omega), if_pos ⟨ha, h⟩, if_pos (by omega)]
    · rw [if_neg (show ¬ (a < 2 * n ∧ tailOf ls a = (v : Int)) from fun k => h k.2)]
      by_cases k : 0 ≤ tailOf ls a ∧ tailOf ls a < v
      · rw [if_pos k, if_pos (by omega)]
      · rw [if_neg k, if_neg (by omega)]

theorem once {vn : Nat} {ls : List Lk} (h : mayG (vn : Nat) ls = true) {a : Nat} (ha : a < 2 * ls.length) : (ordA ls ls.length vn).count (a : Int) = 1 := by
  rw [count_ord ls ls.length a ha vn, if_pos (tail_bd h ha)]

def sumRows (ls : List Lk) (m : Nat) : Nat → Nat
  | 0 => 0
  | v + 1 => sumRows ls m v + (rowA ls (v : Int) m).length

theorem arc_len (ls : List Lk) (v : Int) (m : Nat) : (rowA ls v (m + 1)).length = (rowA ls v m).length + if tailOf ls m = v then 1 else 0 := by
  rw [rowA, List.length_append, arcIf]
  by_cases h : tailOf ls m = v
  · rw [if_pos h, if_pos h]; rfl
  · rw [if_neg h, if_neg h]; rfl

theorem rows_step (ls : List Lk) (m : Nat) : ∀ v : Nat, sumRows ls (m + 1) v = sumRows ls m v + if 0 ≤ tailOf ls m ∧ tailOf ls m < v then 1 else 0
  | 0 => by
    have : ¬ (0 ≤ tailOf ls m ∧ tailOf ls m < ((0 : Nat) : Int)) := by omega
    rw [if_neg this]; rfl
  | v + 1 => by
    rw [sumRows, sumRows, rows_step ls m v, arc_len]
    by_cases h : tailOf ls m = (v : Int)
    · rw [if_neg (by omega), if_pos h, if_pos (by omega)]; omega
    · rw [if_neg h]
      by_cases k : 0 ≤ tailOf ls m ∧ tailOf ls m < v
      · rw [if_pos k, if_pos (by omega)]; omega
      · rw [if_neg k, if_neg (by omega)]; omega

theorem sum_zero (ls : List Lk) : ∀ v, sumRows ls 0 v = 0
  | 0 => rfl
  | v + 1 => by rw [sumRows, sum_zero ls v]; rfl

theorem sum_all (ls : List Lk) (v : Nat) : ∀ m, (∀ a, a < m → 0 ≤ tailOf ls a ∧ tailOf ls a < v) → sumRows ls m v = m
  | 0, _ => sum_zero ls v
  | m + 1, h => by rw [rows_step, sum_all ls v m (fun a ha => h a (by omega)), if_pos (h m (by omega))]

theorem ord_sum (ls : List Lk) (n : Nat) : ∀ v, (ordA ls n v).length = sumRows ls (2 * n) v
  | 0 => rfl
  | v + 1 => by rw [ordA, List.length_append, ord_sum ls n v]; rfl

theorem ord_all {vn : Nat} {ls : List Lk} (h : mayG (vn : Nat) ls = true) : (ordA ls ls.length vn).length = 2 * ls.length := by
  rw [ord_sum, sum_all ls vn _ fun a ha => tail_bd h ha]

/-- The first k links turned. -/
def turnK (ls : List Lk) : Nat → List Lk
  | 0 => ls
  | k + 1 => (turnK ls k).set k ((at3 ls k).2.1, (at3 ls k).1, (at3 ls k).2.2)

theorem turn_len (ls : List Lk) : ∀ k, (turnK ls k).length = ls.length
  | 0 => rfl
  | k + 1 => by rw [turnK, List.length_set, turn_len ls k]

theorem turn_at (ls : List Lk) : ∀ k i, i < ls.length → at3 (turnK ls k) i = if i < k then ((at3 ls i).2.1, (at3 ls i).1, (at3 ls i).2.2) else at3 ls i
  | 0, i, _ => by simp [turnK]
  | k + 1, i, hi => by
    have hl := turn_len ls k
    rw [turnK]
    unfold at3
    by_cases h : i = k
    · subst h
      rw [List.getElem?_set_self (by omega), if_pos (by omega)]
      rfl
    · rw [List.getElem?_set_ne (by omega)]
      have := turn_at ls k i hi
      unfold at3 at this
      rw [this]
      by_cases j : i < k
      · rw [if_pos j, if_pos (by omega)]
      · rw [if_neg j, if_neg (by omega)]

theorem tail_turn (ls : List Lk) (i : Nat) (hi : i < ls.length) : tailOf (turnK ls ls.length) (2 * i) = tailOf ls (2 * i + 1) ∧ tailOf (turnK ls ls.length) (2 * i + 1) = tailOf ls (2 * i) := by
  rw [tail_even, tail_odd, tail_even, tail_odd, turn_at ls _ i hi, if_pos hi]
  exact ⟨rfl, rfl⟩

theorem head_turn (ls : List Lk) (i : Nat) (hi : i < ls.length) : headOf (turnK ls ls.length) (2 * i) = headOf ls (2 * i + 1) ∧ headOf (turnK ls ls.length) (2 * i + 1) = headOf ls (2 * i) := by
  rw [head_even, head_odd, head_even, head_odd, turn_at ls _ i hi, if_pos hi]
  exact ⟨rfl, rfl⟩

theorem row_turn (ls : List Lk) (v : Int) : ∀ k, k ≤ ls.length → (rowA (turnK ls ls.length) v (2 * k)).length = (rowA ls v (2 * k)).length
  | 0, _ => rfl
  | k + 1, h => by
    obtain ⟨h1, h2⟩ := tail_turn ls k (by omega)
    rw [show 2 * (k + 1) = 2 * k + 1 + 1 by omega, arc_len, arc_len, arc_len, arc_len, row_turn ls v k (by omega), h1, h2]
    omega

theorem ord_turn (ls : List Lk) : ∀ v, (ordA (turnK ls ls.length) ls.length v).length = (ordA ls ls.length v).length
  | 0 => rfl
  | v + 1 => by
    rw [ordA, ordA, List.length_append, List.length_append, ord_turn ls v, row_turn ls _ _ (Nat.le_refl _)]

theorem starts_turn (ls : List Lk) : ∀ v, startsA (turnK ls ls.length) ls.length v = startsA ls ls.length v
  | 0 => rfl
  | v + 1 => by rw [startsA, startsA, starts_turn ls v, ord_turn]

theorem joins_symm (V f t : Int) : joinsB V f t = joinsB V t f := by
  unfold joinsB
  have : (f == t) = (t == f) := Bool.eq_iff_iff.2 (by simp only [beq_iff_eq]; exact eq_comm)
  rw [this, Bool.and_comm (isV V f)]

def turnL (l : Lk) : Lk := (l.2.1, l.1, l.2.2)

theorem caps_turn (V : Int) : ∀ (ls : List Lk) (acc : Int), capsFrom V acc (ls.map turnL) = capsFrom V acc ls
  | [], _ => rfl
  | l :: r, acc => by
    rw [List.map_cons, capsFrom, capsFrom]
    have e : linkOk V acc (turnL l) = linkOk V acc l := by
      unfold linkOk turnL
      rw [joins_symm]
    rw [e]
    by_cases h : linkOk V acc l = true
    · rw [if_pos h, if_pos h]; exact caps_turn V r _
    · rw [if_neg h, if_neg h]

theorem turn_map (ls : List Lk) : turnK ls ls.length = ls.map turnL := by
  refine List.ext_getElem? fun i => ?_
  by_cases hi : i < ls.length
  · have h1 := turn_at ls ls.length i hi
    rw [if_pos hi] at h1
    have hl := turn_len ls ls.length
    unfold at3 at h1
    rw [List.getElem?_eq_getElem (by omega)] at h1 ⊢
    rw [List.getElem?_map, List.getElem?_eq_getElem hi]
    rw [List.getElem?_eq_getElem hi] at h1
    simp only [Option.getD_some] at h1
    rw [h1]
    rfl
  · rw [List.getElem?_eq_none (by rw [turn_len]; omega), List.getElem?_eq_none (by simp; omega)]

theorem may_turn {V : Int} {ls : List Lk} (h : mayG V ls = true) : mayG V (turnK ls ls.length) = true := by
  rw [turn_map]
  unfold mayG totalOf at h ⊢
  rw [List.length_map, caps_turn]
  exact h

theorem turn_ok {ls : List Lk} (P : Int → Prop) (h : ∀ i : Nat, P (at3 ls i).1 ∧ P (at3 ls i).2.1 ∧ P (at3 ls i).2.2) (k : Nat) : ∀ i : Nat, P (at3 (turnK ls k) i).1 ∧ P (at3 (turnK ls k) i).2.1 ∧ P (at3 (turnK ls k) i).2.2 := by
  intro i
  by_cases hi : i < ls.length
  · rw [turn_at ls k i hi]
    obtain ⟨a, b, c⟩ := h i
    by_cases j : i < k
    · rw [if_pos j]; exact ⟨b, a, c⟩
    · rw [if_neg j]; exact ⟨a, b, c⟩
  · have h0 := h i
    have e : at3 ls i = (0, 0, 0) := by unfold at3; rw [List.getElem?_eq_none (by omega)]; rfl
    have e' : at3 (turnK ls k) i = (0, 0, 0) := by unfold at3; rw [List.getElem?_eq_none (by rw [turn_len]; omega)]; rfl
    rw [e'] 
    rw [e] at h0
    exact h0

end Go.Proofs.Ytgfehlmiejnonaa
