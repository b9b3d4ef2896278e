/-
  Paths with rates, as numbers: loads of links, whether paths carry a rate, whether they fit. No program here.
-/
import Derived.Test.YtlpohlcmjnlbhaaJD
import Derived.Test.YtlpohlcmjnlbhaaJA
set_option maxRecDepth 20000
namespace Go.Proofs.Ytlpohlcmjnlbhaa

abbrev Pth := Int × List Int
def at2 (ps : List Pth) (i : Nat) : Pth := ps[i]?.getD (0, [])
def rt (ps : List Pth) (i : Nat) : Int := (at2 ps i).1
def lk (ps : List Pth) (i : Nat) : List Int := (at2 ps i).2
def ratesOf (ps : List Pth) : List Int := ps.map (·.1)
def pairsOf (ps : List Pth) : List (Int × Int) := ps.flatMap fun p => p.2.map fun x => (p.1, x)
def loadQ (l : Int) : List (Int × Int) → Int
  | [] => 0
  | q :: r => (if q.2 = l then q.1 else 0) + loadQ l r
def loadsQ (n : Nat) (q : List (Int × Int)) : List Int := (List.range n).map fun i => loadQ ((i : Nat) : Int) q
def topR : Int := 4611686018427387904
def rateB (x : Int) : Bool := decide (0 ≤ x) && decide (x ≤ 4611686018427387904)
def soundB (n : Nat) (p : Pth) : Bool := rateB p.1 && linksR n p.2
def soundL (n : Nat) (ps : List Pth) : Bool := ps.all (soundB n)
def formB (V : Int) (L : List Lk) (ps : List Pth) : Bool := mayG V L && decide (ps.length ≤ 16) && soundL L.length ps
def fineL (n : Nat) (q : List (Int × Int)) : Bool := (loadsQ n q).all fun x => decide (x ≤ 4611686018427387904)
def loadsE (V : Int) (L : List Lk) (ps : List Pth) : Int := if formB V L ps then (if fineL L.length (pairsOf ps) then 0 else 701) else 700
def loadsV (V : Int) (L : List Lk) (ps : List Pth) : List Int := if formB V L ps && fineL L.length (pairsOf ps) then loadsQ L.length (pairsOf ps) else []
def goodP (V : Int) (L : List Lk) (s t : Int) (p : Pth) : Bool := decide (0 < p.1) && mayP V L s t p.2
def bmay (V : Int) (L : List Lk) (s t R : Int) (ps : List Pth) : Bool := decide (1 ≤ ps.length) && decide (ps.length ≤ 16) && ps.all (goodP V L s t) && decide (isum (ratesOf ps) ≤ 4611686018427387904) && decide (isum (ratesOf ps) = R)

theorem at2_eq {ps : List Pth} {i : Nat} (h : i < ps.length) : at2 ps i = ps[i] := by simp [at2, h]
theorem at2_mem {ps : List Pth} {i : Nat} (h : i < ps.length) : at2 ps i ∈ ps := by rw [at2_eq h]; exact List.getElem_mem h
theorem ptake_next {ps : List Pth} {i : Nat} (h : i < ps.length) : ps.take (i + 1) = ps.take i ++ [at2 ps i] := by
  rw [List.take_succ_eq_append_getElem h, at2_eq h]

theorem loadQ_app (l : Int) (a b : List (Int × Int)) : loadQ l (a ++ b) = loadQ l a + loadQ l b := by
  induction a with
  | nil => simp [loadQ]
  | cons x r ih => simp only [List.cons_append, loadQ, ih]; omega
theorem loadQ_nonneg {q : List (Int × Int)} (h : ∀ p ∈ q, 0 ≤ p.1) (l : Int) : 0 ≤ loadQ l q := by
  induction q with
  | nil => simp [loadQ]
  | cons x r ih =>
    have h1 := ih (fun p hp => h p (by simp [hp]))
    have h2 := h x (by simp)
    simp only [loadQ]
    split <;> omega
theorem loadsQ_len (n : Nat) (q : List (Int × Int)) : (loadsQ n q).length = n := by simp [loadsQ]
theorem loadsQ_get {n i : Nat} (h : i < n) (q : List (Int × Int)) : (loadsQ n q)[i]?.getD 0 = loadQ (i : Int) q := by simp [loadsQ, h]
theorem loadsQ_nil (n : Nat) : loadsQ n [] = List.replicate n 0 := by
  refine List.ext_getElem (by simp [loadsQ]) fun i h1 h2 => ?_
  simp [loadsQ, loadQ]
theorem loadsQ_step {n j : Nat} (_h : j < n) (q : List (Int × Int)) (r : Int) : loadsQ n (q ++ [(r, (j : Int))]) = (loadsQ n q).set j (loadQ (j : Int) q + r) := by
  refine List.ext_getElem (by simp [loadsQ]) fun i h1 h2 => ?_
  rw [List.getElem_set]
  simp only [loadsQ, List.getElem_map, List.getElem_range, loadQ_app, loadQ, Int.add_zero]
  by_cases e : j = i
  · subst e; simp
  · rw [if_neg (by omega), if_neg e]; omega
theorem fine_get {n : Nat} {q : List (Int × Int)} (h : fineL n q = true) {i : Nat} (hi : i < n) : loadQ (i : Int) q ≤ 4611686018427387904 := by
  have := List.all_eq_true.1 h (loadQ (i : Int) q) (List.mem_map.2 ⟨i, List.mem_range.2 hi, rfl⟩)
  simpa using this
theorem fine_mk {n : Nat} {q : List (Int × Int)} (h : ∀ i : Nat, i < n → loadQ (i : Int) q ≤ 4611686018427387904) : fineL n q = true := by
  refine List.all_eq_true.2 fun x hx => ?_
  obtain ⟨i, hi, rfl⟩ := List.mem_map.1 hx
  simpa using h i (List.mem_range.1 hi)
theorem fine_no {n : Nat} {q : List (Int × Int)} {i : Nat} (hi : i < n) (h : 4611686018427387904 < loadQ (i : Int) q) : fineL n q = false := by
  cases e : fineL n q
  · rfl
  · have := fine_get e hi; omega
theorem fine_step {n j : Nat} (_hj : j < n) {q : List (Int × Int)} {r : Int} (h : fineL n q = true) (k : loadQ (j : Int) q + r ≤ 4611686018427387904) : fineL n (q ++ [(r, (j : Int))]) = true := by
  refine fine_mk fun i hi => ?_
  have := fine_get h hi
  rw [loadQ_app]
  simp only [loadQ]
  by_cases e : (j : Int) = (i : Int)
  · obtain rfl : j = i := by omega
    simp; omega
  · rw [if_neg e]; omega
theorem fine_nil (n : Nat) : fineL n [] = true := fine_mk fun i _ => by simp [loadQ]

theorem pairs_app (a b : List Pth) : pairsOf (a ++ b) = pairsOf a ++ pairsOf b := List.flatMap_append
theorem pairs_one (p : Pth) : pairsOf [p] = p.2.map fun x => (p.1, x) := by simp [pairsOf]
def preQ (ps : List Pth) (i j : Nat) : List (Int × Int) := pairsOf (ps.take i) ++ ((lk ps i).take j).map fun x => (rt ps i, x)
theorem preQ_zero (ps : List Pth) : preQ ps 0 0 = [] := by simp [preQ, pairsOf]
theorem preQ_step {ps : List Pth} {i j : Nat} (h : j < (lk ps i).length) : preQ ps i (j + 1) = preQ ps i j ++ [(rt ps i, (lk ps i)[j]?.getD 0)] := by
  rw [preQ, preQ, List.take_succ_eq_append_getElem h, List.map_append, List.getElem?_eq_getElem h, List.append_assoc]
  rfl
theorem preQ_row {ps : List Pth} {i : Nat} (h : i < ps.length) : preQ ps i (lk ps i).length = preQ ps (i + 1) 0 := by
  simp only [preQ, List.take_length, List.take_zero, List.map_nil, List.append_nil]
  rw [ptake_next h, pairs_app, pairs_one]
  rfl
theorem preQ_all (ps : List Pth) : preQ ps ps.length 0 = pairsOf ps := by simp [preQ]
theorem preQ_rest {ps : List Pth} {i : Nat} (j : Nat) (h : i < ps.length) : ∃ r, pairsOf ps = preQ ps i j ++ r := by
  refine ⟨((lk ps i).drop j).map (fun x => (rt ps i, x)) ++ pairsOf (ps.drop (i + 1)), ?_⟩
  have e : pairsOf ps = pairsOf (ps.take i) ++ (pairsOf [at2 ps i] ++ pairsOf (ps.drop (i + 1))) := by
    rw [← pairs_app, ← pairs_app]
    congr 1
    rw [← List.append_assoc, ← ptake_next h, List.take_append_drop]
  rw [e, pairs_one, preQ, List.append_assoc]
  congr 1
  rw [← List.append_assoc, ← List.map_append, List.take_append_drop]
  rfl
theorem pairs_nonneg {n : Nat} {ps : List Pth} (h : soundL n ps = true) : ∀ p ∈ pairsOf ps, 0 ≤ p.1 := by
  intro p hp
  obtain ⟨a, ha, hb⟩ := List.mem_flatMap.1 hp
  obtain ⟨x, _, rfl⟩ := List.mem_map.1 hb
  have := List.all_eq_true.1 h a ha
  simp only [soundB, rateB, Bool.and_eq_true, decide_eq_true_eq] at this
  exact this.1.1
theorem over_no {n : Nat} {ps : List Pth} {i : Nat} (j : Nat) (h : i < ps.length) (hs : soundL n ps = true) {l : Nat} (hl : l < n) (k : 4611686018427387904 < loadQ (l : Int) (preQ ps i j)) : fineL n (pairsOf ps) = false := by
  obtain ⟨r, hr⟩ := preQ_rest j h
  have hn := pairs_nonneg hs
  refine fine_no hl ?_
  rw [hr, loadQ_app]
  have := loadQ_nonneg (q := r) (fun p hp => hn p (by rw [hr]; simp [hp])) (l : Int)
  omega
theorem preQ_nonneg {n : Nat} {ps : List Pth} {i : Nat} (j : Nat) (h : i < ps.length) (hs : soundL n ps = true) : ∀ p ∈ preQ ps i j, 0 ≤ p.1 := by
  obtain ⟨r, hr⟩ := preQ_rest j h
  intro p hp
  exact pairs_nonneg hs p (by rw [hr]; simp [hp])
theorem sound_at {n : Nat} {ps : List Pth} (h : soundL n ps = true) {i : Nat} (hi : i < ps.length) : (0 ≤ rt ps i ∧ rt ps i ≤ 4611686018427387904) ∧ (lk ps i).length ≤ 64 ∧ allL n (lk ps i) = true := by
  have := List.all_eq_true.1 h _ (at2_mem hi)
  simp only [soundB, rateB, linksR, Bool.and_eq_true, decide_eq_true_eq] at this
  exact this
theorem sound_take {n : Nat} {ps : List Pth} {k : Nat} (h : k < ps.length) : soundL n (ps.take (k + 1)) = (soundL n (ps.take k) && soundB n (at2 ps k)) := by
  rw [ptake_next h, soundL, List.all_append]
  simp [soundL]
theorem sound_stop {n : Nat} {ps : List Pth} {k : Nat} (h : k < ps.length) (e : soundB n (at2 ps k) = false) : soundL n ps = false := by
  cases c : soundL n ps
  · rfl
  · rw [List.all_eq_true.1 c _ (at2_mem h)] at e; cases e

theorem loads_form {V : Int} {L : List Lk} {ps : List Pth} (h : formB V L ps = false) : loadsE V L ps = 700 ∧ loadsV V L ps = [] := by simp [loadsE, loadsV, h]
theorem loads_over {V : Int} {L : List Lk} {ps : List Pth} (h : formB V L ps = true) (k : fineL L.length (pairsOf ps) = false) : loadsE V L ps = 701 ∧ loadsV V L ps = [] := by simp [loadsE, loadsV, h, k]
theorem loads_goes {V : Int} {L : List Lk} {ps : List Pth} (h : formB V L ps = true) (k : fineL L.length (pairsOf ps) = true) : loadsE V L ps = 0 ∧ loadsV V L ps = loadsQ L.length (pairsOf ps) := by simp [loadsE, loadsV, h, k]
theorem formB_may {V : Int} {L : List Lk} {ps : List Pth} (h : mayG V L = false) : formB V L ps = false := by simp [formB, h]
theorem formB_len {V : Int} {L : List Lk} {ps : List Pth} (h : ¬ ps.length ≤ 16) : formB V L ps = false := by simp [formB, h]
theorem formB_sound {V : Int} {L : List Lk} {ps : List Pth} (h : soundL L.length ps = false) : formB V L ps = false := by simp [formB, h]
theorem formB_yes {V : Int} {L : List Lk} {ps : List Pth} (h : mayG V L = true) (k : ps.length ≤ 16) (j : soundL L.length ps = true) : formB V L ps = true := by simp [formB, h, k, j]
theorem formB_parts {V : Int} {L : List Lk} {ps : List Pth} (h : formB V L ps = true) : mayG V L = true ∧ ps.length ≤ 16 ∧ soundL L.length ps = true := by
  simp only [formB, Bool.and_eq_true, decide_eq_true_eq] at h
  exact ⟨h.1.1, h.1.2, h.2⟩
theorem loads_ok0 {V : Int} {L : List Lk} {ps : List Pth} (h : loadsE V L ps = 0) : formB V L ps = true ∧ fineL L.length (pairsOf ps) = true := by
  cases a : formB V L ps
  · simp [loadsE, a] at h
  · cases b : fineL L.length (pairsOf ps)
    · simp [loadsE, a, b] at h
    · exact ⟨rfl, rfl⟩
theorem loads_bd {V : Int} {L : List Lk} {ps : List Pth} (i : Nat) : 0 ≤ (loadsV V L ps)[i]?.getD 0 ∧ (loadsV V L ps)[i]?.getD 0 ≤ 4611686018427387904 := by
  cases h : formB V L ps
  · rw [(loads_form h).2]; simp
  · cases k : fineL L.length (pairsOf ps)
    · rw [(loads_over h k).2]; simp
    · rw [(loads_goes h k).2]
      by_cases hi : i < L.length
      · rw [loadsQ_get hi]
        exact ⟨loadQ_nonneg (pairs_nonneg (formB_parts h).2.2) _, fine_get k hi⟩
      · rw [List.getElem?_eq_none (by rw [loadsQ_len]; omega)]; simp
theorem loads_ne {V : Int} {L : List Lk} {ps : List Pth} : loadsE V L ps = 0 ∨ loadsE V L ps = 700 ∨ loadsE V L ps = 701 := by
  cases h : formB V L ps
  · exact .inr (.inl (loads_form h).1)
  · cases k : fineL L.length (pairsOf ps)
    · exact .inr (.inr (loads_over h k).1)
    · exact .inl (loads_goes h k).1

theorem sumFrom_isum {xs : List Int} (h : ∀ x ∈ xs, 0 ≤ x) (s : Int) (hs : s ≤ 4611686018427387904) : sumFrom s xs = if s + isum xs ≤ 4611686018427387904 then some (s + isum xs) else none := by
  induction xs generalizing s with
  | nil => simp [sumFrom, isum, hs]
  | cons x r ih =>
    have hx := h x (by simp)
    have hr := isum_nonneg (xs := r) (fun y hy => h y (by simp [hy]))
    have e : isum (x :: r) = x + isum r := rfl
    rw [e, sumFrom]
    by_cases c : 4611686018427387904 - s < x
    · rw [if_pos (.inr c), if_neg (by omega)]
    · rw [if_neg (by omega), ih (fun y hy => h y (by simp [hy])) (s + x) (by omega), Int.add_assoc]
theorem together_is {xs : List Int} (h : ∀ x ∈ xs, 0 ≤ x) (R : Int) : (sumB xs && (sumV xs == R)) = (decide (isum xs ≤ 4611686018427387904) && decide (isum xs = R)) := by
  have e := sumFrom_isum h 0 (by omega)
  simp only [Int.zero_add] at e
  rw [sumB, sumV, e]
  by_cases c : isum xs ≤ 4611686018427387904
  · rw [if_pos c, Option.isSome_some, Option.getD_some, decide_eq_true c]
    rfl
  · rw [if_neg c, decide_eq_false c]
    rfl
theorem rates_take {ps : List Pth} {k : Nat} (h : k < ps.length) : isum (ratesOf (ps.take (k + 1))) = isum (ratesOf (ps.take k)) + rt ps k := by
  rw [ptake_next h, ratesOf, List.map_append, isum_app]
  simp [isum, ratesOf, rt]
theorem good_take {V : Int} {L : List Lk} {s t : Int} {ps : List Pth} {k : Nat} (h : k < ps.length) : (ps.take (k + 1)).all (goodP V L s t) = ((ps.take k).all (goodP V L s t) && goodP V L s t (at2 ps k)) := by
  rw [ptake_next h, List.all_append]
  simp
theorem good_stop {V : Int} {L : List Lk} {s t : Int} {ps : List Pth} {k : Nat} (h : k < ps.length) (e : goodP V L s t (at2 ps k) = false) : ps.all (goodP V L s t) = false := by
  cases c : ps.all (goodP V L s t)
  · rfl
  · rw [List.all_eq_true.1 c _ (at2_mem h)] at e; cases e
theorem good_rates {V : Int} {L : List Lk} {s t : Int} {ps : List Pth} (h : ps.all (goodP V L s t) = true) : ∀ x ∈ ratesOf ps, 0 ≤ x := by
  intro x hx
  obtain ⟨p, hp, rfl⟩ := List.mem_map.1 hx
  have := List.all_eq_true.1 h p hp
  simp only [goodP, Bool.and_eq_true, decide_eq_true_eq] at this
  omega
theorem bmay_len0 {V : Int} {L : List Lk} {s t R : Int} {ps : List Pth} (h : ps.length = 0) : bmay V L s t R ps = false := by simp [bmay, h]
theorem bmay_len1 {V : Int} {L : List Lk} {s t R : Int} {ps : List Pth} (h : ¬ ps.length ≤ 16) : bmay V L s t R ps = false := by simp [bmay, h]
theorem bmay_bad {V : Int} {L : List Lk} {s t R : Int} {ps : List Pth} (h : ps.all (goodP V L s t) = false) : bmay V L s t R ps = false := by simp [bmay, h]
theorem bmay_yes {V : Int} {L : List Lk} {s t R : Int} {ps : List Pth} (h0 : ¬ ps.length = 0) (h1 : ps.length ≤ 16) (h : ps.all (goodP V L s t) = true) : bmay V L s t R ps = (sumB (ratesOf ps) && (sumV (ratesOf ps) == R)) := by
  rw [together_is (good_rates h)]
  have : 1 ≤ ps.length := by omega
  simp [bmay, h, h1, this]
theorem bmay_graph {V : Int} {L : List Lk} {s t R : Int} {ps : List Pth} (h : mayG V L = false) : bmay V L s t R ps = false := by
  cases ps with
  | nil => simp [bmay]
  | cons p r => exact bmay_bad (by simp [goodP, mayP, goesW, formW, h])
theorem good_sum {V : Int} {L : List Lk} {s t : Int} {ps : List Pth} (h0 : ¬ ps.length = 0) (h : ps.all (goodP V L s t) = true) : 1 ≤ isum (ratesOf ps) := by
  cases ps with
  | nil => simp at h0
  | cons p r =>
    simp only [List.all_cons, Bool.and_eq_true] at h
    have h1 := isum_nonneg (good_rates h.2)
    have h2 := h.1
    simp only [goodP, Bool.and_eq_true, decide_eq_true_eq] at h2
    have e : isum (ratesOf (p :: r)) = p.1 + isum (ratesOf r) := rfl
    omega
theorem bmay_rate {V : Int} {L : List Lk} {s t R : Int} {ps : List Pth} (h : R < 1 ∨ 4611686018427387904 < R) : bmay V L s t R ps = false := by
  cases hg : ps.all (goodP V L s t)
  · exact bmay_bad hg
  · by_cases h0 : ps.length = 0
    · exact bmay_len0 h0
    · have := good_sum h0 hg
      by_cases c : isum (ratesOf ps) ≤ 4611686018427387904
      · have : ¬ isum (ratesOf ps) = R := by omega
        simp [bmay, this]
      · simp [bmay, c]
theorem bmay_more {V : Int} {L : List Lk} {s t R : Int} {ps : List Pth} {k : Nat} (h : k < ps.length) (e : R < isum (ratesOf (ps.take k)) + rt ps k) : bmay V L s t R ps = false := by
  cases hg : ps.all (goodP V L s t)
  · exact bmay_bad hg
  · have hn := good_rates hg
    have e1 : ratesOf ps = ratesOf (ps.take (k + 1)) ++ ratesOf (ps.drop (k + 1)) := by rw [ratesOf, ratesOf, ratesOf, ← List.map_append, List.take_append_drop]
    have h2 := isum_nonneg (xs := ratesOf (ps.drop (k + 1))) (fun x hx => hn x (by rw [e1]; simp [hx]))
    have h3 : isum (ratesOf ps) = isum (ratesOf (ps.take (k + 1))) + isum (ratesOf (ps.drop (k + 1))) := by rw [e1, isum_app]
    rw [rates_take h] at h3
    have : ¬ isum (ratesOf ps) = R := by omega
    simp [bmay, this]
theorem bmay_end {V : Int} {L : List Lk} {s t R : Int} {ps : List Pth} (h0 : ¬ ps.length = 0) (h1 : ps.length ≤ 16) (h : ps.all (goodP V L s t) = true) (hR : R ≤ 4611686018427387904) : bmay V L s t R ps = decide (isum (ratesOf ps) = R) := by
  have : 1 ≤ ps.length := by omega
  by_cases c : isum (ratesOf ps) = R
  · have : isum (ratesOf ps) ≤ 4611686018427387904 := by omega
    simp [bmay, h, h1, c, hR]; omega
  · simp [bmay, c]

theorem loads_take {V : Int} {L : List Lk} {ps : List Pth} (k : Nat) (h : loadsE V L ps = 0) : loadsE V L (ps.take k) = 0 ∧ loadsE V L (ps.drop k) = 0 ∧ ∀ i, i < L.length → (loadsV V L ps)[i]?.getD 0 = (loadsV V L (ps.take k))[i]?.getD 0 + (loadsV V L (ps.drop k))[i]?.getD 0 := by
  obtain ⟨hf, hq⟩ := loads_ok0 h
  obtain ⟨a, b, c⟩ := formB_parts hf
  have e : pairsOf ps = pairsOf (ps.take k) ++ pairsOf (ps.drop k) := by rw [← pairs_app, List.take_append_drop]
  have c1 : soundL L.length (ps.take k) = true := List.all_eq_true.2 fun p hp => List.all_eq_true.1 c p (List.mem_of_mem_take hp)
  have c2 : soundL L.length (ps.drop k) = true := List.all_eq_true.2 fun p hp => List.all_eq_true.1 c p (List.mem_of_mem_drop hp)
  have f1 : formB V L (ps.take k) = true := formB_yes a (by simp; omega) c1
  have f2 : formB V L (ps.drop k) = true := formB_yes a (by simp; omega) c2
  have le : ∀ i, i < L.length → loadQ (i : Int) (pairsOf (ps.take k)) ≤ 4611686018427387904 ∧ loadQ (i : Int) (pairsOf (ps.drop k)) ≤ 4611686018427387904 := by
    intro i hi
    have h1 := fine_get hq hi
    rw [e, loadQ_app] at h1
    have h2 := loadQ_nonneg (pairs_nonneg c1) (i : Int)
    have h3 := loadQ_nonneg (pairs_nonneg c2) (i : Int)
    omega
  have q1 := fine_mk fun i hi => (le i hi).1
  have q2 := fine_mk fun i hi => (le i hi).2
  refine ⟨(loads_goes f1 q1).1, (loads_goes f2 q2).1, fun i hi => ?_⟩
  rw [(loads_goes hf hq).2, (loads_goes f1 q1).2, (loads_goes f2 q2).2, loadsQ_get hi, loadsQ_get hi, loadsQ_get hi, e, loadQ_app]

def fitsE (V : Int) (L : List Lk) (caps : List Int) (ps : List Pth) : Int := if capsB L caps then loadsE V L ps else 700
def fitsV (V : Int) (L : List Lk) (caps : List Int) (ps : List Pth) : Bool := capsB L caps && decide (loadsE V L ps = 0) && underB caps (loadsV V L ps)
theorem fits_caps {V : Int} {L : List Lk} {caps : List Int} {ps : List Pth} (h : capsB L caps = false) : fitsE V L caps ps = 700 ∧ fitsV V L caps ps = false := by simp [fitsE, fitsV, h]
theorem fits_graph {V : Int} {L : List Lk} {caps : List Int} {ps : List Pth} (h : mayG V L = false) : fitsE V L caps ps = 700 ∧ fitsV V L caps ps = false := by
  have := loads_form (ps := ps) (formB_may h)
  cases c : capsB L caps
  · exact fits_caps c
  · simp [fitsE, fitsV, c, this.1]
theorem fits_err {V : Int} {L : List Lk} {caps : List Int} {ps : List Pth} (c : capsB L caps = true) (h : ¬ loadsE V L ps = 0) : fitsE V L caps ps = loadsE V L ps ∧ fitsV V L caps ps = false := by simp [fitsE, fitsV, c, h]
theorem fits_ok {V : Int} {L : List Lk} {caps : List Int} {ps : List Pth} (c : capsB L caps = true) (h : loadsE V L ps = 0) : fitsE V L caps ps = 0 ∧ fitsV V L caps ps = underB caps (loadsV V L ps) := by simp [fitsE, fitsV, c, h]

end Go.Proofs.Ytlpohlcmjnlbhaa
