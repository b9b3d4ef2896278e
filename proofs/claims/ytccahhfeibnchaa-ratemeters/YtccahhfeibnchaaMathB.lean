/-
  Plain mathematics: a checked sum over two rows, one behind the other. No condition.
-/
import Derived.Test.YtccahhfeibnchaaMath
namespace Go.Proofs.Ytccahhfeibnchaa
theorem sum_app (a b : List Int) (s : Int) : sumFrom s (a ++ b) = (sumFrom s a).bind fun t => sumFrom t b := by
  induction a generalizing s with
  | nil => rfl
  | cons x r ih =>
    rw [List.cons_append, sumFrom, sumFrom]
    split
    · rfl
    · exact ih _
theorem sum_two (a b : List Int) : sumFrom 0 (a ++ b) = if sumB a && sumB b then sumFrom 0 [sumV a, sumV b] else none := by
  rw [sum_app]
  cases ha : sumFrom 0 a with
  | none => simp [sumB, ha]
  | some s =>
    have hs := sum_ge a 0 s ha (by omega)
    have hsh := sum_shift b s 0 hs.1 (by omega)
    simp only [Int.add_zero] at hsh
    rw [Option.bind_some, hsh]
    cases hb : sumFrom 0 b with
    | none => simp [sumB, hb]
    | some t =>
      have ht := sum_ge b 0 t hb (by omega)
      have hp := pair_sum s t hs.1 hs.2 ht.1
      have ea : sumV a = s := by rw [sumV, ha]; rfl
      have eb : sumV b = t := by rw [sumV, hb]; rfl
      have fa : sumB a = true := by rw [sumB, ha]; rfl
      have fb : sumB b = true := by rw [sumB, hb]; rfl
      rw [ea, eb, hp, fa, fb]
      rfl
theorem split_b (xs : List Int) (k : Nat) : sumB xs = (sumB (xs.take k) && sumB (xs.drop k) && sumB [sumV (xs.take k), sumV (xs.drop k)]) := by
  have h := sum_two (xs.take k) (xs.drop k)
  rw [List.take_append_drop] at h
  rw [sumB, h]
  cases e : (sumB (xs.take k) && sumB (xs.drop k)) with
  | true => rfl
  | false => rfl
theorem split_v (xs : List Int) (k : Nat) (hx : sumB xs = true) : sumV xs = sumV [sumV (xs.take k), sumV (xs.drop k)] := by
  have h := sum_two (xs.take k) (xs.drop k)
  rw [List.take_append_drop] at h
  have hb := split_b xs k
  rw [hx] at hb
  cases e : (sumB (xs.take k) && sumB (xs.drop k)) with
  | true => rw [e, if_pos rfl] at h; rw [sumV, h]; rfl
  | false => rw [e] at hb; simp at hb

theorem sum_swap (a b : List Int) : sumFrom 0 (a ++ b) = sumFrom 0 (b ++ a) := by
  rw [sum_two, sum_two]
  have ha := sumV_bd a
  have hb := sumV_bd b
  rw [pair_sum _ _ ha.1 ha.2 hb.1, pair_sum _ _ hb.1 hb.2 ha.1, Bool.and_comm, Int.add_comm]
theorem sum_turn (xs : List Int) (k : Nat) : sumV (xs.drop k ++ xs.take k) = sumV xs ∧ sumB (xs.drop k ++ xs.take k) = sumB xs := by
  have h := sum_swap (xs.drop k) (xs.take k)
  rw [List.take_append_drop] at h
  exact ⟨by rw [sumV, h]; rfl, by rw [sumB, h]; rfl⟩
theorem least_same (x y : Int) (r q : List Int) (h : ∀ z, z ∈ x :: r ↔ z ∈ y :: q) : leastFrom x r = leastFrom y q := by
  have a := least_le r x
  have b := least_le q y
  have a1 : leastFrom x r ∈ x :: r := by
    rcases least_in r x with e | e
    · rw [e]; simp
    · exact List.mem_cons_of_mem _ e
  have b1 : leastFrom y q ∈ y :: q := by
    rcases least_in q y with e | e
    · rw [e]; simp
    · exact List.mem_cons_of_mem _ e
  have a2 := (h _).1 a1
  have b2 := (h _).2 b1
  have u : leastFrom y q ≤ leastFrom x r := by
    rcases List.mem_cons.1 a2 with e | e
    · rw [e]; exact b.1
    · exact b.2 _ e
  have v : leastFrom x r ≤ leastFrom y q := by
    rcases List.mem_cons.1 b2 with e | e
    · rw [e]; exact a.1
    · exact a.2 _ e
  omega
theorem head_drop (xs : List Int) (h : 0 < xs.length) : xs[0]?.getD 0 :: xs.drop 1 = xs := by
  have := drop_get xs 0 h
  simpa using this.symm
theorem least_turn (xs : List Int) (k : Nat) (h : 0 < xs.length) :
    leastFrom (xs[0]?.getD 0) (xs.drop 1) = leastFrom ((xs.drop k ++ xs.take k)[0]?.getD 0) ((xs.drop k ++ xs.take k).drop 1) := by
  refine least_same _ _ _ _ fun z => ?_
  rw [head_drop xs h, head_drop _ (by simp; omega)]
  have : z ∈ xs ↔ z ∈ xs.take k ++ xs.drop k := by rw [List.take_append_drop]
  rw [this, List.mem_append, List.mem_append]
  exact Or.comm
end Go.Proofs.Ytccahhfeibnchaa
