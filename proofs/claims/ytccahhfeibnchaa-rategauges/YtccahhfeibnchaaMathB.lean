/-
  Plain mathematics: a checked sum over two rows, one behind the other. No condition.
-/
import Derived.Test.YtccahhfeibnchaaMath
namespace Go.Proofs.Ytccahhfeibnchaa
theorem sum_app (a b : List Int) (s : Int) : sumFrom s (a ++ b) = (sumFrom s a).bind fun t => sumFrom t b := by
  induction a generalizing s with
  | nil => rfl
  | cons x r ih =>
    rw [List.cons_append, sumFrom, sumFrom]
    split
    · rfl
    · exact ih _
theorem sum_two (a b : List Int) : sumFrom 0 (a ++ b) = if sumB a && sumB b then sumFrom 0 [sumV a, sumV b] else none := by
  rw [sum_app]
  cases ha : sumFrom 0 a with
  | none => simp [sumB, ha]
  | some s =>
    have hs := sum_ge a 0 s ha (by omega)
    have hsh := sum_shift b s 0 hs.1 (by omega)
    simp only [Int.add_zero] at hsh
    rw [Option.bind_some, hsh]
    cases hb : sumFrom 0 b with
    | none => simp [sumB, hb]
    | some t =>
      have ht := sum_ge b 0 t hb (by omega)
      have hp := pair_sum s t hs.1 hs.2 ht.1
      have ea : sumV a = s := by rw [sumV, ha]; rfl
      have eb : sumV b = t := by rw [sumV, hb]; rfl
      have fa : sumB a = true := by rw [sumB, ha]; rfl
      have fb : sumB b = true := by rw [sumB, hb]; rfl
      rw [ea, eb, hp, fa, fb]
      rfl
theorem split_b (xs : List Int) (k : Nat) : sumB xs = (sumB (xs.take k) && sumB (xs.drop k) && sumB [sumV (xs.take k), sumV (xs.drop k)]) := by
  have h := sum_two (xs.take k) (xs.drop k)
  rw [List.take_append_drop] at h
  rw [sumB, h]
  cases e : (sumB (xs.take k) && sumB (xs.drop k)) with
  | true => rfl
  | false => rfl
theorem split_v (xs : List Int) (k : Nat) (hx : sumB xs = true) : sumV xs = sumV [sumV (xs.take k), sumV (xs.drop k)] := by
  have h := sum_two (xs.take k) (xs.drop k)
  rw [List.take_append_drop] at h
  have hb := split_b xs k
  rw [hx] at hb
  cases e : (sumB (xs.take k) && sumB (xs.drop k)) with
  | true => rw [e, if_pos rfl] at h; rw [sumV, h]; rfl
  | false => rw [e] at hb; simp at hb
end Go.Proofs.Ytccahhfeibnchaa
