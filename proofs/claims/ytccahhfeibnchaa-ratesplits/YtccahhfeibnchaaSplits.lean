/-
  The walk of the law RateSplits: it answers true and changes nothing that was there.
-/
import Derived.Test.YtccahhfeibnchaaApp
import Derived.Test.YtccahhfeibnchaaMathB
namespace Go.Proofs.Ytccahhfeibnchaa
open Go.RowKit

theorem four (is p q r : Bool) (s t : Int) (h : is = (p && q && r)) (k : is = true → s = t) :
    (is = true ∧ p = true ∧ q = true ∧ r = true ∧ s = t) ∨ (is = false ∧ p = false) ∨ (is = false ∧ p = true ∧ q = false) ∨ (is = false ∧ p = true ∧ q = true ∧ r = false) := by
  cases p <;> cases q <;> cases r <;> simp at h <;> subst h <;> simp_all

set_option maxHeartbeats 800000 in
theorem RateSplits_core (A : Option Addr) (n c : Nat) (xs : List Int) (at_ : Int) (w : World) {B : Nat} (h : Row w B A n xs) (hnc : n ≤ c) (hat : -9223372036854775808 ≤ at_ ∧ at_ ≤ 9223372036854775807) :
    Calls Try.prog 4 #[.slice A n c, .int .i64 at_] w fun e w' => e = .returned (.bool true) ∧ Below w.heap.size w w' := by
  have hn := h.small
  by_cases h0 : at_ < 0
  · go_enter Try.func4, Try.ntmps4
    go_wp2
    go_ret
    exact ⟨rfl, Below.refl _ _⟩
  by_cases h1 : (n : Int) < at_
  · go_enter Try.func4, Try.ntmps4
    go_wp2
    go_ret
    exact ⟨rfl, Below.refl _ _⟩
  obtain ⟨k, rfl⟩ := Int.eq_ofNat_of_zero_le (by omega : 0 ≤ at_)
  have hk : k ≤ n := by omega
  clear h0 h1 hat
  have HR := Lib.hid h
  clear h
  by_cases hck : c = k
  · obtain rfl : n = k := by omega
    obtain rfl : c = n := hck
    go_enter Try.func4, Try.ntmps4
    go_wp2_with fail
    refine (Sum_any A c c xs _ HR.out).mono ?_
    rintro e w' ⟨rfl, rfl⟩
    go_wp2_with fail
    refine (Sum_any A c c (xs.take c) _ (HR.out.head (Nat.le_refl _))).mono ?_
    rintro e w' ⟨rfl, rfl⟩
    go_wp2_with fail
    refine (Sum_any A 0 0 (xs.drop c) _ (by simpa using HR.out.tail (A' := A) (Nat.le_refl _) (fun h => absurd h (by omega)))).mono ?_
    rintro e w' ⟨rfl, rfl⟩
    have ha := sumV_bd (xs.take c)
    have hb := sumV_bd (xs.drop c)
    have HV := Lib.hid (split_v xs c)
    have HB := Lib.hid (split_b xs c)
    clear HR
    generalize sumV (xs.take c) = a at *
    generalize sumV (xs.drop c) = b at *
    generalize sumB (xs.take c) = p at *
    generalize sumB (xs.drop c) = q at *
    go_wp2_with fail
    refine (Sum_any _ 2 2 [a, b] _ (Row.two (w := w) a b (by omega) (by omega))).mono ?_
    rintro e w' ⟨rfl, rfl⟩
    generalize sumV [a, b] = t at *
    generalize sumB [a, b] = r at *
    generalize sumV xs = s at *
    generalize sumB xs = is at *
    go_wp2_with fail
    refine (awake_any _).mono ?_
    rintro e w1 ⟨rfl, hbel⟩
    have HBEL := Lib.hid (((Below.refl w.heap.size w).alloc (Nat.le_refl _) _).trans (hbel.mono (by simp)))
    clear hbel
    obtain ⟨rfl, rfl, rfl, rfl, rfl⟩ | ⟨rfl, rfl⟩ | ⟨rfl, rfl, rfl⟩ | ⟨rfl, rfl, rfl, rfl⟩ := four is p q r s t HB.out HV.out
    all_goals
      clear HV HB
      go_wp2
      go_ret
      exact ⟨rfl, HBEL.out⟩
  · go_enter Try.func4, Try.ntmps4
    go_wp2_with fail
    refine (Sum_any A n c xs _ HR.out).mono ?_
    rintro e w' ⟨rfl, rfl⟩
    go_wp2_with fail
    refine (Sum_any A k c (xs.take k) _ (HR.out.head hk)).mono ?_
    rintro e w' ⟨rfl, rfl⟩
    go_wp2_with fail
    refine (Sum_any _ (n - k) (c - k) (xs.drop k) _ (HR.out.tail hk (fun _ => rfl))).mono ?_
    rintro e w' ⟨rfl, rfl⟩
    have ha := sumV_bd (xs.take k)
    have hb := sumV_bd (xs.drop k)
    have HV := Lib.hid (split_v xs k)
    have HB := Lib.hid (split_b xs k)
    clear HR
    generalize sumV (xs.take k) = a at *
    generalize sumV (xs.drop k) = b at *
    generalize sumB (xs.take k) = p at *
    generalize sumB (xs.drop k) = q at *
    go_wp2_with fail
    refine (Sum_any _ 2 2 [a, b] _ (Row.two (w := w) a b (by omega) (by omega))).mono ?_
    rintro e w' ⟨rfl, rfl⟩
    generalize sumV [a, b] = t at *
    generalize sumB [a, b] = r at *
    generalize sumV xs = s at *
    generalize sumB xs = is at *
    go_wp2_with fail
    refine (awake_any _).mono ?_
    rintro e w1 ⟨rfl, hbel⟩
    have HBEL := Lib.hid (((Below.refl w.heap.size w).alloc (Nat.le_refl _) _).trans (hbel.mono (by simp)))
    clear hbel
    obtain ⟨rfl, rfl, rfl, rfl, rfl⟩ | ⟨rfl, rfl⟩ | ⟨rfl, rfl, rfl⟩ | ⟨rfl, rfl, rfl, rfl⟩ := four is p q r s t HB.out HV.out
    all_goals
      clear HV HB
      go_wp2
      go_ret
      exact ⟨rfl, HBEL.out⟩
theorem RateSplits_walk (A : Option Addr) (n c : Nat) (xs : List Int) (at_ : Int) (w : World) (h : In w A n c xs) (hat : -9223372036854775808 ≤ at_ ∧ at_ ≤ 9223372036854775807) :
    Calls Try.prog 4 #[.slice A n c, .int .i64 at_] w fun e w' => e = .returned (.bool true) ∧ Below w.heap.size w w' := RateSplits_core A n c xs at_ w h.1 h.2.1 hat
end Go.Proofs.Ytccahhfeibnchaa
