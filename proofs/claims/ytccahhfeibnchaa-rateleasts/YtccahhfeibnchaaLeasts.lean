/-
  The walk of the law RateLeasts: it answers true and changes nothing that was there.
-/
import Derived.Test.YtccahhfeibnchaaFrame
namespace Go.Proofs.Ytccahhfeibnchaa
open Go.RowKit

set_option maxHeartbeats 800000 in
theorem RateLeasts_core (x0 : Int) (A : Option Addr) (n c : Nat) (xs : List Int) (w : World) (hx0 : -9223372036854775808 ≤ x0 ∧ x0 ≤ 9223372036854775807) {B : Nat} (h : Row w B A n xs) :
    Calls Try.prog 5 #[.int .i64 x0, .slice A n c] w fun e w' => e = .returned (.bool true) ∧ Below w.heap.size w w' := by
  have HR := Lib.hid h
  have hn := h.small
  have hlow := least_le xs x0
  have hbd := least_bd xs x0 hx0 h.ok
  have hle := hlow.1
  have HLOW := Lib.hid hlow.2
  have HALL := Lib.hid (seen_all x0 xs)
  have HSTEP := Lib.hid (seen_step (leastFrom x0 xs) x0 xs)
  have H0 : Hid ((leastFrom x0 xs == x0) = seenB (leastFrom x0 xs) x0 xs 0) := by show _ = _; simp [seenB]
  clear h hlow
  go_enter Try.func5, Try.ntmps5
  go_wp2_with fail
  refine (Least_any x0 A n c xs _ HR.out hx0).mono ?_
  rintro e w' ⟨rfl, rfl⟩
  generalize leastFrom x0 xs = low at *
  go_wp2
  go_loop [6, 7] (fun o i => ∃ k : Nat, k ≤ n ∧ i = .int .i64 k ∧ o = .bool (seenB low x0 xs k)) (fun _ i => n - (intOf i).toNat)
  case atStart => exact ⟨0, Nat.zero_le _, rfl, by rw [← H0.out]⟩
  case round =>
    obtain ⟨k, hk, rfl, rfl⟩ := hrel
    by_cases hlt : k < n
    · obtain ⟨b, off, hA, hb, hcell⟩ := HR.out.at_ (by omega)
      subst hA
      have hc := hcell k hlt
      have hkl : k < xs.length := by rw [HR.out.len]; exact hlt
      have hx := HR.out.ok k
      have hge := HLOW.out _ (get_mem xs k hkl)
      have HST := Lib.hid (HSTEP.out k hkl)
      clear hcell
      generalize xs[k]?.getD 0 = x at *
      have hge' : ¬ x < low := by omega
      cases hs : seenB low x0 xs k with
      | true =>
        have HS := Lib.hid hs
        clear hs
        go_wp2
        go_round
        case rel => exact ⟨k + 1, by omega, by go_num, by rw [HST.out, HS.out]; rfl⟩
        case measure => simp [intOf]; omega
      | false =>
        have HS := Lib.hid hs
        clear hs
        go_wp2
        go_round
        case rel => exact ⟨k + 1, by omega, by go_num, by rw [HST.out, HS.out]; rfl⟩
        case measure => simp [intOf]; omega
    · have he := HALL.out k (by rw [HR.out.len]; omega)
      have HE := Lib.hid he
      clear he
      rw [HE.out]
      go_wp2_with fail
      refine (awake_any _).mono ?_
      rintro e w' ⟨rfl, hb⟩
      have HB := Lib.hid hb
      clear hb
      go_wp2
      go_ret
      exact ⟨rfl, HB.out⟩
theorem RateLeasts_walk (x0 : Int) (A : Option Addr) (n c : Nat) (xs : List Int) (w : World) (hx0 : -9223372036854775808 ≤ x0 ∧ x0 ≤ 9223372036854775807) (h : In w A n c xs) :
    Calls Try.prog 5 #[.int .i64 x0, .slice A n c] w fun e w' => e = .returned (.bool true) ∧ Below w.heap.size w w' := RateLeasts_core x0 A n c xs w hx0 h.1
end Go.Proofs.Ytccahhfeibnchaa
