/-
  Contracts of the reference's Sum and of both Leasts, over the seat's translation.
-/
import Derived.Test.YtccahhfeibnchaaCon
namespace Go.Proofs.Ytccahhfeibnchaa
open Go.RowKit

set_option maxHeartbeats 400000 in
theorem RefSum_any (A : Option Addr) (n c : Nat) (xs : List Int) (w : World) {B : Nat} (h : Row w B A n xs) :
    Calls Try.prog 12 #[.slice A n c] w fun e w' => e = .returned (.tuple #[.int .i64 (sumV xs), .bool (sumB xs)]) ∧ w = w' := by
  obtain ⟨hl, hn, hok, hat⟩ := h
  have HL := Lib.hid hl
  have HOK := Lib.hid hok
  have HAT := Lib.hid hat
  clear hl hok hat
  go_enter Try.func12, Try.ntmps12
  go_wp2
  go_loop [4, 5] (fun s i => ∃ (k : Nat) (t : Int), k ≤ n ∧ i = .int .i64 k ∧ s = .int .i64 t ∧ 0 ≤ t ∧ t ≤ 4611686018427387904 ∧ Hid (sumFrom 0 xs = sumFrom t (xs.drop k))) (fun _ i => n - (intOf i).toNat)
  case atStart => exact ⟨0, 0, Nat.zero_le _, rfl, rfl, by omega, by omega, rfl⟩
  case round =>
    obtain ⟨k, t, hk, rfl, rfl, ht0, ht1, HS⟩ := hrel
    by_cases hlt : k < n
    · obtain ⟨b, off, hA, hb, hcell⟩ := HAT.out (by omega)
      subst hA
      have hc := hcell k hlt
      have hx := HOK.out k
      have hkl : k < xs.length := by rw [HL.out]; exact hlt
      have hst := sum_step t xs k hkl
      have hsp := sum_stop t xs k hkl
      have HST := Lib.hid hst
      have HSP := Lib.hid hsp
      clear hcell hst hsp
      generalize xs[k]?.getD 0 = x at *
      go_wp2
      · have hno := HSP.out ‹_›
        go_ret2
        exact ⟨ret_sum (by rw [sumV, HS.out, hno]; rfl) (by rw [sumB, HS.out, hno]; rfl), rfl⟩
      · have hyes : 0 ≤ x ∧ x ≤ 4611686018427387904 - t := ‹_›
        have hst := HST.out hyes.1 hyes.2
        go_round
        case rel => exact ⟨k + 1, t + x, by omega, by go_num, rfl, by omega, by omega, by show _ = _; rw [HS.out, hst]⟩
        case measure => simp [intOf]; omega
      · have hno := HSP.out (.inl ‹x < 0›)
        go_ret2
        exact ⟨ret_sum (by rw [sumV, HS.out, hno]; rfl) (by rw [sumB, HS.out, hno]; rfl), rfl⟩
    · go_wp2
      have hno : sumFrom 0 xs = some t := by rw [HS.out, List.drop_of_length_le (by rw [HL.out]; omega)]; rfl
      go_ret2
      exact ⟨ret_sum (by rw [sumV, hno]; rfl) (by rw [sumB, hno]; rfl), rfl⟩

theorem ret_int {k : IntKind} {a b : Int} (h : a = b) : Ending.returned (.int k a) = .returned (.int k b) := by rw [h]

set_option maxHeartbeats 400000 in
theorem Least_any (x0 : Int) (A : Option Addr) (n c : Nat) (xs : List Int) (w : World) {B : Nat} (h : Row w B A n xs) (hx0 : -9223372036854775808 ≤ x0 ∧ x0 ≤ 9223372036854775807) :
    Calls Try.prog 13 #[.int .i64 x0, .slice A n c] w fun e w' => e = .returned (.int .i64 (leastFrom x0 xs)) ∧ w = w' := by
  obtain ⟨hl, hn, hok, hat⟩ := h
  have HL := Lib.hid hl
  have HOK := Lib.hid hok
  have HAT := Lib.hid hat
  clear hl hok hat
  go_enter Try.func13, Try.ntmps13
  go_wp2
  go_loop [5, 7, 11] (fun s _ i => ∃ (k : Nat) (t : Int), k ≤ n ∧ i = .int .i64 k ∧ s = .int .i64 t ∧ -9223372036854775808 ≤ t ∧ t ≤ 9223372036854775807 ∧ Hid (leastFrom x0 xs = leastFrom t (xs.drop k))) (fun _ _ i => n - (intOf i).toNat)
  case atStart => exact ⟨0, x0, Nat.zero_le _, rfl, rfl, by omega, by omega, rfl⟩
  case round =>
    obtain ⟨k, t, hk, rfl, rfl, ht0, ht1, HS⟩ := hrel
    by_cases hlt : k < n
    · obtain ⟨b, off, hA, hb, hcell⟩ := HAT.out (by omega)
      subst hA
      have hc := hcell k hlt
      have hx := HOK.out k
      have hkl : k < xs.length := by rw [HL.out]; exact hlt
      have hst := least_step t xs k hkl
      have HST := Lib.hid hst
      clear hcell hst
      generalize xs[k]?.getD 0 = x at *
      by_cases hxt : x < t
      · go_wp2
        have hst := HST.out
        rw [if_pos hxt] at hst
        go_round
        case rel => exact ⟨k + 1, x, by omega, by go_num, rfl, by omega, by omega, by show _ = _; rw [HS.out, hst]⟩
        case measure => simp [intOf]; omega
      · go_wp2
        have hst := HST.out
        rw [if_neg hxt] at hst
        go_round
        case rel => exact ⟨k + 1, t, by omega, by go_num, rfl, by omega, by omega, by show _ = _; rw [HS.out, hst]⟩
        case measure => simp [intOf]; omega
    · go_wp2
      have hno : leastFrom x0 xs = t := by rw [HS.out, List.drop_of_length_le (by rw [HL.out]; omega)]; rfl
      go_ret
      exact ⟨ret_int hno.symm, rfl⟩

set_option maxHeartbeats 400000 in
theorem RefLeast_any (x0 : Int) (A : Option Addr) (n c : Nat) (xs : List Int) (w : World) {B : Nat} (h : Row w B A n xs) (hx0 : -9223372036854775808 ≤ x0 ∧ x0 ≤ 9223372036854775807) :
    Calls Try.prog 15 #[.int .i64 x0, .slice A n c] w fun e w' => e = .returned (.int .i64 (leastFrom x0 xs)) ∧ w = w' := by
  obtain ⟨hl, hn, hok, hat⟩ := h
  have HL := Lib.hid hl
  have HOK := Lib.hid hok
  have HAT := Lib.hid hat
  clear hl hok hat
  go_enter Try.func15, Try.ntmps15
  go_wp2
  go_loop [0, 5] (fun s i => ∃ (k : Nat) (t : Int), k ≤ n ∧ i = .int .i64 k ∧ s = .int .i64 t ∧ -9223372036854775808 ≤ t ∧ t ≤ 9223372036854775807 ∧ Hid (leastFrom x0 xs = leastFrom t (xs.drop k))) (fun _ i => n - (intOf i).toNat)
  case atStart => exact ⟨0, x0, Nat.zero_le _, rfl, rfl, by omega, by omega, rfl⟩
  case round =>
    obtain ⟨k, t, hk, rfl, rfl, ht0, ht1, HS⟩ := hrel
    by_cases hlt : k < n
    · obtain ⟨b, off, hA, hb, hcell⟩ := HAT.out (by omega)
      subst hA
      have hc := hcell k hlt
      have hx := HOK.out k
      have hkl : k < xs.length := by rw [HL.out]; exact hlt
      have hst := least_step t xs k hkl
      have HST := Lib.hid hst
      clear hcell hst
      generalize xs[k]?.getD 0 = x at *
      by_cases hxt : x < t
      · go_wp2
        have hst := HST.out
        rw [if_pos hxt] at hst
        go_round
        case rel => exact ⟨k + 1, x, by omega, by go_num, rfl, by omega, by omega, by show _ = _; rw [HS.out, hst]⟩
        case measure => simp [intOf]; omega
      · go_wp2
        have hst := HST.out
        rw [if_neg hxt] at hst
        go_round
        case rel => exact ⟨k + 1, t, by omega, by go_num, rfl, by omega, by omega, by show _ = _; rw [HS.out, hst]⟩
        case measure => simp [intOf]; omega
    · go_wp2
      have hno : leastFrom x0 xs = t := by rw [HS.out, List.drop_of_length_le (by rw [HL.out]; omega)]; rfl
      go_ret
      exact ⟨ret_int hno.symm, rfl⟩
end Go.Proofs.Ytccahhfeibnchaa
