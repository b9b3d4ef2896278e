/-
  Contracts of Sum and Least of package rate.
-/
import Derived.Test.YtlpohlcmjnlbhaaMem
import Derived.Test.YtlpohlcmjnlbhaaJA
set_option maxRecDepth 20000
namespace Go.Proofs.Ytlpohlcmjnlbhaa
open Go.RowKit

theorem Sum_any (A : Option Addr) (n c : Nat) (xs : List Int) (w : World) {B : Nat} (h : Row w B A n xs) :
    Calls Try.prog 66 #[.slice A n c] w fun e w' => e = .returned (.tuple #[.int .i64 (sumV xs), .bool (sumB xs)]) ∧ w = w' := by
  obtain ⟨hl, hn, hok, hat⟩ := h
  have HL := Lib.hid hl
  have HOK := Lib.hid hok
  have HAT := Lib.hid hat
  clear hl hok hat
  go_enter Try.func66, Try.ntmps66
  go_wp2
  go_loop [4, 6, 9] (fun s _ i => ∃ (k : Nat) (t : Int), k ≤ n ∧ i = .int .i64 k ∧ s = .int .i64 t ∧ 0 ≤ t ∧ t ≤ 4611686018427387904 ∧ Hid (sumFrom 0 xs = sumFrom t (xs.drop k))) (fun _ _ i => n - (intOf i).toNat)
  case atStart => exact ⟨0, 0, Nat.zero_le _, rfl, rfl, by omega, by omega, rfl⟩
  case round =>
    obtain ⟨k, t, hk, rfl, rfl, ht0, ht1, HS⟩ := hrel
    by_cases hlt : k < n
    · obtain ⟨b, off, hA, hb, hcell⟩ := HAT.out (by omega)
      subst hA
      have hc := hcell k hlt
      have hx := HOK.out k
      have hkl : k < xs.length := by rw [HL.out]; exact hlt
      have hst := sum_step t xs k hkl
      have hsp := sum_stop t xs k hkl
      have HST := Lib.hid hst
      have HSP := Lib.hid hsp
      clear hcell hst hsp
      generalize xs[k]?.getD 0 = x at *
      go_wp2
      · have hno := HSP.out ‹_›
        go_ret2
        exact ⟨ret_sum (by rw [sumV, HS.out, hno]; rfl) (by rw [sumB, HS.out, hno]; rfl), rfl⟩
      · have hyes : 0 ≤ x ∧ x ≤ 4611686018427387904 - t := ‹_›
        have hst := HST.out hyes.1 hyes.2
        go_round
        case rel => exact ⟨k + 1, t + x, by omega, by go_num, rfl, by omega, by omega, by show _ = _; rw [HS.out, hst]⟩
        case measure => simp [intOf]; omega
      · have hno := HSP.out (.inl ‹x < 0›)
        go_ret2
        exact ⟨ret_sum (by rw [sumV, HS.out, hno]; rfl) (by rw [sumB, HS.out, hno]; rfl), rfl⟩
    · go_wp2
      have hno : sumFrom 0 xs = some t := by rw [HS.out, List.drop_of_length_le (by rw [HL.out]; omega)]; rfl
      go_ret2
      exact ⟨ret_sum (by rw [sumV, hno]; rfl) (by rw [sumB, hno]; rfl), rfl⟩

end Go.Proofs.Ytlpohlcmjnlbhaa
