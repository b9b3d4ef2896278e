/-
  The walk of the law RateSums: it answers true and changes nothing that was there.
-/
import Derived.Test.YtccahhfeibnchaaLend
namespace Go.Proofs.Ytccahhfeibnchaa
open Go.RowKit

set_option maxHeartbeats 800000 in
theorem RateSums_walk (A : Option Addr) (n c : Nat) (xs : List Int) (x : Int) (w : World) (h : In w A n c xs) (hx : -9223372036854775808 ≤ x ∧ x ≤ 9223372036854775807) :
    Calls Try.prog 3 #[.slice A n c, .int .i64 x] w fun e w' => e = .returned (.bool true) ∧ Below w.heap.size w w' := by
  obtain ⟨hr, hnc, hreach, hnil⟩ := h
  have HR := Lib.hid hr
  have HNIL := Lib.hid hnil
  clear hr hnil
  go_enter Try.func3, Try.ntmps3
  go_wp2_with fail
  refine (LendInts_any A n c xs _ HR.out (Nat.le_refl _) HNIL.out (by omega)).mono ?_
  rintro e w1 ⟨g, c1, rfl, hc1, hlent, hb⟩
  have hhead : Row w1 w1.heap.size (some ⟨g, 0, none⟩) n xs := by
    have := hlent.head (k := n) (by omega)
    rw [List.take_left' HR.out.len] at this
    exact this
  have HLENT := Lib.hid hlent
  have HHEAD := Lib.hid hhead
  have HB := Lib.hid hb
  have HR1 := Lib.hid (HR.out.below hb)
  clear hlent hhead hb
  go_wp2_with fail
  refine (Sum_any _ n c1 xs _ HHEAD.out).mono ?_
  rintro e w2 ⟨rfl, rfl⟩
  go_wp2_with fail
  refine (RefSum_any A n c xs _ HR1.out).mono ?_
  rintro e w2 ⟨rfl, rfl⟩
  go_wp2_with fail
  refine (Least_any x _ n c1 xs _ HHEAD.out hx).mono ?_
  rintro e w2 ⟨rfl, rfl⟩
  go_wp2_with fail
  refine (awake_any _).mono ?_
  rintro e w2 ⟨rfl, hb2⟩
  have HB2 := Lib.hid (HB.out.trans (hb2.mono HB.out.size))
  have HLENT2 := Lib.hid (HLENT.out.below hb2)
  have HR2 := Lib.hid (HR.out.below HB2.out)
  clear hb2
  have e1 : (sumV xs == sumV xs) = true := by simp
  have e2 : (sumB xs == sumB xs) = true := by simp
  go_wp2_with fail
  refine (RefLeast_any x A n c xs _ HR2.out hx).mono ?_
  rintro e w3 ⟨rfl, rfl⟩
  go_wp2_with fail
  refine (KeptInts_any g n c1 xs A c _ HLENT2.out HR.out.len hc1 HR2.out).mono ?_
  rintro e w3 ⟨rfl, j, rfl⟩
  go_wp2
  go_ret
  exact ⟨rfl, below_drewN HB2.out _⟩
end Go.Proofs.Ytccahhfeibnchaa
