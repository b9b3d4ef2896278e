/-
  The law LevelForms, walked.
-/
import Derived.Test.YtlpohlcmjnlbhaaLevelG
set_option maxRecDepth 20000
namespace Go.Proofs.Ytlpohlcmjnlbhaa
open Go.RowKit

theorem and_1023 (x : Int) : ∃ k : Nat, k ≤ 1023 ∧ bits .and .i64 x 1023 = (k : Int) := by
  refine ⟨(BitVec.ofInt 64 x &&& BitVec.ofInt 64 1023).toNat, ?_, ?_⟩
  · rw [BitVec.toNat_and]
    exact Nat.and_le_right
  · show IntKind.i64.wrap ((BitVec.ofInt 64 x &&& BitVec.ofInt 64 1023).toNat : Int) = _
    have : (BitVec.ofInt 64 x &&& BitVec.ofInt 64 1023).toNat ≤ 1023 := by
      rw [BitVec.toNat_and]
      exact Nat.and_le_right
    exact IntWalk.i64_in _ (by omega)

def LFormMid (w : World) (b : Nat) (u v : Value) (wx : World) : Prop :=
  ∃ (caps f : List Int) (q : Nat) (s : Int), u = .slice (some ⟨b + 1, 0, none⟩) q 3 ∧ v = .int .i64 s ∧ Row wx wx.heap.size (some ⟨b, 0, none⟩) 3 caps ∧ Row wx wx.heap.size (some ⟨b + 1, 0, none⟩) q f ∧ lvB 3 smallL caps f s = false ∧ w.grownBy wx none

theorem form_f {y : Nat} : lvB 3 smallL [5, 4, 3] [1, 1, 4 + (y : Int)] 0 = false := lvB_rates (ratesB_stop (k := 2) (by simp) (by simp [rateIn]; omega))
theorem form_s {y : Nat} : lvB 3 smallL [5, 4, 3] [1, 1, 1] (3 + (y : Int)) = false := lvB_src (isV_no1 (by omega))

theorem Own.rowW {w : World} {g n : Nat} (xs : List Int) (h : Own w g 3 (ints xs)) (hn : n = xs.length) (hl : xs.length ≤ 1000) (hok : okI xs) : Row w w.heap.size (some ⟨g, 0, none⟩) n xs := by
  subst hn
  refine ⟨rfl, by omega, hok, fun _ => ⟨g, 0, rfl, h.lt, fun i hi => ?_⟩⟩
  rw [Nat.zero_add, h.cell i, ints_get xs i hi]

end Go.Proofs.Ytlpohlcmjnlbhaa
