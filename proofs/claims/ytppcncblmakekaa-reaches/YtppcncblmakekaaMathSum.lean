/-
  The sum of a list of numbers. No program here.
-/
import Derived.Test.YtppcncblmakekaaMathCaps
set_option maxRecDepth 20000
namespace Go.Proofs.Ytppcncblmakekaa

def isum : List Int → Int
  | [] => 0
  | x :: r => x + isum r

theorem isum_app (a b : List Int) : isum (a ++ b) = isum a + isum b := by
  induction a with
  | nil => simp [isum]
  | cons x r ih => simp only [List.cons_append, isum, ih]; omega
theorem isum_nonneg {xs : List Int} (h : ∀ x ∈ xs, 0 ≤ x) : 0 ≤ isum xs := by
  induction xs with
  | nil => simp [isum]
  | cons x r ih =>
    have := ih (fun y hy => h y (by simp [hy]))
    have := h x (by simp)
    simp only [isum]; omega

end Go.Proofs.Ytppcncblmakekaa
