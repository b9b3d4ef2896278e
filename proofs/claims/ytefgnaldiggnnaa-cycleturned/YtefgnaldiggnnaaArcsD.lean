/-
  Build.
-/
import Derived.Test.YtefgnaldiggnnaaArcsC
set_option maxRecDepth 20000
namespace Go.Proofs.Ytefgnaldiggnnaa
open Go.RowKit

theorem may_ok {vn n : Nat} {ls : List Lk} (hm : mayG (vn : Nat) ls = true) (hl : ls.length = n) : okI (startsA ls n (vn + 1)) ∧ okI (ordA ls n vn) ∧ okI (headsA ls (2 * n)) := by
  obtain ⟨e1, e2, e3, _⟩ := arc_yes hm
  have h1 := arcS_ok (vn : Nat) ls
  have h2 := arcO_ok (vn : Nat) ls
  have h3 := arcH_ok (vn : Nat) ls
  rw [e1, hl, Int.toNat_natCast] at h1
  rw [e2, hl, Int.toNat_natCast] at h2
  rw [e3, hl] at h3
  exact ⟨h1, h2, h3⟩

end Go.Proofs.Ytefgnaldiggnnaa
