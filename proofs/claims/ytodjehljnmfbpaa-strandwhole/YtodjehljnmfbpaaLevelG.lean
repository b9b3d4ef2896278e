/-
  What every program answers that is one: layer 10's awake.
-/
import Derived.Test.YtodjehljnmfbpaaLevelE
import Derived.Test.YtodjehljnmfbpaaBlocks
set_option maxRecDepth 20000
namespace Go.Proofs.Ytodjehljnmfbpaa
open Go.RowKit

theorem small_v {v : Int} (h : inV 3 v) : v = 0 ∨ v = 1 ∨ v = 2 := by have := h.1; have := h.2; omega

theorem lv_small1 : LvIs 3 smallL [5, 4, 3] [0, 0, 3] 0 [0, 1, 2] 0 := by
  refine .inl ⟨by decide, rfl, rfl, by decide, fun v hv => ?_, fun v hv => ?_, fun u v h => ?_, fun v hv => ?_⟩
  · rcases small_v hv with rfl | rfl | rfl <;> decide
  · rcases small_v hv with rfl | rfl | rfl <;> decide
  · obtain ⟨a, ha, rfl, rfl, hr⟩ := h
    have ha : a < 6 := ha
    rcases (show a = 0 ∨ a = 1 ∨ a = 2 ∨ a = 3 ∨ a = 4 ∨ a = 5 by omega) with rfl | rfl | rfl | rfl | rfl | rfl <;> revert hr <;> decide
  · rcases small_v hv with rfl | rfl | rfl
    · exact fun h => absurd h (by decide)
    · exact fun _ => ⟨0, ⟨0, by decide, by decide, by decide, by decide⟩, by decide⟩
    · exact fun _ => ⟨1, ⟨2, by decide, by decide, by decide, by decide⟩, by decide⟩

theorem lv_small2 : LvIs 3 smallL [5, 4, 3] [0, 0, 4] 0 [] 1000 := lev_no (by decide)

end Go.Proofs.Ytodjehljnmfbpaa
