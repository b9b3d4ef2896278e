/-
  small and awake of layer 6.
-/
import Derived.Test.YtmodkhcfihlhgaaPathF
namespace Go.Proofs.Ytmodkhcfihlhgaa
open Go.RowKit

theorem path_small : walkV 3 smallL 0 [0, 1] = [0, 1, 2] ∧ walkE 3 smallL 0 [0, 1] = 0 ∧ walkE 3 smallL 0 [1] = 601 ∧ walkE 3 smallL 0 [3] = 600 ∧ simV 3 smallL 0 [0, 1] = [0, 1] ∧ mayP 3 smallL 0 2 [0, 1] = true ∧ mayP 3 smallL 0 1 [0, 1] = false := by decide

theorem row01 (w : World) : Row (w.alloc (.cells #[.int .i64 0, .int .i64 1] 3)) (w.heap.size + 1) (some ⟨w.heap.size, 0, none⟩) 2 [0, 1] := Row.newAt [0, 1] rfl rfl rfl (by simp) (by simp)
theorem row1 (w : World) : Row (w.alloc (.cells #[.int .i64 1] 3)) (w.heap.size + 1) (some ⟨w.heap.size, 0, none⟩) 1 [1] := Row.newAt [1] rfl rfl rfl (by simp) (by simp)
theorem row3 (w : World) : Row (w.alloc (.cells #[.int .i64 3] 3)) (w.heap.size + 1) (some ⟨w.heap.size, 0, none⟩) 1 [3] := Row.newAt [3] rfl rfl rfl (by simp) (by simp)
theorem row012 (w : World) : Row (w.alloc (.cells #[.int .i64 0, .int .i64 1, .int .i64 2] 3)) (w.heap.size + 1) (some ⟨w.heap.size, 0, none⟩) 3 [0, 1, 2] := Row.newAt [0, 1, 2] rfl rfl rfl (by simp) (by simp)

end Go.Proofs.Ytmodkhcfihlhgaa
