/-
  What Find and Cancel tell.
-/
import Derived.Test.YtlpohlcmjnlbhaaCycB
set_option maxRecDepth 20000
namespace Go.Proofs.Ytlpohlcmjnlbhaa
open Go.RowKit

def FindPost (w : World) (V : Int) (L : List Lk) (f : List Int) (e : Ending) (w' : World) : Prop :=
  ∃ ls is z, FindIs V L f ls is z ∧ ∃ v, e = .returned (.tuple #[v, .bool is, .int .i64 z]) ∧ Mine w' w.heap.size v ls.length ls ∧ w.grownBy w' none

def CancelPost (w : World) (V : Int) (L : List Lk) (f : List Int) (e : Ending) (w' : World) : Prop :=
  ∃ b z, CancelIs V L f b z ∧ ∃ v, e = .returned (.tuple #[v, .int .i64 z]) ∧ Mine w' w.heap.size v b.length b ∧ w.grownBy w' none

end Go.Proofs.Ytlpohlcmjnlbhaa
