/-
  stream.fits, Value and Room, the reference's Value and Room.
-/
import Derived.Test.YtefgnaldiggnnaaFlowA
set_option maxRecDepth 20000
namespace Go.Proofs.Ytefgnaldiggnnaa
open Go.RowKit

theorem may_8 {V : Int} {L : List Lk} {n : Nat} (h : mayG V L = true) (hl : L.length = n) : n * 8 ≤ 140737488351232 ∧ n ≤ 16 := by
  have := (may_small h).2.2
  omega

def valV (V : Int) (L : List Lk) (f : List Int) (s : Int) : Value := .tuple #[.int .i64 (valX V L f s), .int .i64 (valE V L f s)]
def roomV (V : Int) (L : List Lk) (caps f : List Int) (a : Int) : Value := .tuple #[.int .i64 (roomX V L caps f a), .int .i64 (roomE V L caps f a)]

end Go.Proofs.Ytefgnaldiggnnaa
