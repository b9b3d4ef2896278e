/-
  Contracts of the methods of Meter and Gauge.
-/
import Derived.Test.YtgfehlmiejnonaaRate
import Derived.Test.YtgfehlmiejnonaaInts
set_option maxRecDepth 20000
namespace Go.Proofs.Ytgfehlmiejnonaa
open Go.RowKit

def AddPost (w : World) (g : Nat) (T : TypeId) (t : Int) (rest : List Value) (xs : List Int) (e : Ending) (w' : World) : Prop :=
  e = .returned (.bool (addB t xs)) ∧ Own w' g T (.int .i64 (addV t xs) :: rest) ∧ w.grownBy w' (some g)

def RoomPost (top t : Int) (w : World) (e : Ending) (w' : World) : Prop := e = .returned (.int .i64 (roomOf top t)) ∧ ∃ n, w' = w.drewN n

def OwnPost (w : World) (g : Nat) (T : TypeId) (top t : Int) (xs : List Int) (e : Ending) (w' : World) : Prop :=
  e = .returned (.bool (ownB top t xs)) ∧ Own w' g T [.int .i64 (ownV top t xs), .int .i64 top] ∧ w.grownBy w' (some g)

end Go.Proofs.Ytgfehlmiejnonaa
