/-
  Contracts of Sum and Least of package rate.
-/
import Derived.Test.YtgfehlmiejnonaaMem
import Derived.Test.YtgfehlmiejnonaaJB
set_option maxRecDepth 20000
namespace Go.Proofs.Ytgfehlmiejnonaa
open Go.RowKit

end Go.Proofs.Ytgfehlmiejnonaa
