/-
  The law PathSimples, walked.
-/
import Derived.Test.YtmodkhcfihlhgaaPathG
namespace Go.Proofs.Ytmodkhcfihlhgaa
open Go.RowKit

end Go.Proofs.Ytmodkhcfihlhgaa
