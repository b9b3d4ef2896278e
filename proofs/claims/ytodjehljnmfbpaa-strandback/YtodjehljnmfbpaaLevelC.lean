/-
  level.heads, walked.
-/
import Derived.Test.YtodjehljnmfbpaaLevelB
set_option maxRecDepth 20000
namespace Go.Proofs.Ytodjehljnmfbpaa
open Go.RowKit

end Go.Proofs.Ytodjehljnmfbpaa
