/-
  level.heads, walked.
-/
import Derived.Test.YtefgnaldiggnnaaLevelB
set_option maxRecDepth 20000
namespace Go.Proofs.Ytefgnaldiggnnaa
open Go.RowKit

end Go.Proofs.Ytefgnaldiggnnaa
