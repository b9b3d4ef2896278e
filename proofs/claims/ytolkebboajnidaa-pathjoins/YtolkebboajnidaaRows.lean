/-
  No cell of these rows narrows 'for every input' (looked for: loops, veiled, ifaces, maps, wideKeys, modest, calm, conditions, laid).
  DERIVED. THE GIVEN ROWS OF THIS SEAT. 5 by the template 'for every input the law returns true; each argument reads behind the call as it read before'; 0 by the template 'total and deterministic' (their statements: YtolkebboajnidaaTotals.lean).
  GIVEN WITH THE SEED: the statements are not yours to turn. If you find one false, say at which input.
  Laid BY PROGRAM, IN A SANDBOX (cutbox-rows.mjs): the forced cells as the released guide's own fill.sh prints them over the translation 78a8cf610d1c0d3d… (all of the seat's roots in one cut). By AI agents, Wed Nov 11 2026. No macro, syntax, notation, axiom, sorry.
-/
import Derived.Test.YtolkebboajnidaaChecked
import GoSem.Claim
import GoSem.ClaimJoined
import GoSem.ClaimMapViews
import Derived.JoinedTies
import Derived.KernelRfl
namespace Go.Proofs.Ytolkebboajnidaa
/- THE CELL 'sum', in the pinned program and in every row, IS THE sha256 OF THE DUMP (.gsa) THAT YtolkebboajnidaaProg.lean LOADS. Nothing in Lean hashes anything: it is a label: what it is worth is what the hold of that sum in a sandbox is worth. -/
noncomputable def Try.pinned : Pinned := { name := "ytolkebboajnidaa", sum := "78a8cf610d1c0d3dee405c69e40fa692998590012f897e1b65b7cd4c1d1a5541", checked := Try.checked }
namespace Rows
def none {H : Type} : Left H := { results := [], args := [] }

/-- 'tollbarlaw6.Walks': WHATEVER THE INPUT: true; the input reads as it did. -/
def walksSpec : ChangeSpec := { name := "walks", fn := fun _ => fun
  | [d1, d2, d3, d4] => { results := [.lit (.bool true)], args := [d1, d2, d3, d4] }
  | _ => none }
def walksRow : OpenClaim := { program := "ytolkebboajnidaa", sum := "78a8cf610d1c0d3dee405c69e40fa692998590012f897e1b65b7cd4c1d1a5541", func := "tollbar/tollbarlaw6.Walks", spec := "walks", apart := false }
def WalksSaid : Prop := walksRow.holds Try.pinned (OpenSpec.ofChange walksSpec)

/-- ITS FALSE NEIGHBOUR: 'it returns false'. Refute it at one input. -/
def walksWrong : ChangeSpec := { name := "walks", fn := fun _ => fun
  | [d1, d2, d3, d4] => { results := [.lit (.bool false)], args := [d1, d2, d3, d4] }
  | _ => none }
def WalksWrongFalsely : Prop := walksRow.holds Try.pinned (OpenSpec.ofChange walksWrong)

/-- 'tollbarlaw6.PathSimples': WHATEVER THE INPUT: true; the input reads as it did. -/
def pathSimplesSpec : ChangeSpec := { name := "pathSimples", fn := fun _ => fun
  | [d1, d2, d3] => { results := [.lit (.bool true)], args := [d1, d2, d3] }
  | _ => none }
def pathSimplesRow : OpenClaim := { program := "ytolkebboajnidaa", sum := "78a8cf610d1c0d3dee405c69e40fa692998590012f897e1b65b7cd4c1d1a5541", func := "tollbar/tollbarlaw6.PathSimples", spec := "pathSimples", apart := false }
def PathSimplesSaid : Prop := pathSimplesRow.holds Try.pinned (OpenSpec.ofChange pathSimplesSpec)

/-- ITS FALSE NEIGHBOUR: 'it returns false'. Refute it at one input. -/
def pathSimplesWrong : ChangeSpec := { name := "pathSimples", fn := fun _ => fun
  | [d1, d2, d3] => { results := [.lit (.bool false)], args := [d1, d2, d3] }
  | _ => none }
def PathSimplesWrongFalsely : Prop := pathSimplesRow.holds Try.pinned (OpenSpec.ofChange pathSimplesWrong)

/-- 'tollbarlaw6.PathLoops': WHATEVER THE INPUT: true; the input reads as it did. -/
def pathLoopsSpec : ChangeSpec := { name := "pathLoops", fn := fun _ => fun
  | [d1, d2, d3] => { results := [.lit (.bool true)], args := [d1, d2, d3] }
  | _ => none }
def pathLoopsRow : OpenClaim := { program := "ytolkebboajnidaa", sum := "78a8cf610d1c0d3dee405c69e40fa692998590012f897e1b65b7cd4c1d1a5541", func := "tollbar/tollbarlaw6.PathLoops", spec := "pathLoops", apart := false }
def PathLoopsSaid : Prop := pathLoopsRow.holds Try.pinned (OpenSpec.ofChange pathLoopsSpec)

/-- ITS FALSE NEIGHBOUR: 'it returns false'. Refute it at one input. -/
def pathLoopsWrong : ChangeSpec := { name := "pathLoops", fn := fun _ => fun
  | [d1, d2, d3] => { results := [.lit (.bool false)], args := [d1, d2, d3] }
  | _ => none }
def PathLoopsWrongFalsely : Prop := pathLoopsRow.holds Try.pinned (OpenSpec.ofChange pathLoopsWrong)

/-- 'tollbarlaw6.PathJoins': WHATEVER THE INPUT: true; the input reads as it did. -/
def pathJoinsSpec : ChangeSpec := { name := "pathJoins", fn := fun _ => fun
  | [d1, d2, d3, d4] => { results := [.lit (.bool true)], args := [d1, d2, d3, d4] }
  | _ => none }
def pathJoinsRow : OpenClaim := { program := "ytolkebboajnidaa", sum := "78a8cf610d1c0d3dee405c69e40fa692998590012f897e1b65b7cd4c1d1a5541", func := "tollbar/tollbarlaw6.PathJoins", spec := "pathJoins", apart := false }
def PathJoinsSaid : Prop := pathJoinsRow.holds Try.pinned (OpenSpec.ofChange pathJoinsSpec)

/-- ITS FALSE NEIGHBOUR: 'it returns false'. Refute it at one input. -/
def pathJoinsWrong : ChangeSpec := { name := "pathJoins", fn := fun _ => fun
  | [d1, d2, d3, d4] => { results := [.lit (.bool false)], args := [d1, d2, d3, d4] }
  | _ => none }
def PathJoinsWrongFalsely : Prop := pathJoinsRow.holds Try.pinned (OpenSpec.ofChange pathJoinsWrong)

/-- 'tollbarlaw6.PathLong': WHATEVER THE INPUT: true; the input reads as it did. -/
def pathLongSpec : ChangeSpec := { name := "pathLong", fn := fun _ => fun
  | [d] => { results := [.lit (.bool true)], args := [d] }
  | _ => none }
def pathLongRow : OpenClaim := { program := "ytolkebboajnidaa", sum := "78a8cf610d1c0d3dee405c69e40fa692998590012f897e1b65b7cd4c1d1a5541", func := "tollbar/tollbarlaw6.PathLong", spec := "pathLong", apart := false }
def PathLongSaid : Prop := pathLongRow.holds Try.pinned (OpenSpec.ofChange pathLongSpec)

/-- ITS FALSE NEIGHBOUR: 'it returns false'. Refute it at one input. -/
def pathLongWrong : ChangeSpec := { name := "pathLong", fn := fun _ => fun
  | [d] => { results := [.lit (.bool false)], args := [d] }
  | _ => none }
def PathLongWrongFalsely : Prop := pathLongRow.holds Try.pinned (OpenSpec.ofChange pathLongWrong)

/- THE SECOND FORM. 'bulk': how many values and letters a reading holds, each counted each time it is reached (what is shared counts as often as it is met; a slice's spare places count too). A statement '..UptoSaid' is the law's where the arguments, and the package variables that the reading takes, are together of bulk at most 1048576: NARROWER than '..Said'. Prove '..Said' where nothing that the law and all that it calls make is longer than what came in: it says more and counts as full. Else prove '..UptoSaid'. A law counts once. -/
mutual
def uptoBulk {H : Type} : DataW H → Nat
  | .lit (.string bytes) => bytes.length + 1
  | .lit _ => 1
  | .nil => 1
  | .ptr d => uptoBulk d + 1
  | .slice elems spare => uptoBulkAll elems + uptoBulkAll spare + 1
  | .agg parts => uptoBulkAll parts + 1
  | .iface _ d => uptoBulk d + 1
  | .map entries => uptoBulkEntries entries + 1
  | .held _ => 1
def uptoBulkAll {H : Type} : List (DataW H) → Nat
  | [] => 0
  | d :: r => uptoBulk d + uptoBulkAll r
def uptoBulkEntries {H : Type} : List (Lit × DataW H) → Nat
  | [] => 0
  | x :: r => uptoBulkEntry x + uptoBulkEntries r
def uptoBulkEntry {H : Type} : Lit × DataW H → Nat
  | (.string bytes, d) => bytes.length + uptoBulk d + 1
  | (_, d) => uptoBulk d + 1
 end
def uptoSmall : (H : Type) → List (DataW H) → Bool := fun _ ds => decide (uptoBulkAll ds ≤ 1048576)
def OpenSpec.upto (s : _root_.Go.ChangeSpec) : _root_.Go.OpenSpec := { _root_.Go.OpenSpec.ofChange s with cond := some uptoSmall }

/-- 'tollbarlaw6.Walks', WHERE WHAT IT READS IS OF BULK AT MOST 1048576: true; the input reads as it did. -/
def walksUptoRow : OpenClaim := { program := "ytolkebboajnidaa", sum := "78a8cf610d1c0d3dee405c69e40fa692998590012f897e1b65b7cd4c1d1a5541", func := "tollbar/tollbarlaw6.Walks", spec := "walks", apart := false, narrowed := true }
def WalksUptoSaid : Prop := walksUptoRow.holds Try.pinned (OpenSpec.upto walksSpec)

/-- 'tollbarlaw6.PathSimples', WHERE WHAT IT READS IS OF BULK AT MOST 1048576: true; the input reads as it did. -/
def pathSimplesUptoRow : OpenClaim := { program := "ytolkebboajnidaa", sum := "78a8cf610d1c0d3dee405c69e40fa692998590012f897e1b65b7cd4c1d1a5541", func := "tollbar/tollbarlaw6.PathSimples", spec := "pathSimples", apart := false, narrowed := true }
def PathSimplesUptoSaid : Prop := pathSimplesUptoRow.holds Try.pinned (OpenSpec.upto pathSimplesSpec)

/-- 'tollbarlaw6.PathLoops', WHERE WHAT IT READS IS OF BULK AT MOST 1048576: true; the input reads as it did. -/
def pathLoopsUptoRow : OpenClaim := { program := "ytolkebboajnidaa", sum := "78a8cf610d1c0d3dee405c69e40fa692998590012f897e1b65b7cd4c1d1a5541", func := "tollbar/tollbarlaw6.PathLoops", spec := "pathLoops", apart := false, narrowed := true }
def PathLoopsUptoSaid : Prop := pathLoopsUptoRow.holds Try.pinned (OpenSpec.upto pathLoopsSpec)

/-- 'tollbarlaw6.PathJoins', WHERE WHAT IT READS IS OF BULK AT MOST 1048576: true; the input reads as it did. -/
def pathJoinsUptoRow : OpenClaim := { program := "ytolkebboajnidaa", sum := "78a8cf610d1c0d3dee405c69e40fa692998590012f897e1b65b7cd4c1d1a5541", func := "tollbar/tollbarlaw6.PathJoins", spec := "pathJoins", apart := false, narrowed := true }
def PathJoinsUptoSaid : Prop := pathJoinsUptoRow.holds Try.pinned (OpenSpec.upto pathJoinsSpec)

/-- 'tollbarlaw6.PathLong', WHERE WHAT IT READS IS OF BULK AT MOST 1048576: true; the input reads as it did. -/
def pathLongUptoRow : OpenClaim := { program := "ytolkebboajnidaa", sum := "78a8cf610d1c0d3dee405c69e40fa692998590012f897e1b65b7cd4c1d1a5541", func := "tollbar/tollbarlaw6.PathLong", spec := "pathLong", apart := false, narrowed := true }
def PathLongUptoSaid : Prop := pathLongUptoRow.holds Try.pinned (OpenSpec.upto pathLongSpec)

end Rows
end Go.Proofs.Ytolkebboajnidaa
