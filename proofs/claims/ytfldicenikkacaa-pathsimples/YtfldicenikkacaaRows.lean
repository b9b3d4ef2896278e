/-
  No cell of these rows narrows 'for every input' (looked for: loops, veiled, ifaces, maps, wideKeys, modest, calm, conditions, laid).
  DERIVED. THE GIVEN ROWS OF THIS SEAT. 12 by the template 'for every input the law returns true; each argument reads behind the call as it read before'; 0 by the template 'total and deterministic' (their statements: YtfldicenikkacaaTotals.lean).
  GIVEN WITH THE SEED: the statements are not yours to turn. If you find one false, say at which input.
  Laid BY PROGRAM, IN A SANDBOX (cutbox-rows.mjs): the forced cells as the released guide's own fill.sh prints them over the translation 3ad75fcca8ec5f5d… (all of the seat's roots in one cut). By AI agents, Wed Nov 11 2026. No macro, syntax, notation, axiom, sorry.
-/
import Derived.Test.YtfldicenikkacaaChecked
import GoSem.Claim
import GoSem.ClaimJoined
import GoSem.ClaimMapViews
import Derived.JoinedTies
import Derived.KernelRfl
namespace Go.Proofs.Ytfldicenikkacaa
/- THE CELL 'sum', in the pinned program and in every row, IS THE sha256 OF THE DUMP (.gsa) THAT YtfldicenikkacaaProg.lean LOADS. Nothing in Lean hashes anything: it is a label: what it is worth is what the hold of that sum in a sandbox is worth. -/
noncomputable def Try.pinned : Pinned := { name := "ytfldicenikkacaa", sum := "3ad75fcca8ec5f5d8a258e91763c7a8a25ab7ef91ec802d7c78149d0577cfc70", checked := Try.checked }
namespace Rows
def none {H : Type} : Left H := { results := [], args := [] }

/-- 'tollbarlaw4.Graphs': WHATEVER THE INPUT: true; the input reads as it did. -/
def graphsSpec : ChangeSpec := { name := "graphs", fn := fun _ => fun
  | [d1, d2] => { results := [.lit (.bool true)], args := [d1, d2] }
  | _ => none }
def graphsRow : OpenClaim := { program := "ytfldicenikkacaa", sum := "3ad75fcca8ec5f5d8a258e91763c7a8a25ab7ef91ec802d7c78149d0577cfc70", func := "tollbar/tollbarlaw4.Graphs", spec := "graphs", apart := false }
def GraphsSaid : Prop := graphsRow.holds Try.pinned (OpenSpec.ofChange graphsSpec)

/-- ITS FALSE NEIGHBOUR: 'it returns false'. Refute it at one input. -/
def graphsWrong : ChangeSpec := { name := "graphs", fn := fun _ => fun
  | [d1, d2] => { results := [.lit (.bool false)], args := [d1, d2] }
  | _ => none }
def GraphsWrongFalsely : Prop := graphsRow.holds Try.pinned (OpenSpec.ofChange graphsWrong)

/-- 'tollbarlaw4.GraphForms': WHATEVER THE INPUT: true; the input reads as it did. -/
def graphFormsSpec : ChangeSpec := { name := "graphForms", fn := fun _ => fun
  | [d] => { results := [.lit (.bool true)], args := [d] }
  | _ => none }
def graphFormsRow : OpenClaim := { program := "ytfldicenikkacaa", sum := "3ad75fcca8ec5f5d8a258e91763c7a8a25ab7ef91ec802d7c78149d0577cfc70", func := "tollbar/tollbarlaw4.GraphForms", spec := "graphForms", apart := false }
def GraphFormsSaid : Prop := graphFormsRow.holds Try.pinned (OpenSpec.ofChange graphFormsSpec)

/-- ITS FALSE NEIGHBOUR: 'it returns false'. Refute it at one input. -/
def graphFormsWrong : ChangeSpec := { name := "graphForms", fn := fun _ => fun
  | [d] => { results := [.lit (.bool false)], args := [d] }
  | _ => none }
def GraphFormsWrongFalsely : Prop := graphFormsRow.holds Try.pinned (OpenSpec.ofChange graphFormsWrong)

/-- 'tollbarlaw5.ArcsBuilds': WHATEVER THE INPUT: true; the input reads as it did. -/
def arcsBuildsSpec : ChangeSpec := { name := "arcsBuilds", fn := fun _ => fun
  | [d1, d2] => { results := [.lit (.bool true)], args := [d1, d2] }
  | _ => none }
def arcsBuildsRow : OpenClaim := { program := "ytfldicenikkacaa", sum := "3ad75fcca8ec5f5d8a258e91763c7a8a25ab7ef91ec802d7c78149d0577cfc70", func := "tollbar/tollbarlaw5.ArcsBuilds", spec := "arcsBuilds", apart := false }
def ArcsBuildsSaid : Prop := arcsBuildsRow.holds Try.pinned (OpenSpec.ofChange arcsBuildsSpec)

/-- ITS FALSE NEIGHBOUR: 'it returns false'. Refute it at one input. -/
def arcsBuildsWrong : ChangeSpec := { name := "arcsBuilds", fn := fun _ => fun
  | [d1, d2] => { results := [.lit (.bool false)], args := [d1, d2] }
  | _ => none }
def ArcsBuildsWrongFalsely : Prop := arcsBuildsRow.holds Try.pinned (OpenSpec.ofChange arcsBuildsWrong)

/-- 'tollbarlaw5.ArcsRows': WHATEVER THE INPUT: true; the input reads as it did. -/
def arcsRowsSpec : ChangeSpec := { name := "arcsRows", fn := fun _ => fun
  | [d] => { results := [.lit (.bool true)], args := [d] }
  | _ => none }
def arcsRowsRow : OpenClaim := { program := "ytfldicenikkacaa", sum := "3ad75fcca8ec5f5d8a258e91763c7a8a25ab7ef91ec802d7c78149d0577cfc70", func := "tollbar/tollbarlaw5.ArcsRows", spec := "arcsRows", apart := false }
def ArcsRowsSaid : Prop := arcsRowsRow.holds Try.pinned (OpenSpec.ofChange arcsRowsSpec)

/-- ITS FALSE NEIGHBOUR: 'it returns false'. Refute it at one input. -/
def arcsRowsWrong : ChangeSpec := { name := "arcsRows", fn := fun _ => fun
  | [d] => { results := [.lit (.bool false)], args := [d] }
  | _ => none }
def ArcsRowsWrongFalsely : Prop := arcsRowsRow.holds Try.pinned (OpenSpec.ofChange arcsRowsWrong)

/-- 'tollbarlaw5.ArcsPairs': WHATEVER THE INPUT: true; the input reads as it did. -/
def arcsPairsSpec : ChangeSpec := { name := "arcsPairs", fn := fun _ => fun
  | [d] => { results := [.lit (.bool true)], args := [d] }
  | _ => none }
def arcsPairsRow : OpenClaim := { program := "ytfldicenikkacaa", sum := "3ad75fcca8ec5f5d8a258e91763c7a8a25ab7ef91ec802d7c78149d0577cfc70", func := "tollbar/tollbarlaw5.ArcsPairs", spec := "arcsPairs", apart := false }
def ArcsPairsSaid : Prop := arcsPairsRow.holds Try.pinned (OpenSpec.ofChange arcsPairsSpec)

/-- ITS FALSE NEIGHBOUR: 'it returns false'. Refute it at one input. -/
def arcsPairsWrong : ChangeSpec := { name := "arcsPairs", fn := fun _ => fun
  | [d] => { results := [.lit (.bool false)], args := [d] }
  | _ => none }
def ArcsPairsWrongFalsely : Prop := arcsPairsRow.holds Try.pinned (OpenSpec.ofChange arcsPairsWrong)

/-- 'tollbarlaw5.ArcsTurned': WHATEVER THE INPUT: true; the input reads as it did. -/
def arcsTurnedSpec : ChangeSpec := { name := "arcsTurned", fn := fun _ => fun
  | [d] => { results := [.lit (.bool true)], args := [d] }
  | _ => none }
def arcsTurnedRow : OpenClaim := { program := "ytfldicenikkacaa", sum := "3ad75fcca8ec5f5d8a258e91763c7a8a25ab7ef91ec802d7c78149d0577cfc70", func := "tollbar/tollbarlaw5.ArcsTurned", spec := "arcsTurned", apart := false }
def ArcsTurnedSaid : Prop := arcsTurnedRow.holds Try.pinned (OpenSpec.ofChange arcsTurnedSpec)

/-- ITS FALSE NEIGHBOUR: 'it returns false'. Refute it at one input. -/
def arcsTurnedWrong : ChangeSpec := { name := "arcsTurned", fn := fun _ => fun
  | [d] => { results := [.lit (.bool false)], args := [d] }
  | _ => none }
def ArcsTurnedWrongFalsely : Prop := arcsTurnedRow.holds Try.pinned (OpenSpec.ofChange arcsTurnedWrong)

/-- 'tollbarlaw5.ArcsForms': WHATEVER THE INPUT: true; the input reads as it did. -/
def arcsFormsSpec : ChangeSpec := { name := "arcsForms", fn := fun _ => fun
  | [d1, d2] => { results := [.lit (.bool true)], args := [d1, d2] }
  | _ => none }
def arcsFormsRow : OpenClaim := { program := "ytfldicenikkacaa", sum := "3ad75fcca8ec5f5d8a258e91763c7a8a25ab7ef91ec802d7c78149d0577cfc70", func := "tollbar/tollbarlaw5.ArcsForms", spec := "arcsForms", apart := false }
def ArcsFormsSaid : Prop := arcsFormsRow.holds Try.pinned (OpenSpec.ofChange arcsFormsSpec)

/-- ITS FALSE NEIGHBOUR: 'it returns false'. Refute it at one input. -/
def arcsFormsWrong : ChangeSpec := { name := "arcsForms", fn := fun _ => fun
  | [d1, d2] => { results := [.lit (.bool false)], args := [d1, d2] }
  | _ => none }
def ArcsFormsWrongFalsely : Prop := arcsFormsRow.holds Try.pinned (OpenSpec.ofChange arcsFormsWrong)

/-- 'tollbarlaw6.Walks': WHATEVER THE INPUT: true; the input reads as it did. -/
def walksSpec : ChangeSpec := { name := "walks", fn := fun _ => fun
  | [d1, d2, d3, d4] => { results := [.lit (.bool true)], args := [d1, d2, d3, d4] }
  | _ => none }
def walksRow : OpenClaim := { program := "ytfldicenikkacaa", sum := "3ad75fcca8ec5f5d8a258e91763c7a8a25ab7ef91ec802d7c78149d0577cfc70", func := "tollbar/tollbarlaw6.Walks", spec := "walks", apart := false }
def WalksSaid : Prop := walksRow.holds Try.pinned (OpenSpec.ofChange walksSpec)

/-- ITS FALSE NEIGHBOUR: 'it returns false'. Refute it at one input. -/
def walksWrong : ChangeSpec := { name := "walks", fn := fun _ => fun
  | [d1, d2, d3, d4] => { results := [.lit (.bool false)], args := [d1, d2, d3, d4] }
  | _ => none }
def WalksWrongFalsely : Prop := walksRow.holds Try.pinned (OpenSpec.ofChange walksWrong)

/-- 'tollbarlaw6.PathSimples': WHATEVER THE INPUT: true; the input reads as it did. -/
def pathSimplesSpec : ChangeSpec := { name := "pathSimples", fn := fun _ => fun
  | [d1, d2, d3] => { results := [.lit (.bool true)], args := [d1, d2, d3] }
  | _ => none }
def pathSimplesRow : OpenClaim := { program := "ytfldicenikkacaa", sum := "3ad75fcca8ec5f5d8a258e91763c7a8a25ab7ef91ec802d7c78149d0577cfc70", func := "tollbar/tollbarlaw6.PathSimples", spec := "pathSimples", apart := false }
def PathSimplesSaid : Prop := pathSimplesRow.holds Try.pinned (OpenSpec.ofChange pathSimplesSpec)

/-- ITS FALSE NEIGHBOUR: 'it returns false'. Refute it at one input. -/
def pathSimplesWrong : ChangeSpec := { name := "pathSimples", fn := fun _ => fun
  | [d1, d2, d3] => { results := [.lit (.bool false)], args := [d1, d2, d3] }
  | _ => none }
def PathSimplesWrongFalsely : Prop := pathSimplesRow.holds Try.pinned (OpenSpec.ofChange pathSimplesWrong)

/-- 'tollbarlaw6.PathLoops': WHATEVER THE INPUT: true; the input reads as it did. -/
def pathLoopsSpec : ChangeSpec := { name := "pathLoops", fn := fun _ => fun
  | [d1, d2, d3] => { results := [.lit (.bool true)], args := [d1, d2, d3] }
  | _ => none }
def pathLoopsRow : OpenClaim := { program := "ytfldicenikkacaa", sum := "3ad75fcca8ec5f5d8a258e91763c7a8a25ab7ef91ec802d7c78149d0577cfc70", func := "tollbar/tollbarlaw6.PathLoops", spec := "pathLoops", apart := false }
def PathLoopsSaid : Prop := pathLoopsRow.holds Try.pinned (OpenSpec.ofChange pathLoopsSpec)

/-- ITS FALSE NEIGHBOUR: 'it returns false'. Refute it at one input. -/
def pathLoopsWrong : ChangeSpec := { name := "pathLoops", fn := fun _ => fun
  | [d1, d2, d3] => { results := [.lit (.bool false)], args := [d1, d2, d3] }
  | _ => none }
def PathLoopsWrongFalsely : Prop := pathLoopsRow.holds Try.pinned (OpenSpec.ofChange pathLoopsWrong)

/-- 'tollbarlaw6.PathJoins': WHATEVER THE INPUT: true; the input reads as it did. -/
def pathJoinsSpec : ChangeSpec := { name := "pathJoins", fn := fun _ => fun
  | [d1, d2, d3, d4] => { results := [.lit (.bool true)], args := [d1, d2, d3, d4] }
  | _ => none }
def pathJoinsRow : OpenClaim := { program := "ytfldicenikkacaa", sum := "3ad75fcca8ec5f5d8a258e91763c7a8a25ab7ef91ec802d7c78149d0577cfc70", func := "tollbar/tollbarlaw6.PathJoins", spec := "pathJoins", apart := false }
def PathJoinsSaid : Prop := pathJoinsRow.holds Try.pinned (OpenSpec.ofChange pathJoinsSpec)

/-- ITS FALSE NEIGHBOUR: 'it returns false'. Refute it at one input. -/
def pathJoinsWrong : ChangeSpec := { name := "pathJoins", fn := fun _ => fun
  | [d1, d2, d3, d4] => { results := [.lit (.bool false)], args := [d1, d2, d3, d4] }
  | _ => none }
def PathJoinsWrongFalsely : Prop := pathJoinsRow.holds Try.pinned (OpenSpec.ofChange pathJoinsWrong)

/-- 'tollbarlaw6.PathLong': WHATEVER THE INPUT: true; the input reads as it did. -/
def pathLongSpec : ChangeSpec := { name := "pathLong", fn := fun _ => fun
  | [d] => { results := [.lit (.bool true)], args := [d] }
  | _ => none }
def pathLongRow : OpenClaim := { program := "ytfldicenikkacaa", sum := "3ad75fcca8ec5f5d8a258e91763c7a8a25ab7ef91ec802d7c78149d0577cfc70", func := "tollbar/tollbarlaw6.PathLong", spec := "pathLong", apart := false }
def PathLongSaid : Prop := pathLongRow.holds Try.pinned (OpenSpec.ofChange pathLongSpec)

/-- ITS FALSE NEIGHBOUR: 'it returns false'. Refute it at one input. -/
def pathLongWrong : ChangeSpec := { name := "pathLong", fn := fun _ => fun
  | [d] => { results := [.lit (.bool false)], args := [d] }
  | _ => none }
def PathLongWrongFalsely : Prop := pathLongRow.holds Try.pinned (OpenSpec.ofChange pathLongWrong)

/- THE SECOND FORM. 'bulk': how many values and letters a reading holds, each counted each time it is reached (what is shared counts as often as it is met; a slice's spare places count too). A statement '..UptoSaid' is the law's where the arguments, and the package variables that the reading takes, are together of bulk at most 1048576: NARROWER than '..Said'. Prove '..Said' where nothing that the law and all that it calls make is longer than what came in: it says more and counts as full. Else prove '..UptoSaid'. A law counts once. -/
mutual
def uptoBulk {H : Type} : DataW H → Nat
  | .lit (.string bytes) => bytes.length + 1
  | .lit _ => 1
  | .nil => 1
  | .ptr d => uptoBulk d + 1
  | .slice elems spare => uptoBulkAll elems + uptoBulkAll spare + 1
  | .agg parts => uptoBulkAll parts + 1
  | .iface _ d => uptoBulk d + 1
  | .map entries => uptoBulkEntries entries + 1
  | .held _ => 1
def uptoBulkAll {H : Type} : List (DataW H) → Nat
  | [] => 0
  | d :: r => uptoBulk d + uptoBulkAll r
def uptoBulkEntries {H : Type} : List (Lit × DataW H) → Nat
  | [] => 0
  | x :: r => uptoBulkEntry x + uptoBulkEntries r
def uptoBulkEntry {H : Type} : Lit × DataW H → Nat
  | (.string bytes, d) => bytes.length + uptoBulk d + 1
  | (_, d) => uptoBulk d + 1
 end
def uptoSmall : (H : Type) → List (DataW H) → Bool := fun _ ds => decide (uptoBulkAll ds ≤ 1048576)
def OpenSpec.upto (s : _root_.Go.ChangeSpec) : _root_.Go.OpenSpec := { _root_.Go.OpenSpec.ofChange s with cond := some uptoSmall }

/-- 'tollbarlaw4.Graphs', WHERE WHAT IT READS IS OF BULK AT MOST 1048576: true; the input reads as it did. -/
def graphsUptoRow : OpenClaim := { program := "ytfldicenikkacaa", sum := "3ad75fcca8ec5f5d8a258e91763c7a8a25ab7ef91ec802d7c78149d0577cfc70", func := "tollbar/tollbarlaw4.Graphs", spec := "graphs", apart := false, narrowed := true }
def GraphsUptoSaid : Prop := graphsUptoRow.holds Try.pinned (OpenSpec.upto graphsSpec)

/-- 'tollbarlaw4.GraphForms', WHERE WHAT IT READS IS OF BULK AT MOST 1048576: true; the input reads as it did. -/
def graphFormsUptoRow : OpenClaim := { program := "ytfldicenikkacaa", sum := "3ad75fcca8ec5f5d8a258e91763c7a8a25ab7ef91ec802d7c78149d0577cfc70", func := "tollbar/tollbarlaw4.GraphForms", spec := "graphForms", apart := false, narrowed := true }
def GraphFormsUptoSaid : Prop := graphFormsUptoRow.holds Try.pinned (OpenSpec.upto graphFormsSpec)

/-- 'tollbarlaw5.ArcsBuilds', WHERE WHAT IT READS IS OF BULK AT MOST 1048576: true; the input reads as it did. -/
def arcsBuildsUptoRow : OpenClaim := { program := "ytfldicenikkacaa", sum := "3ad75fcca8ec5f5d8a258e91763c7a8a25ab7ef91ec802d7c78149d0577cfc70", func := "tollbar/tollbarlaw5.ArcsBuilds", spec := "arcsBuilds", apart := false, narrowed := true }
def ArcsBuildsUptoSaid : Prop := arcsBuildsUptoRow.holds Try.pinned (OpenSpec.upto arcsBuildsSpec)

/-- 'tollbarlaw5.ArcsRows', WHERE WHAT IT READS IS OF BULK AT MOST 1048576: true; the input reads as it did. -/
def arcsRowsUptoRow : OpenClaim := { program := "ytfldicenikkacaa", sum := "3ad75fcca8ec5f5d8a258e91763c7a8a25ab7ef91ec802d7c78149d0577cfc70", func := "tollbar/tollbarlaw5.ArcsRows", spec := "arcsRows", apart := false, narrowed := true }
def ArcsRowsUptoSaid : Prop := arcsRowsUptoRow.holds Try.pinned (OpenSpec.upto arcsRowsSpec)

/-- 'tollbarlaw5.ArcsPairs', WHERE WHAT IT READS IS OF BULK AT MOST 1048576: true; the input reads as it did. -/
def arcsPairsUptoRow : OpenClaim := { program := "ytfldicenikkacaa", sum := "3ad75fcca8ec5f5d8a258e91763c7a8a25ab7ef91ec802d7c78149d0577cfc70", func := "tollbar/tollbarlaw5.ArcsPairs", spec := "arcsPairs", apart := false, narrowed := true }
def ArcsPairsUptoSaid : Prop := arcsPairsUptoRow.holds Try.pinned (OpenSpec.upto arcsPairsSpec)

/-- 'tollbarlaw5.ArcsTurned', WHERE WHAT IT READS IS OF BULK AT MOST 1048576: true; the input reads as it did. -/
def arcsTurnedUptoRow : OpenClaim := { program := "ytfldicenikkacaa", sum := "3ad75fcca8ec5f5d8a258e91763c7a8a25ab7ef91ec802d7c78149d0577cfc70", func := "tollbar/tollbarlaw5.ArcsTurned", spec := "arcsTurned", apart := false, narrowed := true }
def ArcsTurnedUptoSaid : Prop := arcsTurnedUptoRow.holds Try.pinned (OpenSpec.upto arcsTurnedSpec)

/-- 'tollbarlaw5.ArcsForms', WHERE WHAT IT READS IS OF BULK AT MOST 1048576: true; the input reads as it did. -/
def arcsFormsUptoRow : OpenClaim := { program := "ytfldicenikkacaa", sum := "3ad75fcca8ec5f5d8a258e91763c7a8a25ab7ef91ec802d7c78149d0577cfc70", func := "tollbar/tollbarlaw5.ArcsForms", spec := "arcsForms", apart := false, narrowed := true }
def ArcsFormsUptoSaid : Prop := arcsFormsUptoRow.holds Try.pinned (OpenSpec.upto arcsFormsSpec)

/-- 'tollbarlaw6.Walks', WHERE WHAT IT READS IS OF BULK AT MOST 1048576: true; the input reads as it did. -/
def walksUptoRow : OpenClaim := { program := "ytfldicenikkacaa", sum := "3ad75fcca8ec5f5d8a258e91763c7a8a25ab7ef91ec802d7c78149d0577cfc70", func := "tollbar/tollbarlaw6.Walks", spec := "walks", apart := false, narrowed := true }
def WalksUptoSaid : Prop := walksUptoRow.holds Try.pinned (OpenSpec.upto walksSpec)

/-- 'tollbarlaw6.PathSimples', WHERE WHAT IT READS IS OF BULK AT MOST 1048576: true; the input reads as it did. -/
def pathSimplesUptoRow : OpenClaim := { program := "ytfldicenikkacaa", sum := "3ad75fcca8ec5f5d8a258e91763c7a8a25ab7ef91ec802d7c78149d0577cfc70", func := "tollbar/tollbarlaw6.PathSimples", spec := "pathSimples", apart := false, narrowed := true }
def PathSimplesUptoSaid : Prop := pathSimplesUptoRow.holds Try.pinned (OpenSpec.upto pathSimplesSpec)

/-- 'tollbarlaw6.PathLoops', WHERE WHAT IT READS IS OF BULK AT MOST 1048576: true; the input reads as it did. -/
def pathLoopsUptoRow : OpenClaim := { program := "ytfldicenikkacaa", sum := "3ad75fcca8ec5f5d8a258e91763c7a8a25ab7ef91ec802d7c78149d0577cfc70", func := "tollbar/tollbarlaw6.PathLoops", spec := "pathLoops", apart := false, narrowed := true }
def PathLoopsUptoSaid : Prop := pathLoopsUptoRow.holds Try.pinned (OpenSpec.upto pathLoopsSpec)

/-- 'tollbarlaw6.PathJoins', WHERE WHAT IT READS IS OF BULK AT MOST 1048576: true; the input reads as it did. -/
def pathJoinsUptoRow : OpenClaim := { program := "ytfldicenikkacaa", sum := "3ad75fcca8ec5f5d8a258e91763c7a8a25ab7ef91ec802d7c78149d0577cfc70", func := "tollbar/tollbarlaw6.PathJoins", spec := "pathJoins", apart := false, narrowed := true }
def PathJoinsUptoSaid : Prop := pathJoinsUptoRow.holds Try.pinned (OpenSpec.upto pathJoinsSpec)

/-- 'tollbarlaw6.PathLong', WHERE WHAT IT READS IS OF BULK AT MOST 1048576: true; the input reads as it did. -/
def pathLongUptoRow : OpenClaim := { program := "ytfldicenikkacaa", sum := "3ad75fcca8ec5f5d8a258e91763c7a8a25ab7ef91ec802d7c78149d0577cfc70", func := "tollbar/tollbarlaw6.PathLong", spec := "pathLong", apart := false, narrowed := true }
def PathLongUptoSaid : Prop := pathLongUptoRow.holds Try.pinned (OpenSpec.upto pathLongSpec)

end Rows
end Go.Proofs.Ytfldicenikkacaa
