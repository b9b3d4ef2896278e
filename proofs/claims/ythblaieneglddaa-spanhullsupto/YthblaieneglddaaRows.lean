/-
  No cell of these rows narrows 'for every input' (looked for: loops, veiled, ifaces, maps, wideKeys, modest, calm, conditions, laid).
  DERIVED. THE GIVEN ROWS OF THIS SEAT. 4 by the template 'for every input the law returns true; each argument reads behind the call as it read before'; 0 by the template 'total and deterministic' (their statements: YthblaieneglddaaTotals.lean).
  GIVEN WITH THE SEED: the statements are not yours to turn. If you find one false, say at which input.
  Laid BY PROGRAM, IN A SANDBOX (cutbox-rows.mjs): the forced cells as the released guide's own fill.sh prints them over the translation 6da3b4abcd385a79… (all of the seat's roots in one cut). By AI agents, Wed Nov 11 2026. No macro, syntax, notation, axiom, sorry.
-/
import Derived.Test.YthblaieneglddaaChecked
import GoSem.Claim
import GoSem.ClaimJoined
import GoSem.ClaimMapViews
import Derived.JoinedTies
import Derived.KernelRfl
namespace Go.Proofs.Ythblaieneglddaa
/- THE CELL 'sum', in the pinned program and in every row, IS THE sha256 OF THE DUMP (.gsa) THAT YthblaieneglddaaProg.lean LOADS. Nothing in Lean hashes anything: it is a label: what it is worth is what the hold of that sum in a sandbox is worth. -/
noncomputable def Try.pinned : Pinned := { name := "ythblaieneglddaa", sum := "6da3b4abcd385a79aa0470acd9d087c12b2f4263af3e376d4c1656cdf9e07d3c", checked := Try.checked }
namespace Rows
def none {H : Type} : Left H := { results := [], args := [] }

/-- 'tollbarlaw2.Spans': WHATEVER THE INPUT: true; the input reads as it did. -/
def spansSpec : ChangeSpec := { name := "spans", fn := fun _ => fun
  | [d1, d2, d3] => { results := [.lit (.bool true)], args := [d1, d2, d3] }
  | _ => none }
def spansRow : OpenClaim := { program := "ythblaieneglddaa", sum := "6da3b4abcd385a79aa0470acd9d087c12b2f4263af3e376d4c1656cdf9e07d3c", func := "tollbar/tollbarlaw2.Spans", spec := "spans", recurses := true, apart := false }
def SpansSaid : Prop := spansRow.holds Try.pinned (OpenSpec.ofChange spansSpec)

/-- ITS FALSE NEIGHBOUR: 'it returns false'. Refute it at one input. -/
def spansWrong : ChangeSpec := { name := "spans", fn := fun _ => fun
  | [d1, d2, d3] => { results := [.lit (.bool false)], args := [d1, d2, d3] }
  | _ => none }
def SpansWrongFalsely : Prop := spansRow.holds Try.pinned (OpenSpec.ofChange spansWrong)

/-- 'tollbarlaw2.SpanCovers': WHATEVER THE INPUT: true; the input reads as it did. -/
def spanCoversSpec : ChangeSpec := { name := "spanCovers", fn := fun _ => fun
  | [d] => { results := [.lit (.bool true)], args := [d] }
  | _ => none }
def spanCoversRow : OpenClaim := { program := "ythblaieneglddaa", sum := "6da3b4abcd385a79aa0470acd9d087c12b2f4263af3e376d4c1656cdf9e07d3c", func := "tollbar/tollbarlaw2.SpanCovers", spec := "spanCovers", recurses := true, apart := false }
def SpanCoversSaid : Prop := spanCoversRow.holds Try.pinned (OpenSpec.ofChange spanCoversSpec)

/-- ITS FALSE NEIGHBOUR: 'it returns false'. Refute it at one input. -/
def spanCoversWrong : ChangeSpec := { name := "spanCovers", fn := fun _ => fun
  | [d] => { results := [.lit (.bool false)], args := [d] }
  | _ => none }
def SpanCoversWrongFalsely : Prop := spanCoversRow.holds Try.pinned (OpenSpec.ofChange spanCoversWrong)

/-- 'tollbarlaw2.SpanCuts': WHATEVER THE INPUT: true; the input reads as it did. -/
def spanCutsSpec : ChangeSpec := { name := "spanCuts", fn := fun _ => fun
  | [d1, d2] => { results := [.lit (.bool true)], args := [d1, d2] }
  | _ => none }
def spanCutsRow : OpenClaim := { program := "ythblaieneglddaa", sum := "6da3b4abcd385a79aa0470acd9d087c12b2f4263af3e376d4c1656cdf9e07d3c", func := "tollbar/tollbarlaw2.SpanCuts", spec := "spanCuts", recurses := true, apart := false }
def SpanCutsSaid : Prop := spanCutsRow.holds Try.pinned (OpenSpec.ofChange spanCutsSpec)

/-- ITS FALSE NEIGHBOUR: 'it returns false'. Refute it at one input. -/
def spanCutsWrong : ChangeSpec := { name := "spanCuts", fn := fun _ => fun
  | [d1, d2] => { results := [.lit (.bool false)], args := [d1, d2] }
  | _ => none }
def SpanCutsWrongFalsely : Prop := spanCutsRow.holds Try.pinned (OpenSpec.ofChange spanCutsWrong)

/-- 'tollbarlaw2.SpanHulls': WHATEVER THE INPUT: true; the input reads as it did. -/
def spanHullsSpec : ChangeSpec := { name := "spanHulls", fn := fun _ => fun
  | [d1, d2] => { results := [.lit (.bool true)], args := [d1, d2] }
  | _ => none }
def spanHullsRow : OpenClaim := { program := "ythblaieneglddaa", sum := "6da3b4abcd385a79aa0470acd9d087c12b2f4263af3e376d4c1656cdf9e07d3c", func := "tollbar/tollbarlaw2.SpanHulls", spec := "spanHulls", recurses := true, apart := false }
def SpanHullsSaid : Prop := spanHullsRow.holds Try.pinned (OpenSpec.ofChange spanHullsSpec)

/-- ITS FALSE NEIGHBOUR: 'it returns false'. Refute it at one input. -/
def spanHullsWrong : ChangeSpec := { name := "spanHulls", fn := fun _ => fun
  | [d1, d2] => { results := [.lit (.bool false)], args := [d1, d2] }
  | _ => none }
def SpanHullsWrongFalsely : Prop := spanHullsRow.holds Try.pinned (OpenSpec.ofChange spanHullsWrong)

/- THE SECOND FORM. 'bulk': how many values and letters a reading holds, each counted each time it is reached (what is shared counts as often as it is met; a slice's spare places count too). A statement '..UptoSaid' is the law's where the arguments, and the package variables that the reading takes, are together of bulk at most 1048576: NARROWER than '..Said'. Prove '..Said' where nothing that the law and all that it calls make is longer than what came in: it says more and counts as full. Else prove '..UptoSaid'. A law counts once. -/
mutual
def uptoBulk {H : Type} : DataW H → Nat
  | .lit (.string bytes) => bytes.length + 1
  | .lit _ => 1
  | .nil => 1
  | .ptr d => uptoBulk d + 1
  | .slice elems spare => uptoBulkAll elems + uptoBulkAll spare + 1
  | .agg parts => uptoBulkAll parts + 1
  | .iface _ d => uptoBulk d + 1
  | .map entries => uptoBulkEntries entries + 1
  | .held _ => 1
def uptoBulkAll {H : Type} : List (DataW H) → Nat
  | [] => 0
  | d :: r => uptoBulk d + uptoBulkAll r
def uptoBulkEntries {H : Type} : List (Lit × DataW H) → Nat
  | [] => 0
  | x :: r => uptoBulkEntry x + uptoBulkEntries r
def uptoBulkEntry {H : Type} : Lit × DataW H → Nat
  | (.string bytes, d) => bytes.length + uptoBulk d + 1
  | (_, d) => uptoBulk d + 1
 end
def uptoSmall : (H : Type) → List (DataW H) → Bool := fun _ ds => decide (uptoBulkAll ds ≤ 1048576)
def OpenSpec.upto (s : _root_.Go.ChangeSpec) : _root_.Go.OpenSpec := { _root_.Go.OpenSpec.ofChange s with cond := some uptoSmall }

/-- 'tollbarlaw2.Spans', WHERE WHAT IT READS IS OF BULK AT MOST 1048576: true; the input reads as it did. -/
def spansUptoRow : OpenClaim := { program := "ythblaieneglddaa", sum := "6da3b4abcd385a79aa0470acd9d087c12b2f4263af3e376d4c1656cdf9e07d3c", func := "tollbar/tollbarlaw2.Spans", spec := "spans", recurses := true, apart := false, narrowed := true }
def SpansUptoSaid : Prop := spansUptoRow.holds Try.pinned (OpenSpec.upto spansSpec)

/-- 'tollbarlaw2.SpanCovers', WHERE WHAT IT READS IS OF BULK AT MOST 1048576: true; the input reads as it did. -/
def spanCoversUptoRow : OpenClaim := { program := "ythblaieneglddaa", sum := "6da3b4abcd385a79aa0470acd9d087c12b2f4263af3e376d4c1656cdf9e07d3c", func := "tollbar/tollbarlaw2.SpanCovers", spec := "spanCovers", recurses := true, apart := false, narrowed := true }
def SpanCoversUptoSaid : Prop := spanCoversUptoRow.holds Try.pinned (OpenSpec.upto spanCoversSpec)

/-- 'tollbarlaw2.SpanCuts', WHERE WHAT IT READS IS OF BULK AT MOST 1048576: true; the input reads as it did. -/
def spanCutsUptoRow : OpenClaim := { program := "ythblaieneglddaa", sum := "6da3b4abcd385a79aa0470acd9d087c12b2f4263af3e376d4c1656cdf9e07d3c", func := "tollbar/tollbarlaw2.SpanCuts", spec := "spanCuts", recurses := true, apart := false, narrowed := true }
def SpanCutsUptoSaid : Prop := spanCutsUptoRow.holds Try.pinned (OpenSpec.upto spanCutsSpec)

/-- 'tollbarlaw2.SpanHulls', WHERE WHAT IT READS IS OF BULK AT MOST 1048576: true; the input reads as it did. -/
def spanHullsUptoRow : OpenClaim := { program := "ythblaieneglddaa", sum := "6da3b4abcd385a79aa0470acd9d087c12b2f4263af3e376d4c1656cdf9e07d3c", func := "tollbar/tollbarlaw2.SpanHulls", spec := "spanHulls", recurses := true, apart := false, narrowed := true }
def SpanHullsUptoSaid : Prop := spanHullsUptoRow.holds Try.pinned (OpenSpec.upto spanHullsSpec)

end Rows
end Go.Proofs.Ythblaieneglddaa
