/-
  No cell of these rows narrows 'for every input' (looked for: loops, veiled, ifaces, maps, wideKeys, modest, calm, conditions, laid).
  DERIVED. THE GIVEN ROWS OF THIS SEAT. 3 by the template 'for every input the law returns true; each argument reads behind the call as it read before'; 0 by the template 'total and deterministic' (their statements: YtppcncblmakekaaTotals.lean).
  GIVEN WITH THE SEED: the statements are not yours to turn. If you find one false, say at which input.
  Laid BY PROGRAM, IN A SANDBOX (cutbox-rows.mjs): the forced cells as the released guide's own fill.sh prints them over the translation 62d783d36ae62d33… (all of the seat's roots in one cut). By AI agents, Wed Nov 11 2026. No macro, syntax, notation, axiom, sorry.
-/
import Derived.Test.YtppcncblmakekaaChecked
import GoSem.Claim
import GoSem.ClaimJoined
import GoSem.ClaimMapViews
import Derived.JoinedTies
import Derived.KernelRfl
namespace Go.Proofs.Ytppcncblmakekaa
/- THE CELL 'sum', in the pinned program and in every row, IS THE sha256 OF THE DUMP (.gsa) THAT YtppcncblmakekaaProg.lean LOADS. Nothing in Lean hashes anything: it is a label: what it is worth is what the hold of that sum in a sandbox is worth. -/
noncomputable def Try.pinned : Pinned := { name := "ytppcncblmakekaa", sum := "62d783d36ae62d33859fe1ffbd7454baaf6ec5a78c87e9234ebb9e420354b6ef", checked := Try.checked }
namespace Rows
def none {H : Type} : Left H := { results := [], args := [] }

/-- 'tollbarlaw13.Reaches': WHATEVER THE INPUT: true; the input reads as it did. -/
def reachesSpec : ChangeSpec := { name := "reaches", fn := fun _ => fun
  | [d1, d2, d3, d4, d5] => { results := [.lit (.bool true)], args := [d1, d2, d3, d4, d5] }
  | _ => none }
def reachesRow : OpenClaim := { program := "ytppcncblmakekaa", sum := "62d783d36ae62d33859fe1ffbd7454baaf6ec5a78c87e9234ebb9e420354b6ef", func := "tollbar/tollbarlaw13.Reaches", spec := "reaches", apart := false }
def ReachesSaid : Prop := reachesRow.holds Try.pinned (OpenSpec.ofChange reachesSpec)

/-- ITS FALSE NEIGHBOUR: 'it returns false'. Refute it at one input. -/
def reachesWrong : ChangeSpec := { name := "reaches", fn := fun _ => fun
  | [d1, d2, d3, d4, d5] => { results := [.lit (.bool false)], args := [d1, d2, d3, d4, d5] }
  | _ => none }
def ReachesWrongFalsely : Prop := reachesRow.holds Try.pinned (OpenSpec.ofChange reachesWrong)

/-- 'tollbarlaw13.ReachCuts': WHATEVER THE INPUT: true; the input reads as it did. -/
def reachCutsSpec : ChangeSpec := { name := "reachCuts", fn := fun _ => fun
  | [d1, d2, d3, d4, d5] => { results := [.lit (.bool true)], args := [d1, d2, d3, d4, d5] }
  | _ => none }
def reachCutsRow : OpenClaim := { program := "ytppcncblmakekaa", sum := "62d783d36ae62d33859fe1ffbd7454baaf6ec5a78c87e9234ebb9e420354b6ef", func := "tollbar/tollbarlaw13.ReachCuts", spec := "reachCuts", recurses := true, apart := false }
def ReachCutsSaid : Prop := reachCutsRow.holds Try.pinned (OpenSpec.ofChange reachCutsSpec)

/-- ITS FALSE NEIGHBOUR: 'it returns false'. Refute it at one input. -/
def reachCutsWrong : ChangeSpec := { name := "reachCuts", fn := fun _ => fun
  | [d1, d2, d3, d4, d5] => { results := [.lit (.bool false)], args := [d1, d2, d3, d4, d5] }
  | _ => none }
def ReachCutsWrongFalsely : Prop := reachCutsRow.holds Try.pinned (OpenSpec.ofChange reachCutsWrong)

/-- 'tollbarlaw13.ReachEmpty': WHATEVER THE INPUT: true; the input reads as it did. -/
def reachEmptySpec : ChangeSpec := { name := "reachEmpty", fn := fun _ => fun
  | [d1, d2, d3] => { results := [.lit (.bool true)], args := [d1, d2, d3] }
  | _ => none }
def reachEmptyRow : OpenClaim := { program := "ytppcncblmakekaa", sum := "62d783d36ae62d33859fe1ffbd7454baaf6ec5a78c87e9234ebb9e420354b6ef", func := "tollbar/tollbarlaw13.ReachEmpty", spec := "reachEmpty", apart := false }
def ReachEmptySaid : Prop := reachEmptyRow.holds Try.pinned (OpenSpec.ofChange reachEmptySpec)

/-- ITS FALSE NEIGHBOUR: 'it returns false'. Refute it at one input. -/
def reachEmptyWrong : ChangeSpec := { name := "reachEmpty", fn := fun _ => fun
  | [d1, d2, d3] => { results := [.lit (.bool false)], args := [d1, d2, d3] }
  | _ => none }
def ReachEmptyWrongFalsely : Prop := reachEmptyRow.holds Try.pinned (OpenSpec.ofChange reachEmptyWrong)

/- THE SECOND FORM. 'bulk': how many values and letters a reading holds, each counted each time it is reached (what is shared counts as often as it is met; a slice's spare places count too). A statement '..UptoSaid' is the law's where the arguments, and the package variables that the reading takes, are together of bulk at most 1048576: NARROWER than '..Said'. Prove '..Said' where nothing that the law and all that it calls make is longer than what came in: it says more and counts as full. Else prove '..UptoSaid'. A law counts once. -/
mutual
def uptoBulk {H : Type} : DataW H → Nat
  | .lit (.string bytes) => bytes.length + 1
  | .lit _ => 1
  | .nil => 1
  | .ptr d => uptoBulk d + 1
  | .slice elems spare => uptoBulkAll elems + uptoBulkAll spare + 1
  | .agg parts => uptoBulkAll parts + 1
  | .iface _ d => uptoBulk d + 1
  | .map entries => uptoBulkEntries entries + 1
  | .held _ => 1
def uptoBulkAll {H : Type} : List (DataW H) → Nat
  | [] => 0
  | d :: r => uptoBulk d + uptoBulkAll r
def uptoBulkEntries {H : Type} : List (Lit × DataW H) → Nat
  | [] => 0
  | x :: r => uptoBulkEntry x + uptoBulkEntries r
def uptoBulkEntry {H : Type} : Lit × DataW H → Nat
  | (.string bytes, d) => bytes.length + uptoBulk d + 1
  | (_, d) => uptoBulk d + 1
 end
def uptoSmall : (H : Type) → List (DataW H) → Bool := fun _ ds => decide (uptoBulkAll ds ≤ 1048576)
def OpenSpec.upto (s : _root_.Go.ChangeSpec) : _root_.Go.OpenSpec := { _root_.Go.OpenSpec.ofChange s with cond := some uptoSmall }

/-- 'tollbarlaw13.Reaches', WHERE WHAT IT READS IS OF BULK AT MOST 1048576: true; the input reads as it did. -/
def reachesUptoRow : OpenClaim := { program := "ytppcncblmakekaa", sum := "62d783d36ae62d33859fe1ffbd7454baaf6ec5a78c87e9234ebb9e420354b6ef", func := "tollbar/tollbarlaw13.Reaches", spec := "reaches", apart := false, narrowed := true }
def ReachesUptoSaid : Prop := reachesUptoRow.holds Try.pinned (OpenSpec.upto reachesSpec)

/-- 'tollbarlaw13.ReachCuts', WHERE WHAT IT READS IS OF BULK AT MOST 1048576: true; the input reads as it did. -/
def reachCutsUptoRow : OpenClaim := { program := "ytppcncblmakekaa", sum := "62d783d36ae62d33859fe1ffbd7454baaf6ec5a78c87e9234ebb9e420354b6ef", func := "tollbar/tollbarlaw13.ReachCuts", spec := "reachCuts", recurses := true, apart := false, narrowed := true }
def ReachCutsUptoSaid : Prop := reachCutsUptoRow.holds Try.pinned (OpenSpec.upto reachCutsSpec)

/-- 'tollbarlaw13.ReachEmpty', WHERE WHAT IT READS IS OF BULK AT MOST 1048576: true; the input reads as it did. -/
def reachEmptyUptoRow : OpenClaim := { program := "ytppcncblmakekaa", sum := "62d783d36ae62d33859fe1ffbd7454baaf6ec5a78c87e9234ebb9e420354b6ef", func := "tollbar/tollbarlaw13.ReachEmpty", spec := "reachEmpty", apart := false, narrowed := true }
def ReachEmptyUptoSaid : Prop := reachEmptyUptoRow.holds Try.pinned (OpenSpec.upto reachEmptySpec)

end Rows
end Go.Proofs.Ytppcncblmakekaa
