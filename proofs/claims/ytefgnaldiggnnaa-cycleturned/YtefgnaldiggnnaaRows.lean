/-
  No cell of these rows narrows 'for every input' (looked for: loops, veiled, ifaces, maps, wideKeys, modest, calm, conditions, laid).
  DERIVED. THE GIVEN ROWS OF THIS SEAT. 5 by the template 'for every input the law returns true; each argument reads behind the call as it read before'; 0 by the template 'total and deterministic' (their statements: YtefgnaldiggnnaaTotals.lean).
  GIVEN WITH THE SEED: the statements are not yours to turn. If you find one false, say at which input.
  Laid BY PROGRAM, IN A SANDBOX (cutbox-rows.mjs): the forced cells as the released guide's own fill.sh prints them over the translation bea092758cf5926c… (all of the seat's roots in one cut). By AI agents, Wed Nov 11 2026. No macro, syntax, notation, axiom, sorry.
-/
import Derived.Test.YtefgnaldiggnnaaChecked
import GoSem.Claim
import GoSem.ClaimJoined
import GoSem.ClaimMapViews
import Derived.JoinedTies
import Derived.KernelRfl
namespace Go.Proofs.Ytefgnaldiggnnaa
/- THE CELL 'sum', in the pinned program and in every row, IS THE sha256 OF THE DUMP (.gsa) THAT YtefgnaldiggnnaaProg.lean LOADS. Nothing in Lean hashes anything: it is a label: what it is worth is what the hold of that sum in a sandbox is worth. -/
noncomputable def Try.pinned : Pinned := { name := "ytefgnaldiggnnaa", sum := "bea092758cf5926c09460c2eabb1ff2f49b4bf443d05419b7d548240e68de8ef", checked := Try.checked }
namespace Rows
def none {H : Type} : Left H := { results := [], args := [] }

/-- 'tollbarlaw14.Cycles': WHATEVER THE INPUT: true; the input reads as it did. -/
def cyclesSpec : ChangeSpec := { name := "cycles", fn := fun _ => fun
  | [d1, d2] => { results := [.lit (.bool true)], args := [d1, d2] }
  | _ => none }
def cyclesRow : OpenClaim := { program := "ytefgnaldiggnnaa", sum := "bea092758cf5926c09460c2eabb1ff2f49b4bf443d05419b7d548240e68de8ef", func := "tollbar/tollbarlaw14.Cycles", spec := "cycles", unfollowed := true, recurses := true, apart := false }
def CyclesSaid : Prop := cyclesRow.holds Try.pinned (OpenSpec.ofChange cyclesSpec)

/-- ITS FALSE NEIGHBOUR: 'it returns false'. Refute it at one input. -/
def cyclesWrong : ChangeSpec := { name := "cycles", fn := fun _ => fun
  | [d1, d2] => { results := [.lit (.bool false)], args := [d1, d2] }
  | _ => none }
def CyclesWrongFalsely : Prop := cyclesRow.holds Try.pinned (OpenSpec.ofChange cyclesWrong)

/-- 'tollbarlaw14.CycleCancels': WHATEVER THE INPUT: true; the input reads as it did. -/
def cycleCancelsSpec : ChangeSpec := { name := "cycleCancels", fn := fun _ => fun
  | [d1, d2] => { results := [.lit (.bool true)], args := [d1, d2] }
  | _ => none }
def cycleCancelsRow : OpenClaim := { program := "ytefgnaldiggnnaa", sum := "bea092758cf5926c09460c2eabb1ff2f49b4bf443d05419b7d548240e68de8ef", func := "tollbar/tollbarlaw14.CycleCancels", spec := "cycleCancels", unfollowed := true, recurses := true, apart := false }
def CycleCancelsSaid : Prop := cycleCancelsRow.holds Try.pinned (OpenSpec.ofChange cycleCancelsSpec)

/-- ITS FALSE NEIGHBOUR: 'it returns false'. Refute it at one input. -/
def cycleCancelsWrong : ChangeSpec := { name := "cycleCancels", fn := fun _ => fun
  | [d1, d2] => { results := [.lit (.bool false)], args := [d1, d2] }
  | _ => none }
def CycleCancelsWrongFalsely : Prop := cycleCancelsRow.holds Try.pinned (OpenSpec.ofChange cycleCancelsWrong)

/-- 'tollbarlaw14.CycleLeaves': WHATEVER THE INPUT: true; the input reads as it did. -/
def cycleLeavesSpec : ChangeSpec := { name := "cycleLeaves", fn := fun _ => fun
  | [d1, d2] => { results := [.lit (.bool true)], args := [d1, d2] }
  | _ => none }
def cycleLeavesRow : OpenClaim := { program := "ytefgnaldiggnnaa", sum := "bea092758cf5926c09460c2eabb1ff2f49b4bf443d05419b7d548240e68de8ef", func := "tollbar/tollbarlaw14.CycleLeaves", spec := "cycleLeaves", unfollowed := true, recurses := true, apart := false }
def CycleLeavesSaid : Prop := cycleLeavesRow.holds Try.pinned (OpenSpec.ofChange cycleLeavesSpec)

/-- ITS FALSE NEIGHBOUR: 'it returns false'. Refute it at one input. -/
def cycleLeavesWrong : ChangeSpec := { name := "cycleLeaves", fn := fun _ => fun
  | [d1, d2] => { results := [.lit (.bool false)], args := [d1, d2] }
  | _ => none }
def CycleLeavesWrongFalsely : Prop := cycleLeavesRow.holds Try.pinned (OpenSpec.ofChange cycleLeavesWrong)

/-- 'tollbarlaw14.CycleFlows': WHATEVER THE INPUT: true; the input reads as it did. -/
def cycleFlowsSpec : ChangeSpec := { name := "cycleFlows", fn := fun _ => fun
  | [d1, d2, d3, d4, d5] => { results := [.lit (.bool true)], args := [d1, d2, d3, d4, d5] }
  | _ => none }
def cycleFlowsRow : OpenClaim := { program := "ytefgnaldiggnnaa", sum := "bea092758cf5926c09460c2eabb1ff2f49b4bf443d05419b7d548240e68de8ef", func := "tollbar/tollbarlaw14.CycleFlows", spec := "cycleFlows", unfollowed := true, recurses := true, apart := false }
def CycleFlowsSaid : Prop := cycleFlowsRow.holds Try.pinned (OpenSpec.ofChange cycleFlowsSpec)

/-- ITS FALSE NEIGHBOUR: 'it returns false'. Refute it at one input. -/
def cycleFlowsWrong : ChangeSpec := { name := "cycleFlows", fn := fun _ => fun
  | [d1, d2, d3, d4, d5] => { results := [.lit (.bool false)], args := [d1, d2, d3, d4, d5] }
  | _ => none }
def CycleFlowsWrongFalsely : Prop := cycleFlowsRow.holds Try.pinned (OpenSpec.ofChange cycleFlowsWrong)

/-- 'tollbarlaw14.CycleTurned': WHATEVER THE INPUT: true; the input reads as it did. -/
def cycleTurnedSpec : ChangeSpec := { name := "cycleTurned", fn := fun _ => fun
  | [d1, d2] => { results := [.lit (.bool true)], args := [d1, d2] }
  | _ => none }
def cycleTurnedRow : OpenClaim := { program := "ytefgnaldiggnnaa", sum := "bea092758cf5926c09460c2eabb1ff2f49b4bf443d05419b7d548240e68de8ef", func := "tollbar/tollbarlaw14.CycleTurned", spec := "cycleTurned", unfollowed := true, recurses := true, apart := false }
def CycleTurnedSaid : Prop := cycleTurnedRow.holds Try.pinned (OpenSpec.ofChange cycleTurnedSpec)

/-- ITS FALSE NEIGHBOUR: 'it returns false'. Refute it at one input. -/
def cycleTurnedWrong : ChangeSpec := { name := "cycleTurned", fn := fun _ => fun
  | [d1, d2] => { results := [.lit (.bool false)], args := [d1, d2] }
  | _ => none }
def CycleTurnedWrongFalsely : Prop := cycleTurnedRow.holds Try.pinned (OpenSpec.ofChange cycleTurnedWrong)

/- THE SECOND FORM. 'bulk': how many values and letters a reading holds, each counted each time it is reached (what is shared counts as often as it is met; a slice's spare places count too). A statement '..UptoSaid' is the law's where the arguments, and the package variables that the reading takes, are together of bulk at most 1048576: NARROWER than '..Said'. Prove '..Said' where nothing that the law and all that it calls make is longer than what came in: it says more and counts as full. Else prove '..UptoSaid'. A law counts once. -/
mutual
def uptoBulk {H : Type} : DataW H → Nat
  | .lit (.string bytes) => bytes.length + 1
  | .lit _ => 1
  | .nil => 1
  | .ptr d => uptoBulk d + 1
  | .slice elems spare => uptoBulkAll elems + uptoBulkAll spare + 1
  | .agg parts => uptoBulkAll parts + 1
  | .iface _ d => uptoBulk d + 1
  | .map entries => uptoBulkEntries entries + 1
  | .held _ => 1
def uptoBulkAll {H : Type} : List (DataW H) → Nat
  | [] => 0
  | d :: r => uptoBulk d + uptoBulkAll r
def uptoBulkEntries {H : Type} : List (Lit × DataW H) → Nat
  | [] => 0
  | x :: r => uptoBulkEntry x + uptoBulkEntries r
def uptoBulkEntry {H : Type} : Lit × DataW H → Nat
  | (.string bytes, d) => bytes.length + uptoBulk d + 1
  | (_, d) => uptoBulk d + 1
 end
def uptoSmall : (H : Type) → List (DataW H) → Bool := fun _ ds => decide (uptoBulkAll ds ≤ 1048576)
def OpenSpec.upto (s : _root_.Go.ChangeSpec) : _root_.Go.OpenSpec := { _root_.Go.OpenSpec.ofChange s with cond := some uptoSmall }

/-- 'tollbarlaw14.Cycles', WHERE WHAT IT READS IS OF BULK AT MOST 1048576: true; the input reads as it did. -/
def cyclesUptoRow : OpenClaim := { program := "ytefgnaldiggnnaa", sum := "bea092758cf5926c09460c2eabb1ff2f49b4bf443d05419b7d548240e68de8ef", func := "tollbar/tollbarlaw14.Cycles", spec := "cycles", unfollowed := true, recurses := true, apart := false, narrowed := true }
def CyclesUptoSaid : Prop := cyclesUptoRow.holds Try.pinned (OpenSpec.upto cyclesSpec)

/-- 'tollbarlaw14.CycleCancels', WHERE WHAT IT READS IS OF BULK AT MOST 1048576: true; the input reads as it did. -/
def cycleCancelsUptoRow : OpenClaim := { program := "ytefgnaldiggnnaa", sum := "bea092758cf5926c09460c2eabb1ff2f49b4bf443d05419b7d548240e68de8ef", func := "tollbar/tollbarlaw14.CycleCancels", spec := "cycleCancels", unfollowed := true, recurses := true, apart := false, narrowed := true }
def CycleCancelsUptoSaid : Prop := cycleCancelsUptoRow.holds Try.pinned (OpenSpec.upto cycleCancelsSpec)

/-- 'tollbarlaw14.CycleLeaves', WHERE WHAT IT READS IS OF BULK AT MOST 1048576: true; the input reads as it did. -/
def cycleLeavesUptoRow : OpenClaim := { program := "ytefgnaldiggnnaa", sum := "bea092758cf5926c09460c2eabb1ff2f49b4bf443d05419b7d548240e68de8ef", func := "tollbar/tollbarlaw14.CycleLeaves", spec := "cycleLeaves", unfollowed := true, recurses := true, apart := false, narrowed := true }
def CycleLeavesUptoSaid : Prop := cycleLeavesUptoRow.holds Try.pinned (OpenSpec.upto cycleLeavesSpec)

/-- 'tollbarlaw14.CycleFlows', WHERE WHAT IT READS IS OF BULK AT MOST 1048576: true; the input reads as it did. -/
def cycleFlowsUptoRow : OpenClaim := { program := "ytefgnaldiggnnaa", sum := "bea092758cf5926c09460c2eabb1ff2f49b4bf443d05419b7d548240e68de8ef", func := "tollbar/tollbarlaw14.CycleFlows", spec := "cycleFlows", unfollowed := true, recurses := true, apart := false, narrowed := true }
def CycleFlowsUptoSaid : Prop := cycleFlowsUptoRow.holds Try.pinned (OpenSpec.upto cycleFlowsSpec)

/-- 'tollbarlaw14.CycleTurned', WHERE WHAT IT READS IS OF BULK AT MOST 1048576: true; the input reads as it did. -/
def cycleTurnedUptoRow : OpenClaim := { program := "ytefgnaldiggnnaa", sum := "bea092758cf5926c09460c2eabb1ff2f49b4bf443d05419b7d548240e68de8ef", func := "tollbar/tollbarlaw14.CycleTurned", spec := "cycleTurned", unfollowed := true, recurses := true, apart := false, narrowed := true }
def CycleTurnedUptoSaid : Prop := cycleTurnedUptoRow.holds Try.pinned (OpenSpec.upto cycleTurnedSpec)

end Rows
end Go.Proofs.Ytefgnaldiggnnaa
