/-
  No cell of these rows narrows 'for every input' (looked for: loops, veiled, ifaces, maps, wideKeys, modest, calm, conditions, laid).
  DERIVED. THE GIVEN ROWS OF THIS SEAT. 5 by the template 'for every input the law returns true; each argument reads behind the call as it read before'; 0 by the template 'total and deterministic' (their statements: YtmamnjnmcipjbaaTotals.lean).
  GIVEN WITH THE SEED: the statements are not yours to turn. If you find one false, say at which input.
  Laid BY PROGRAM, IN A SANDBOX (cutbox-rows.mjs): the forced cells as the released guide's own fill.sh prints them over the translation 08058684679c2a5f… (all of the seat's roots in one cut). By AI agents, Wed Nov 11 2026. No macro, syntax, notation, axiom, sorry.
-/
import Derived.Test.YtmamnjnmcipjbaaChecked
import GoSem.Claim
import GoSem.ClaimJoined
import GoSem.ClaimMapViews
import Derived.JoinedTies
import Derived.KernelRfl
namespace Go.Proofs.Ytmamnjnmcipjbaa
/- THE CELL 'sum', in the pinned program and in every row, IS THE sha256 OF THE DUMP (.gsa) THAT YtmamnjnmcipjbaaProg.lean LOADS. Nothing in Lean hashes anything: it is a label: what it is worth is what the hold of that sum in a sandbox is worth. -/
noncomputable def Try.pinned : Pinned := { name := "ytmamnjnmcipjbaa", sum := "08058684679c2a5fae14fd98f7d0eeb18c4faee368f649615699a3c141e20cba", checked := Try.checked }
namespace Rows
def none {H : Type} : Left H := { results := [], args := [] }

/-- 'tollbarlaw10.Levels': WHATEVER THE INPUT: true; the input reads as it did. -/
def levelsSpec : ChangeSpec := { name := "levels", fn := fun _ => fun
  | [d1, d2, d3, d4] => { results := [.lit (.bool true)], args := [d1, d2, d3, d4] }
  | _ => none }
def levelsRow : OpenClaim := { program := "ytmamnjnmcipjbaa", sum := "08058684679c2a5fae14fd98f7d0eeb18c4faee368f649615699a3c141e20cba", func := "tollbar/tollbarlaw10.Levels", spec := "levels", apart := false }
def LevelsSaid : Prop := levelsRow.holds Try.pinned (OpenSpec.ofChange levelsSpec)

/-- ITS FALSE NEIGHBOUR: 'it returns false'. Refute it at one input. -/
def levelsWrong : ChangeSpec := { name := "levels", fn := fun _ => fun
  | [d1, d2, d3, d4] => { results := [.lit (.bool false)], args := [d1, d2, d3, d4] }
  | _ => none }
def LevelsWrongFalsely : Prop := levelsRow.holds Try.pinned (OpenSpec.ofChange levelsWrong)

/-- 'tollbarlaw10.LevelSteps': WHATEVER THE INPUT: true; the input reads as it did. -/
def levelStepsSpec : ChangeSpec := { name := "levelSteps", fn := fun _ => fun
  | [d1, d2, d3, d4] => { results := [.lit (.bool true)], args := [d1, d2, d3, d4] }
  | _ => none }
def levelStepsRow : OpenClaim := { program := "ytmamnjnmcipjbaa", sum := "08058684679c2a5fae14fd98f7d0eeb18c4faee368f649615699a3c141e20cba", func := "tollbar/tollbarlaw10.LevelSteps", spec := "levelSteps", apart := false }
def LevelStepsSaid : Prop := levelStepsRow.holds Try.pinned (OpenSpec.ofChange levelStepsSpec)

/-- ITS FALSE NEIGHBOUR: 'it returns false'. Refute it at one input. -/
def levelStepsWrong : ChangeSpec := { name := "levelSteps", fn := fun _ => fun
  | [d1, d2, d3, d4] => { results := [.lit (.bool false)], args := [d1, d2, d3, d4] }
  | _ => none }
def LevelStepsWrongFalsely : Prop := levelStepsRow.holds Try.pinned (OpenSpec.ofChange levelStepsWrong)

/-- 'tollbarlaw10.LevelFilled': WHATEVER THE INPUT: true; the input reads as it did. -/
def levelFilledSpec : ChangeSpec := { name := "levelFilled", fn := fun _ => fun
  | [d1, d2, d3] => { results := [.lit (.bool true)], args := [d1, d2, d3] }
  | _ => none }
def levelFilledRow : OpenClaim := { program := "ytmamnjnmcipjbaa", sum := "08058684679c2a5fae14fd98f7d0eeb18c4faee368f649615699a3c141e20cba", func := "tollbar/tollbarlaw10.LevelFilled", spec := "levelFilled", apart := false }
def LevelFilledSaid : Prop := levelFilledRow.holds Try.pinned (OpenSpec.ofChange levelFilledSpec)

/-- ITS FALSE NEIGHBOUR: 'it returns false'. Refute it at one input. -/
def levelFilledWrong : ChangeSpec := { name := "levelFilled", fn := fun _ => fun
  | [d1, d2, d3] => { results := [.lit (.bool false)], args := [d1, d2, d3] }
  | _ => none }
def LevelFilledWrongFalsely : Prop := levelFilledRow.holds Try.pinned (OpenSpec.ofChange levelFilledWrong)

/-- 'tollbarlaw10.LevelRooms': WHATEVER THE INPUT: true; the input reads as it did. -/
def levelRoomsSpec : ChangeSpec := { name := "levelRooms", fn := fun _ => fun
  | [d1, d2, d3, d4] => { results := [.lit (.bool true)], args := [d1, d2, d3, d4] }
  | _ => none }
def levelRoomsRow : OpenClaim := { program := "ytmamnjnmcipjbaa", sum := "08058684679c2a5fae14fd98f7d0eeb18c4faee368f649615699a3c141e20cba", func := "tollbar/tollbarlaw10.LevelRooms", spec := "levelRooms", apart := false }
def LevelRoomsSaid : Prop := levelRoomsRow.holds Try.pinned (OpenSpec.ofChange levelRoomsSpec)

/-- ITS FALSE NEIGHBOUR: 'it returns false'. Refute it at one input. -/
def levelRoomsWrong : ChangeSpec := { name := "levelRooms", fn := fun _ => fun
  | [d1, d2, d3, d4] => { results := [.lit (.bool false)], args := [d1, d2, d3, d4] }
  | _ => none }
def LevelRoomsWrongFalsely : Prop := levelRoomsRow.holds Try.pinned (OpenSpec.ofChange levelRoomsWrong)

/-- 'tollbarlaw10.LevelForms': WHATEVER THE INPUT: true; the input reads as it did. -/
def levelFormsSpec : ChangeSpec := { name := "levelForms", fn := fun _ => fun
  | [d1, d2] => { results := [.lit (.bool true)], args := [d1, d2] }
  | _ => none }
def levelFormsRow : OpenClaim := { program := "ytmamnjnmcipjbaa", sum := "08058684679c2a5fae14fd98f7d0eeb18c4faee368f649615699a3c141e20cba", func := "tollbar/tollbarlaw10.LevelForms", spec := "levelForms", apart := false }
def LevelFormsSaid : Prop := levelFormsRow.holds Try.pinned (OpenSpec.ofChange levelFormsSpec)

/-- ITS FALSE NEIGHBOUR: 'it returns false'. Refute it at one input. -/
def levelFormsWrong : ChangeSpec := { name := "levelForms", fn := fun _ => fun
  | [d1, d2] => { results := [.lit (.bool false)], args := [d1, d2] }
  | _ => none }
def LevelFormsWrongFalsely : Prop := levelFormsRow.holds Try.pinned (OpenSpec.ofChange levelFormsWrong)

/- THE SECOND FORM. 'bulk': how many values and letters a reading holds, each counted each time it is reached (what is shared counts as often as it is met; a slice's spare places count too). A statement '..UptoSaid' is the law's where the arguments, and the package variables that the reading takes, are together of bulk at most 1048576: NARROWER than '..Said'. Prove '..Said' where nothing that the law and all that it calls make is longer than what came in: it says more and counts as full. Else prove '..UptoSaid'. A law counts once. -/
mutual
def uptoBulk {H : Type} : DataW H → Nat
  | .lit (.string bytes) => bytes.length + 1
  | .lit _ => 1
  | .nil => 1
  | .ptr d => uptoBulk d + 1
  | .slice elems spare => uptoBulkAll elems + uptoBulkAll spare + 1
  | .agg parts => uptoBulkAll parts + 1
  | .iface _ d => uptoBulk d + 1
  | .map entries => uptoBulkEntries entries + 1
  | .held _ => 1
def uptoBulkAll {H : Type} : List (DataW H) → Nat
  | [] => 0
  | d :: r => uptoBulk d + uptoBulkAll r
def uptoBulkEntries {H : Type} : List (Lit × DataW H) → Nat
  | [] => 0
  | x :: r => uptoBulkEntry x + uptoBulkEntries r
def uptoBulkEntry {H : Type} : Lit × DataW H → Nat
  | (.string bytes, d) => bytes.length + uptoBulk d + 1
  | (_, d) => uptoBulk d + 1
 end
def uptoSmall : (H : Type) → List (DataW H) → Bool := fun _ ds => decide (uptoBulkAll ds ≤ 1048576)
def OpenSpec.upto (s : _root_.Go.ChangeSpec) : _root_.Go.OpenSpec := { _root_.Go.OpenSpec.ofChange s with cond := some uptoSmall }

/-- 'tollbarlaw10.Levels', WHERE WHAT IT READS IS OF BULK AT MOST 1048576: true; the input reads as it did. -/
def levelsUptoRow : OpenClaim := { program := "ytmamnjnmcipjbaa", sum := "08058684679c2a5fae14fd98f7d0eeb18c4faee368f649615699a3c141e20cba", func := "tollbar/tollbarlaw10.Levels", spec := "levels", apart := false, narrowed := true }
def LevelsUptoSaid : Prop := levelsUptoRow.holds Try.pinned (OpenSpec.upto levelsSpec)

/-- 'tollbarlaw10.LevelSteps', WHERE WHAT IT READS IS OF BULK AT MOST 1048576: true; the input reads as it did. -/
def levelStepsUptoRow : OpenClaim := { program := "ytmamnjnmcipjbaa", sum := "08058684679c2a5fae14fd98f7d0eeb18c4faee368f649615699a3c141e20cba", func := "tollbar/tollbarlaw10.LevelSteps", spec := "levelSteps", apart := false, narrowed := true }
def LevelStepsUptoSaid : Prop := levelStepsUptoRow.holds Try.pinned (OpenSpec.upto levelStepsSpec)

/-- 'tollbarlaw10.LevelFilled', WHERE WHAT IT READS IS OF BULK AT MOST 1048576: true; the input reads as it did. -/
def levelFilledUptoRow : OpenClaim := { program := "ytmamnjnmcipjbaa", sum := "08058684679c2a5fae14fd98f7d0eeb18c4faee368f649615699a3c141e20cba", func := "tollbar/tollbarlaw10.LevelFilled", spec := "levelFilled", apart := false, narrowed := true }
def LevelFilledUptoSaid : Prop := levelFilledUptoRow.holds Try.pinned (OpenSpec.upto levelFilledSpec)

/-- 'tollbarlaw10.LevelRooms', WHERE WHAT IT READS IS OF BULK AT MOST 1048576: true; the input reads as it did. -/
def levelRoomsUptoRow : OpenClaim := { program := "ytmamnjnmcipjbaa", sum := "08058684679c2a5fae14fd98f7d0eeb18c4faee368f649615699a3c141e20cba", func := "tollbar/tollbarlaw10.LevelRooms", spec := "levelRooms", apart := false, narrowed := true }
def LevelRoomsUptoSaid : Prop := levelRoomsUptoRow.holds Try.pinned (OpenSpec.upto levelRoomsSpec)

/-- 'tollbarlaw10.LevelForms', WHERE WHAT IT READS IS OF BULK AT MOST 1048576: true; the input reads as it did. -/
def levelFormsUptoRow : OpenClaim := { program := "ytmamnjnmcipjbaa", sum := "08058684679c2a5fae14fd98f7d0eeb18c4faee368f649615699a3c141e20cba", func := "tollbar/tollbarlaw10.LevelForms", spec := "levelForms", apart := false, narrowed := true }
def LevelFormsUptoSaid : Prop := levelFormsUptoRow.holds Try.pinned (OpenSpec.upto levelFormsSpec)

end Rows
end Go.Proofs.Ytmamnjnmcipjbaa
