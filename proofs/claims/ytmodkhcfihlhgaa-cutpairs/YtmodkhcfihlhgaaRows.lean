/-
  No cell of these rows narrows 'for every input' (looked for: loops, veiled, ifaces, maps, wideKeys, modest, calm, conditions, laid).
  DERIVED. THE GIVEN ROWS OF THIS SEAT. 12 by the template 'for every input the law returns true; each argument reads behind the call as it read before'; 0 by the template 'total and deterministic' (their statements: YtmodkhcfihlhgaaTotals.lean).
  GIVEN WITH THE SEED: the statements are not yours to turn. If you find one false, say at which input.
  Laid BY PROGRAM, IN A SANDBOX (cutbox-rows.mjs): the forced cells as the released guide's own fill.sh prints them over the translation 30770c660fb89434… (all of the seat's roots in one cut). By AI agents, Wed Nov 11 2026. No macro, syntax, notation, axiom, sorry.
-/
import Derived.Test.YtmodkhcfihlhgaaChecked
import GoSem.Claim
import GoSem.ClaimJoined
import GoSem.ClaimMapViews
import Derived.JoinedTies
import Derived.KernelRfl
namespace Go.Proofs.Ytmodkhcfihlhgaa
/- THE CELL 'sum', in the pinned program and in every row, IS THE sha256 OF THE DUMP (.gsa) THAT YtmodkhcfihlhgaaProg.lean LOADS. Nothing in Lean hashes anything: it is a label: what it is worth is what the hold of that sum in a sandbox is worth. -/
noncomputable def Try.pinned : Pinned := { name := "ytmodkhcfihlhgaa", sum := "30770c660fb89434eaf5ef00b5312bbcb20507ee9c629fe383d219d79abbc2f4", checked := Try.checked }
namespace Rows
def none {H : Type} : Left H := { results := [], args := [] }

/-- 'tollbarlaw7.Bundles': WHATEVER THE INPUT: true; the input reads as it did. -/
def bundlesSpec : ChangeSpec := { name := "bundles", fn := fun _ => fun
  | [d1, d2, d3, d4, d5] => { results := [.lit (.bool true)], args := [d1, d2, d3, d4, d5] }
  | _ => none }
def bundlesRow : OpenClaim := { program := "ytmodkhcfihlhgaa", sum := "30770c660fb89434eaf5ef00b5312bbcb20507ee9c629fe383d219d79abbc2f4", func := "tollbar/tollbarlaw7.Bundles", spec := "bundles", apart := false }
def BundlesSaid : Prop := bundlesRow.holds Try.pinned (OpenSpec.ofChange bundlesSpec)

/-- ITS FALSE NEIGHBOUR: 'it returns false'. Refute it at one input. -/
def bundlesWrong : ChangeSpec := { name := "bundles", fn := fun _ => fun
  | [d1, d2, d3, d4, d5] => { results := [.lit (.bool false)], args := [d1, d2, d3, d4, d5] }
  | _ => none }
def BundlesWrongFalsely : Prop := bundlesRow.holds Try.pinned (OpenSpec.ofChange bundlesWrong)

/-- 'tollbarlaw7.BundleFits': WHATEVER THE INPUT: true; the input reads as it did. -/
def bundleFitsSpec : ChangeSpec := { name := "bundleFits", fn := fun _ => fun
  | [d1, d2, d3] => { results := [.lit (.bool true)], args := [d1, d2, d3] }
  | _ => none }
def bundleFitsRow : OpenClaim := { program := "ytmodkhcfihlhgaa", sum := "30770c660fb89434eaf5ef00b5312bbcb20507ee9c629fe383d219d79abbc2f4", func := "tollbar/tollbarlaw7.BundleFits", spec := "bundleFits", apart := false }
def BundleFitsSaid : Prop := bundleFitsRow.holds Try.pinned (OpenSpec.ofChange bundleFitsSpec)

/-- ITS FALSE NEIGHBOUR: 'it returns false'. Refute it at one input. -/
def bundleFitsWrong : ChangeSpec := { name := "bundleFits", fn := fun _ => fun
  | [d1, d2, d3] => { results := [.lit (.bool false)], args := [d1, d2, d3] }
  | _ => none }
def BundleFitsWrongFalsely : Prop := bundleFitsRow.holds Try.pinned (OpenSpec.ofChange bundleFitsWrong)

/-- 'tollbarlaw7.BundleParts': WHATEVER THE INPUT: true; the input reads as it did. -/
def bundlePartsSpec : ChangeSpec := { name := "bundleParts", fn := fun _ => fun
  | [d1, d2, d3] => { results := [.lit (.bool true)], args := [d1, d2, d3] }
  | _ => none }
def bundlePartsRow : OpenClaim := { program := "ytmodkhcfihlhgaa", sum := "30770c660fb89434eaf5ef00b5312bbcb20507ee9c629fe383d219d79abbc2f4", func := "tollbar/tollbarlaw7.BundleParts", spec := "bundleParts", apart := false }
def BundlePartsSaid : Prop := bundlePartsRow.holds Try.pinned (OpenSpec.ofChange bundlePartsSpec)

/-- ITS FALSE NEIGHBOUR: 'it returns false'. Refute it at one input. -/
def bundlePartsWrong : ChangeSpec := { name := "bundleParts", fn := fun _ => fun
  | [d1, d2, d3] => { results := [.lit (.bool false)], args := [d1, d2, d3] }
  | _ => none }
def BundlePartsWrongFalsely : Prop := bundlePartsRow.holds Try.pinned (OpenSpec.ofChange bundlePartsWrong)

/-- 'tollbarlaw7.BundleOver': WHATEVER THE INPUT: true; the input reads as it did. -/
def bundleOverSpec : ChangeSpec := { name := "bundleOver", fn := fun _ => fun
  | [d] => { results := [.lit (.bool true)], args := [d] }
  | _ => none }
def bundleOverRow : OpenClaim := { program := "ytmodkhcfihlhgaa", sum := "30770c660fb89434eaf5ef00b5312bbcb20507ee9c629fe383d219d79abbc2f4", func := "tollbar/tollbarlaw7.BundleOver", spec := "bundleOver", apart := false }
def BundleOverSaid : Prop := bundleOverRow.holds Try.pinned (OpenSpec.ofChange bundleOverSpec)

/-- ITS FALSE NEIGHBOUR: 'it returns false'. Refute it at one input. -/
def bundleOverWrong : ChangeSpec := { name := "bundleOver", fn := fun _ => fun
  | [d] => { results := [.lit (.bool false)], args := [d] }
  | _ => none }
def BundleOverWrongFalsely : Prop := bundleOverRow.holds Try.pinned (OpenSpec.ofChange bundleOverWrong)

/-- 'tollbarlaw8.Cuts': WHATEVER THE INPUT: true; the input reads as it did. -/
def cutsSpec : ChangeSpec := { name := "cuts", fn := fun _ => fun
  | [d1, d2, d3, d4] => { results := [.lit (.bool true)], args := [d1, d2, d3, d4] }
  | _ => none }
def cutsRow : OpenClaim := { program := "ytmodkhcfihlhgaa", sum := "30770c660fb89434eaf5ef00b5312bbcb20507ee9c629fe383d219d79abbc2f4", func := "tollbar/tollbarlaw8.Cuts", spec := "cuts", apart := false }
def CutsSaid : Prop := cutsRow.holds Try.pinned (OpenSpec.ofChange cutsSpec)

/-- ITS FALSE NEIGHBOUR: 'it returns false'. Refute it at one input. -/
def cutsWrong : ChangeSpec := { name := "cuts", fn := fun _ => fun
  | [d1, d2, d3, d4] => { results := [.lit (.bool false)], args := [d1, d2, d3, d4] }
  | _ => none }
def CutsWrongFalsely : Prop := cutsRow.holds Try.pinned (OpenSpec.ofChange cutsWrong)

/-- 'tollbarlaw8.CutWorths': WHATEVER THE INPUT: true; the input reads as it did. -/
def cutWorthsSpec : ChangeSpec := { name := "cutWorths", fn := fun _ => fun
  | [d1, d2, d3, d4, d5, d6] => { results := [.lit (.bool true)], args := [d1, d2, d3, d4, d5, d6] }
  | _ => none }
def cutWorthsRow : OpenClaim := { program := "ytmodkhcfihlhgaa", sum := "30770c660fb89434eaf5ef00b5312bbcb20507ee9c629fe383d219d79abbc2f4", func := "tollbar/tollbarlaw8.CutWorths", spec := "cutWorths", apart := false }
def CutWorthsSaid : Prop := cutWorthsRow.holds Try.pinned (OpenSpec.ofChange cutWorthsSpec)

/-- ITS FALSE NEIGHBOUR: 'it returns false'. Refute it at one input. -/
def cutWorthsWrong : ChangeSpec := { name := "cutWorths", fn := fun _ => fun
  | [d1, d2, d3, d4, d5, d6] => { results := [.lit (.bool false)], args := [d1, d2, d3, d4, d5, d6] }
  | _ => none }
def CutWorthsWrongFalsely : Prop := cutWorthsRow.holds Try.pinned (OpenSpec.ofChange cutWorthsWrong)

/-- 'tollbarlaw8.CutPairs': WHATEVER THE INPUT: true; the input reads as it did. -/
def cutPairsSpec : ChangeSpec := { name := "cutPairs", fn := fun _ => fun
  | [d1, d2, d3, d4] => { results := [.lit (.bool true)], args := [d1, d2, d3, d4] }
  | _ => none }
def cutPairsRow : OpenClaim := { program := "ytmodkhcfihlhgaa", sum := "30770c660fb89434eaf5ef00b5312bbcb20507ee9c629fe383d219d79abbc2f4", func := "tollbar/tollbarlaw8.CutPairs", spec := "cutPairs", apart := false }
def CutPairsSaid : Prop := cutPairsRow.holds Try.pinned (OpenSpec.ofChange cutPairsSpec)

/-- ITS FALSE NEIGHBOUR: 'it returns false'. Refute it at one input. -/
def cutPairsWrong : ChangeSpec := { name := "cutPairs", fn := fun _ => fun
  | [d1, d2, d3, d4] => { results := [.lit (.bool false)], args := [d1, d2, d3, d4] }
  | _ => none }
def CutPairsWrongFalsely : Prop := cutPairsRow.holds Try.pinned (OpenSpec.ofChange cutPairsWrong)

/-- 'tollbarlaw8.CutEnds': WHATEVER THE INPUT: true; the input reads as it did. -/
def cutEndsSpec : ChangeSpec := { name := "cutEnds", fn := fun _ => fun
  | [d1, d2, d3] => { results := [.lit (.bool true)], args := [d1, d2, d3] }
  | _ => none }
def cutEndsRow : OpenClaim := { program := "ytmodkhcfihlhgaa", sum := "30770c660fb89434eaf5ef00b5312bbcb20507ee9c629fe383d219d79abbc2f4", func := "tollbar/tollbarlaw8.CutEnds", spec := "cutEnds", apart := false }
def CutEndsSaid : Prop := cutEndsRow.holds Try.pinned (OpenSpec.ofChange cutEndsSpec)

/-- ITS FALSE NEIGHBOUR: 'it returns false'. Refute it at one input. -/
def cutEndsWrong : ChangeSpec := { name := "cutEnds", fn := fun _ => fun
  | [d1, d2, d3] => { results := [.lit (.bool false)], args := [d1, d2, d3] }
  | _ => none }
def CutEndsWrongFalsely : Prop := cutEndsRow.holds Try.pinned (OpenSpec.ofChange cutEndsWrong)

/-- 'tollbarlaw9.Flows': WHATEVER THE INPUT: true; the input reads as it did. -/
def flowsSpec : ChangeSpec := { name := "flows", fn := fun _ => fun
  | [d1, d2, d3, d4, d5, d6] => { results := [.lit (.bool true)], args := [d1, d2, d3, d4, d5, d6] }
  | _ => none }
def flowsRow : OpenClaim := { program := "ytmodkhcfihlhgaa", sum := "30770c660fb89434eaf5ef00b5312bbcb20507ee9c629fe383d219d79abbc2f4", func := "tollbar/tollbarlaw9.Flows", spec := "flows", apart := false }
def FlowsSaid : Prop := flowsRow.holds Try.pinned (OpenSpec.ofChange flowsSpec)

/-- ITS FALSE NEIGHBOUR: 'it returns false'. Refute it at one input. -/
def flowsWrong : ChangeSpec := { name := "flows", fn := fun _ => fun
  | [d1, d2, d3, d4, d5, d6] => { results := [.lit (.bool false)], args := [d1, d2, d3, d4, d5, d6] }
  | _ => none }
def FlowsWrongFalsely : Prop := flowsRow.holds Try.pinned (OpenSpec.ofChange flowsWrong)

/-- 'tollbarlaw9.StreamMoves': WHATEVER THE INPUT: true; the input reads as it did. -/
def streamMovesSpec : ChangeSpec := { name := "streamMoves", fn := fun _ => fun
  | [d1, d2, d3, d4, d5] => { results := [.lit (.bool true)], args := [d1, d2, d3, d4, d5] }
  | _ => none }
def streamMovesRow : OpenClaim := { program := "ytmodkhcfihlhgaa", sum := "30770c660fb89434eaf5ef00b5312bbcb20507ee9c629fe383d219d79abbc2f4", func := "tollbar/tollbarlaw9.StreamMoves", spec := "streamMoves", apart := false }
def StreamMovesSaid : Prop := streamMovesRow.holds Try.pinned (OpenSpec.ofChange streamMovesSpec)

/-- ITS FALSE NEIGHBOUR: 'it returns false'. Refute it at one input. -/
def streamMovesWrong : ChangeSpec := { name := "streamMoves", fn := fun _ => fun
  | [d1, d2, d3, d4, d5] => { results := [.lit (.bool false)], args := [d1, d2, d3, d4, d5] }
  | _ => none }
def StreamMovesWrongFalsely : Prop := streamMovesRow.holds Try.pinned (OpenSpec.ofChange streamMovesWrong)

/-- 'tollbarlaw9.StreamBack': WHATEVER THE INPUT: true; the input reads as it did. -/
def streamBackSpec : ChangeSpec := { name := "streamBack", fn := fun _ => fun
  | [d1, d2, d3, d4, d5] => { results := [.lit (.bool true)], args := [d1, d2, d3, d4, d5] }
  | _ => none }
def streamBackRow : OpenClaim := { program := "ytmodkhcfihlhgaa", sum := "30770c660fb89434eaf5ef00b5312bbcb20507ee9c629fe383d219d79abbc2f4", func := "tollbar/tollbarlaw9.StreamBack", spec := "streamBack", apart := false }
def StreamBackSaid : Prop := streamBackRow.holds Try.pinned (OpenSpec.ofChange streamBackSpec)

/-- ITS FALSE NEIGHBOUR: 'it returns false'. Refute it at one input. -/
def streamBackWrong : ChangeSpec := { name := "streamBack", fn := fun _ => fun
  | [d1, d2, d3, d4, d5] => { results := [.lit (.bool false)], args := [d1, d2, d3, d4, d5] }
  | _ => none }
def StreamBackWrongFalsely : Prop := streamBackRow.holds Try.pinned (OpenSpec.ofChange streamBackWrong)

/-- 'tollbarlaw9.StreamSums': WHATEVER THE INPUT: true; the input reads as it did. -/
def streamSumsSpec : ChangeSpec := { name := "streamSums", fn := fun _ => fun
  | [d1, d2] => { results := [.lit (.bool true)], args := [d1, d2] }
  | _ => none }
def streamSumsRow : OpenClaim := { program := "ytmodkhcfihlhgaa", sum := "30770c660fb89434eaf5ef00b5312bbcb20507ee9c629fe383d219d79abbc2f4", func := "tollbar/tollbarlaw9.StreamSums", spec := "streamSums", apart := false }
def StreamSumsSaid : Prop := streamSumsRow.holds Try.pinned (OpenSpec.ofChange streamSumsSpec)

/-- ITS FALSE NEIGHBOUR: 'it returns false'. Refute it at one input. -/
def streamSumsWrong : ChangeSpec := { name := "streamSums", fn := fun _ => fun
  | [d1, d2] => { results := [.lit (.bool false)], args := [d1, d2] }
  | _ => none }
def StreamSumsWrongFalsely : Prop := streamSumsRow.holds Try.pinned (OpenSpec.ofChange streamSumsWrong)

/- THE SECOND FORM. 'bulk': how many values and letters a reading holds, each counted each time it is reached (what is shared counts as often as it is met; a slice's spare places count too). A statement '..UptoSaid' is the law's where the arguments, and the package variables that the reading takes, are together of bulk at most 1048576: NARROWER than '..Said'. Prove '..Said' where nothing that the law and all that it calls make is longer than what came in: it says more and counts as full. Else prove '..UptoSaid'. A law counts once. -/
mutual
def uptoBulk {H : Type} : DataW H → Nat
  | .lit (.string bytes) => bytes.length + 1
  | .lit _ => 1
  | .nil => 1
  | .ptr d => uptoBulk d + 1
  | .slice elems spare => uptoBulkAll elems + uptoBulkAll spare + 1
  | .agg parts => uptoBulkAll parts + 1
  | .iface _ d => uptoBulk d + 1
  | .map entries => uptoBulkEntries entries + 1
  | .held _ => 1
def uptoBulkAll {H : Type} : List (DataW H) → Nat
  | [] => 0
  | d :: r => uptoBulk d + uptoBulkAll r
def uptoBulkEntries {H : Type} : List (Lit × DataW H) → Nat
  | [] => 0
  | x :: r => uptoBulkEntry x + uptoBulkEntries r
def uptoBulkEntry {H : Type} : Lit × DataW H → Nat
  | (.string bytes, d) => bytes.length + uptoBulk d + 1
  | (_, d) => uptoBulk d + 1
 end
def uptoSmall : (H : Type) → List (DataW H) → Bool := fun _ ds => decide (uptoBulkAll ds ≤ 1048576)
def OpenSpec.upto (s : _root_.Go.ChangeSpec) : _root_.Go.OpenSpec := { _root_.Go.OpenSpec.ofChange s with cond := some uptoSmall }

/-- 'tollbarlaw7.Bundles', WHERE WHAT IT READS IS OF BULK AT MOST 1048576: true; the input reads as it did. -/
def bundlesUptoRow : OpenClaim := { program := "ytmodkhcfihlhgaa", sum := "30770c660fb89434eaf5ef00b5312bbcb20507ee9c629fe383d219d79abbc2f4", func := "tollbar/tollbarlaw7.Bundles", spec := "bundles", apart := false, narrowed := true }
def BundlesUptoSaid : Prop := bundlesUptoRow.holds Try.pinned (OpenSpec.upto bundlesSpec)

/-- 'tollbarlaw7.BundleFits', WHERE WHAT IT READS IS OF BULK AT MOST 1048576: true; the input reads as it did. -/
def bundleFitsUptoRow : OpenClaim := { program := "ytmodkhcfihlhgaa", sum := "30770c660fb89434eaf5ef00b5312bbcb20507ee9c629fe383d219d79abbc2f4", func := "tollbar/tollbarlaw7.BundleFits", spec := "bundleFits", apart := false, narrowed := true }
def BundleFitsUptoSaid : Prop := bundleFitsUptoRow.holds Try.pinned (OpenSpec.upto bundleFitsSpec)

/-- 'tollbarlaw7.BundleParts', WHERE WHAT IT READS IS OF BULK AT MOST 1048576: true; the input reads as it did. -/
def bundlePartsUptoRow : OpenClaim := { program := "ytmodkhcfihlhgaa", sum := "30770c660fb89434eaf5ef00b5312bbcb20507ee9c629fe383d219d79abbc2f4", func := "tollbar/tollbarlaw7.BundleParts", spec := "bundleParts", apart := false, narrowed := true }
def BundlePartsUptoSaid : Prop := bundlePartsUptoRow.holds Try.pinned (OpenSpec.upto bundlePartsSpec)

/-- 'tollbarlaw7.BundleOver', WHERE WHAT IT READS IS OF BULK AT MOST 1048576: true; the input reads as it did. -/
def bundleOverUptoRow : OpenClaim := { program := "ytmodkhcfihlhgaa", sum := "30770c660fb89434eaf5ef00b5312bbcb20507ee9c629fe383d219d79abbc2f4", func := "tollbar/tollbarlaw7.BundleOver", spec := "bundleOver", apart := false, narrowed := true }
def BundleOverUptoSaid : Prop := bundleOverUptoRow.holds Try.pinned (OpenSpec.upto bundleOverSpec)

/-- 'tollbarlaw8.Cuts', WHERE WHAT IT READS IS OF BULK AT MOST 1048576: true; the input reads as it did. -/
def cutsUptoRow : OpenClaim := { program := "ytmodkhcfihlhgaa", sum := "30770c660fb89434eaf5ef00b5312bbcb20507ee9c629fe383d219d79abbc2f4", func := "tollbar/tollbarlaw8.Cuts", spec := "cuts", apart := false, narrowed := true }
def CutsUptoSaid : Prop := cutsUptoRow.holds Try.pinned (OpenSpec.upto cutsSpec)

/-- 'tollbarlaw8.CutWorths', WHERE WHAT IT READS IS OF BULK AT MOST 1048576: true; the input reads as it did. -/
def cutWorthsUptoRow : OpenClaim := { program := "ytmodkhcfihlhgaa", sum := "30770c660fb89434eaf5ef00b5312bbcb20507ee9c629fe383d219d79abbc2f4", func := "tollbar/tollbarlaw8.CutWorths", spec := "cutWorths", apart := false, narrowed := true }
def CutWorthsUptoSaid : Prop := cutWorthsUptoRow.holds Try.pinned (OpenSpec.upto cutWorthsSpec)

/-- 'tollbarlaw8.CutPairs', WHERE WHAT IT READS IS OF BULK AT MOST 1048576: true; the input reads as it did. -/
def cutPairsUptoRow : OpenClaim := { program := "ytmodkhcfihlhgaa", sum := "30770c660fb89434eaf5ef00b5312bbcb20507ee9c629fe383d219d79abbc2f4", func := "tollbar/tollbarlaw8.CutPairs", spec := "cutPairs", apart := false, narrowed := true }
def CutPairsUptoSaid : Prop := cutPairsUptoRow.holds Try.pinned (OpenSpec.upto cutPairsSpec)

/-- 'tollbarlaw8.CutEnds', WHERE WHAT IT READS IS OF BULK AT MOST 1048576: true; the input reads as it did. -/
def cutEndsUptoRow : OpenClaim := { program := "ytmodkhcfihlhgaa", sum := "30770c660fb89434eaf5ef00b5312bbcb20507ee9c629fe383d219d79abbc2f4", func := "tollbar/tollbarlaw8.CutEnds", spec := "cutEnds", apart := false, narrowed := true }
def CutEndsUptoSaid : Prop := cutEndsUptoRow.holds Try.pinned (OpenSpec.upto cutEndsSpec)

/-- 'tollbarlaw9.Flows', WHERE WHAT IT READS IS OF BULK AT MOST 1048576: true; the input reads as it did. -/
def flowsUptoRow : OpenClaim := { program := "ytmodkhcfihlhgaa", sum := "30770c660fb89434eaf5ef00b5312bbcb20507ee9c629fe383d219d79abbc2f4", func := "tollbar/tollbarlaw9.Flows", spec := "flows", apart := false, narrowed := true }
def FlowsUptoSaid : Prop := flowsUptoRow.holds Try.pinned (OpenSpec.upto flowsSpec)

/-- 'tollbarlaw9.StreamMoves', WHERE WHAT IT READS IS OF BULK AT MOST 1048576: true; the input reads as it did. -/
def streamMovesUptoRow : OpenClaim := { program := "ytmodkhcfihlhgaa", sum := "30770c660fb89434eaf5ef00b5312bbcb20507ee9c629fe383d219d79abbc2f4", func := "tollbar/tollbarlaw9.StreamMoves", spec := "streamMoves", apart := false, narrowed := true }
def StreamMovesUptoSaid : Prop := streamMovesUptoRow.holds Try.pinned (OpenSpec.upto streamMovesSpec)

/-- 'tollbarlaw9.StreamBack', WHERE WHAT IT READS IS OF BULK AT MOST 1048576: true; the input reads as it did. -/
def streamBackUptoRow : OpenClaim := { program := "ytmodkhcfihlhgaa", sum := "30770c660fb89434eaf5ef00b5312bbcb20507ee9c629fe383d219d79abbc2f4", func := "tollbar/tollbarlaw9.StreamBack", spec := "streamBack", apart := false, narrowed := true }
def StreamBackUptoSaid : Prop := streamBackUptoRow.holds Try.pinned (OpenSpec.upto streamBackSpec)

/-- 'tollbarlaw9.StreamSums', WHERE WHAT IT READS IS OF BULK AT MOST 1048576: true; the input reads as it did. -/
def streamSumsUptoRow : OpenClaim := { program := "ytmodkhcfihlhgaa", sum := "30770c660fb89434eaf5ef00b5312bbcb20507ee9c629fe383d219d79abbc2f4", func := "tollbar/tollbarlaw9.StreamSums", spec := "streamSums", apart := false, narrowed := true }
def StreamSumsUptoSaid : Prop := streamSumsUptoRow.holds Try.pinned (OpenSpec.upto streamSumsSpec)

end Rows
end Go.Proofs.Ytmodkhcfihlhgaa
