/-
  No cell of these rows narrows 'for every input' (looked for: loops, veiled, ifaces, maps, wideKeys, modest, calm, conditions, laid).
  DERIVED. THE GIVEN ROWS OF THIS SEAT. 4 by the template 'for every input the law returns true; each argument reads behind the call as it read before'; 0 by the template 'total and deterministic' (their statements: YtlpohlcmjnlbhaaTotals.lean).
  GIVEN WITH THE SEED: the statements are not yours to turn. If you find one false, say at which input.
  Laid BY PROGRAM, IN A SANDBOX (cutbox-rows.mjs): the forced cells as the released guide's own fill.sh prints them over the translation 00ae299d3536812d… (all of the seat's roots in one cut). By AI agents, Wed Nov 11 2026. No macro, syntax, notation, axiom, sorry.
-/
import Derived.Test.YtlpohlcmjnlbhaaChecked
import GoSem.Claim
import GoSem.ClaimJoined
import GoSem.ClaimMapViews
import Derived.JoinedTies
import Derived.KernelRfl
namespace Go.Proofs.Ytlpohlcmjnlbhaa
/- THE CELL 'sum', in the pinned program and in every row, IS THE sha256 OF THE DUMP (.gsa) THAT YtlpohlcmjnlbhaaProg.lean LOADS. Nothing in Lean hashes anything: it is a label: what it is worth is what the hold of that sum in a sandbox is worth. -/
noncomputable def Try.pinned : Pinned := { name := "ytlpohlcmjnlbhaa", sum := "00ae299d3536812d6e640c108f5d733535a627b3cac6418fca2466a1bd7cdb37", checked := Try.checked }
namespace Rows
def none {H : Type} : Left H := { results := [], args := [] }

/-- 'tollbarlaw16.Routes': WHATEVER THE INPUT: true; the input reads as it did. -/
def routesSpec : ChangeSpec := { name := "routes", fn := fun _ => fun
  | [d1, d2, d3, d4, d5] => { results := [.lit (.bool true)], args := [d1, d2, d3, d4, d5] }
  | _ => none }
def routesRow : OpenClaim := { program := "ytlpohlcmjnlbhaa", sum := "00ae299d3536812d6e640c108f5d733535a627b3cac6418fca2466a1bd7cdb37", func := "tollbar/tollbarlaw16.Routes", spec := "routes", unfollowed := true, recurses := true, apart := false }
def RoutesSaid : Prop := routesRow.holds Try.pinned (OpenSpec.ofChange routesSpec)

/-- ITS FALSE NEIGHBOUR: 'it returns false'. Refute it at one input. -/
def routesWrong : ChangeSpec := { name := "routes", fn := fun _ => fun
  | [d1, d2, d3, d4, d5] => { results := [.lit (.bool false)], args := [d1, d2, d3, d4, d5] }
  | _ => none }
def RoutesWrongFalsely : Prop := routesRow.holds Try.pinned (OpenSpec.ofChange routesWrong)

/-- 'tollbarlaw16.RouteEither': WHATEVER THE INPUT: true; the input reads as it did. -/
def routeEitherSpec : ChangeSpec := { name := "routeEither", fn := fun _ => fun
  | [d1, d2, d3, d4, d5] => { results := [.lit (.bool true)], args := [d1, d2, d3, d4, d5] }
  | _ => none }
def routeEitherRow : OpenClaim := { program := "ytlpohlcmjnlbhaa", sum := "00ae299d3536812d6e640c108f5d733535a627b3cac6418fca2466a1bd7cdb37", func := "tollbar/tollbarlaw16.RouteEither", spec := "routeEither", unfollowed := true, recurses := true, apart := false }
def RouteEitherSaid : Prop := routeEitherRow.holds Try.pinned (OpenSpec.ofChange routeEitherSpec)

/-- ITS FALSE NEIGHBOUR: 'it returns false'. Refute it at one input. -/
def routeEitherWrong : ChangeSpec := { name := "routeEither", fn := fun _ => fun
  | [d1, d2, d3, d4, d5] => { results := [.lit (.bool false)], args := [d1, d2, d3, d4, d5] }
  | _ => none }
def RouteEitherWrongFalsely : Prop := routeEitherRow.holds Try.pinned (OpenSpec.ofChange routeEitherWrong)

/-- 'tollbarlaw16.RouteLess': WHATEVER THE INPUT: true; the input reads as it did. -/
def routeLessSpec : ChangeSpec := { name := "routeLess", fn := fun _ => fun
  | [d1, d2, d3, d4, d5, d6] => { results := [.lit (.bool true)], args := [d1, d2, d3, d4, d5, d6] }
  | _ => none }
def routeLessRow : OpenClaim := { program := "ytlpohlcmjnlbhaa", sum := "00ae299d3536812d6e640c108f5d733535a627b3cac6418fca2466a1bd7cdb37", func := "tollbar/tollbarlaw16.RouteLess", spec := "routeLess", unfollowed := true, recurses := true, apart := false }
def RouteLessSaid : Prop := routeLessRow.holds Try.pinned (OpenSpec.ofChange routeLessSpec)

/-- ITS FALSE NEIGHBOUR: 'it returns false'. Refute it at one input. -/
def routeLessWrong : ChangeSpec := { name := "routeLess", fn := fun _ => fun
  | [d1, d2, d3, d4, d5, d6] => { results := [.lit (.bool false)], args := [d1, d2, d3, d4, d5, d6] }
  | _ => none }
def RouteLessWrongFalsely : Prop := routeLessRow.holds Try.pinned (OpenSpec.ofChange routeLessWrong)

/-- 'tollbarlaw16.RouteForms': WHATEVER THE INPUT: true; the input reads as it did. -/
def routeFormsSpec : ChangeSpec := { name := "routeForms", fn := fun _ => fun
  | [d1, d2] => { results := [.lit (.bool true)], args := [d1, d2] }
  | _ => none }
def routeFormsRow : OpenClaim := { program := "ytlpohlcmjnlbhaa", sum := "00ae299d3536812d6e640c108f5d733535a627b3cac6418fca2466a1bd7cdb37", func := "tollbar/tollbarlaw16.RouteForms", spec := "routeForms", unfollowed := true, recurses := true, apart := false }
def RouteFormsSaid : Prop := routeFormsRow.holds Try.pinned (OpenSpec.ofChange routeFormsSpec)

/-- ITS FALSE NEIGHBOUR: 'it returns false'. Refute it at one input. -/
def routeFormsWrong : ChangeSpec := { name := "routeForms", fn := fun _ => fun
  | [d1, d2] => { results := [.lit (.bool false)], args := [d1, d2] }
  | _ => none }
def RouteFormsWrongFalsely : Prop := routeFormsRow.holds Try.pinned (OpenSpec.ofChange routeFormsWrong)

/- THE SECOND FORM. 'bulk': how many values and letters a reading holds, each counted each time it is reached (what is shared counts as often as it is met; a slice's spare places count too). A statement '..UptoSaid' is the law's where the arguments, and the package variables that the reading takes, are together of bulk at most 1048576: NARROWER than '..Said'. Prove '..Said' where nothing that the law and all that it calls make is longer than what came in: it says more and counts as full. Else prove '..UptoSaid'. A law counts once. -/
mutual
def uptoBulk {H : Type} : DataW H → Nat
  | .lit (.string bytes) => bytes.length + 1
  | .lit _ => 1
  | .nil => 1
  | .ptr d => uptoBulk d + 1
  | .slice elems spare => uptoBulkAll elems + uptoBulkAll spare + 1
  | .agg parts => uptoBulkAll parts + 1
  | .iface _ d => uptoBulk d + 1
  | .map entries => uptoBulkEntries entries + 1
  | .held _ => 1
def uptoBulkAll {H : Type} : List (DataW H) → Nat
  | [] => 0
  | d :: r => uptoBulk d + uptoBulkAll r
def uptoBulkEntries {H : Type} : List (Lit × DataW H) → Nat
  | [] => 0
  | x :: r => uptoBulkEntry x + uptoBulkEntries r
def uptoBulkEntry {H : Type} : Lit × DataW H → Nat
  | (.string bytes, d) => bytes.length + uptoBulk d + 1
  | (_, d) => uptoBulk d + 1
 end
def uptoSmall : (H : Type) → List (DataW H) → Bool := fun _ ds => decide (uptoBulkAll ds ≤ 1048576)
def OpenSpec.upto (s : _root_.Go.ChangeSpec) : _root_.Go.OpenSpec := { _root_.Go.OpenSpec.ofChange s with cond := some uptoSmall }

/-- 'tollbarlaw16.Routes', WHERE WHAT IT READS IS OF BULK AT MOST 1048576: true; the input reads as it did. -/
def routesUptoRow : OpenClaim := { program := "ytlpohlcmjnlbhaa", sum := "00ae299d3536812d6e640c108f5d733535a627b3cac6418fca2466a1bd7cdb37", func := "tollbar/tollbarlaw16.Routes", spec := "routes", unfollowed := true, recurses := true, apart := false, narrowed := true }
def RoutesUptoSaid : Prop := routesUptoRow.holds Try.pinned (OpenSpec.upto routesSpec)

/-- 'tollbarlaw16.RouteEither', WHERE WHAT IT READS IS OF BULK AT MOST 1048576: true; the input reads as it did. -/
def routeEitherUptoRow : OpenClaim := { program := "ytlpohlcmjnlbhaa", sum := "00ae299d3536812d6e640c108f5d733535a627b3cac6418fca2466a1bd7cdb37", func := "tollbar/tollbarlaw16.RouteEither", spec := "routeEither", unfollowed := true, recurses := true, apart := false, narrowed := true }
def RouteEitherUptoSaid : Prop := routeEitherUptoRow.holds Try.pinned (OpenSpec.upto routeEitherSpec)

/-- 'tollbarlaw16.RouteLess', WHERE WHAT IT READS IS OF BULK AT MOST 1048576: true; the input reads as it did. -/
def routeLessUptoRow : OpenClaim := { program := "ytlpohlcmjnlbhaa", sum := "00ae299d3536812d6e640c108f5d733535a627b3cac6418fca2466a1bd7cdb37", func := "tollbar/tollbarlaw16.RouteLess", spec := "routeLess", unfollowed := true, recurses := true, apart := false, narrowed := true }
def RouteLessUptoSaid : Prop := routeLessUptoRow.holds Try.pinned (OpenSpec.upto routeLessSpec)

/-- 'tollbarlaw16.RouteForms', WHERE WHAT IT READS IS OF BULK AT MOST 1048576: true; the input reads as it did. -/
def routeFormsUptoRow : OpenClaim := { program := "ytlpohlcmjnlbhaa", sum := "00ae299d3536812d6e640c108f5d733535a627b3cac6418fca2466a1bd7cdb37", func := "tollbar/tollbarlaw16.RouteForms", spec := "routeForms", unfollowed := true, recurses := true, apart := false, narrowed := true }
def RouteFormsUptoSaid : Prop := routeFormsUptoRow.holds Try.pinned (OpenSpec.upto routeFormsSpec)

end Rows
end Go.Proofs.Ytlpohlcmjnlbhaa
