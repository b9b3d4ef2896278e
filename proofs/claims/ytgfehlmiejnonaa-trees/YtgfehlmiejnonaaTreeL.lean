/-
  The laws' own item.
-/
import Derived.Test.YtgfehlmiejnonaaJD
set_option maxRecDepth 20000
namespace Go.Proofs.Ytgfehlmiejnonaa
open Go.RowKit

theorem results_item {fn : Func} {t : Tmp} (h : fn.results = #[.cell t 50]) (tmps : Array Value) (w : World) {g : Nat} {x y z : Value} (hp : tmps[t]?.getD undef = .pointer (some ⟨g, 0, none⟩))
   (c0 : w.cell? ⟨g, 0, none⟩ = some x) (c1 : w.cell? ⟨g, 1, none⟩ = some y) (c2 : w.cell? ⟨g, 2, none⟩ = some z) :
    (results fn tmps).run Try.prog w = .ok (.agg #[x, y, z]) w := by
  simp [results, h, hp, c0, c1, c2, go_sem]

theorem Item_any (a b c : Int) (w : World) : Calls Try.prog 33 #[.int .i64 a, .int .i64 b, .int .i64 c] w (Says w (.agg #[.int .i64 a, .int .i64 b, .int .i64 c])) := by
  go_enter Try.func33, Try.ntmps33
  go_wp2
  have o := Own.new w 50 [.int .i64 a, .int .i64 b, .int .i64 c]
  exact bodyPost_ret (results_item rfl _ _ rfl o.three.1 o.three.2.1 o.three.2.2) rfl ⟨rfl, grow0 _ _⟩

end Go.Proofs.Ytgfehlmiejnonaa
