/-
  What every program answers that is one: layer 10's awake.
-/
import Derived.Test.YtlpohlcmjnlbhaaJH
import Derived.Test.YtlpohlcmjnlbhaaBlocks
set_option maxRecDepth 20000
namespace Go.Proofs.Ytlpohlcmjnlbhaa
open Go.RowKit

theorem Levels_is (V s : Int) (A : Option Addr) (n c : Nat) (ls : List Lk) (X : Option Addr) (m d : Nat) (caps : List Int) (Y : Option Addr) (r e0 : Nat) (f : List Int) (w : World) {B B' B'' : Nat} (h : Lks w B A n ls) (hB : B ≤ w.heap.size) (hx : Row w B' X m caps) (hB' : B' ≤ w.heap.size) (hy : Row w B'' Y r f) (hB'' : B'' ≤ w.heap.size)
    (M : List Int) (z : Int) (hM : LvIs V ls caps f s M z) : Calls Try.prog 44 #[.agg #[.int .i64 V, .slice A n c], .slice X m d, .slice Y r e0, .int .i64 s] w (SelPost w M z) := by
  refine (Levels_any V s A n c ls X m d caps Y r e0 f w h hB hx hB' hy hB'').mono ?_
  rintro e w' ⟨M', z', h', k⟩
  obtain ⟨rfl, rfl⟩ := lvIs_one hM h'
  exact k

theorem LevelsS {w0 w : World} {gs gc gf p q : Nat} {os : List (Nat × TypeId × List Value)} {s : Int} (caps f M : List Int) (z : Int) (hM : LvIs 3 smallL caps f s M z) (hcapsn : p = caps.length) (hcapsl : caps.length ≤ 1000) (hcapsb : caps.all bdB = true) (mcaps : (gc, 3, ints caps) ∈ os) (hfn : q = f.length) (hfl : f.length ≤ 1000) (hfb : f.all bdB = true) (mf : (gf, 3, ints f) ∈ os) (h : SB w0 w os) (ms : (gs, 57, linkE.flat smallL) ∈ os) :
    Calls Try.prog 44 #[.agg #[.int .i64 3, .slice (some ⟨gs, 0, none⟩) 3 3], .slice (some ⟨gc, 0, none⟩) p p, .slice (some ⟨gf, 0, none⟩) q q, .int .i64 s] w (SelPost w M z) :=
  Levels_is 3 s _ 3 3 smallL _ p p caps _ q q f w (h.lks ms) (Nat.le_refl _) (h.row caps mcaps hcapsn hcapsl hcapsb) (Nat.le_refl _) (h.row f mf hfn hfl hfb) (Nat.le_refl _) M z hM

theorem small_v {v : Int} (h : inV 3 v) : v = 0 ∨ v = 1 ∨ v = 2 := by have := h.1; have := h.2; omega

theorem lv_small1 : LvIs 3 smallL [5, 4, 3] [0, 0, 3] 0 [0, 1, 2] 0 := by
  refine .inl ⟨by decide, rfl, rfl, by decide, fun v hv => ?_, fun v hv => ?_, fun u v h => ?_, fun v hv => ?_⟩
  · rcases small_v hv with rfl | rfl | rfl <;> decide
  · rcases small_v hv with rfl | rfl | rfl <;> decide
  · obtain ⟨a, ha, rfl, rfl, hr⟩ := h
    have ha : a < 6 := ha
    rcases (show a = 0 ∨ a = 1 ∨ a = 2 ∨ a = 3 ∨ a = 4 ∨ a = 5 by omega) with rfl | rfl | rfl | rfl | rfl | rfl <;> revert hr <;> decide
  · rcases small_v hv with rfl | rfl | rfl
    · exact fun h => absurd h (by decide)
    · exact fun _ => ⟨0, ⟨0, by decide, by decide, by decide, by decide⟩, by decide⟩
    · exact fun _ => ⟨1, ⟨2, by decide, by decide, by decide, by decide⟩, by decide⟩

theorem lv_small2 : LvIs 3 smallL [5, 4, 3] [0, 0, 4] 0 [] 1000 := lev_no (by decide)

end Go.Proofs.Ytlpohlcmjnlbhaa
