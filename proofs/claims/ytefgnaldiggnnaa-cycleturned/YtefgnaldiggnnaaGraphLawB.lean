/-
  The law GraphForms, walked.
-/
import Derived.Test.YtefgnaldiggnnaaGraphLaw
import Derived.Deep.CutBlock
set_option maxRecDepth 20000
namespace Go.Proofs.Ytefgnaldiggnnaa
open Go.RowKit

theorem Own.put {w : World} {g i : Nat} {T : TypeId} {vs : List Value} (h : Own w g T vs) (u : Value) : Own (w.setCell ⟨g, i, none⟩ u) g T (vs.set i u) := by
  unfold Own at h ⊢
  simp [World.setCell, Array.getElem?_modify, h]

theorem Own.mineE {α : Type} {E : Elt α} {w : World} {g base : Nat} (xs : List α) (n : Nat) (hn : n = xs.length) (hl : xs.length ≤ 1000) (hb : base ≤ g) (h : Own w g E.T (E.flat xs)) : MineE E w base (.slice (some ⟨g, 0, none⟩) n n) n xs := by
  subst hn
  refine ⟨E.flat_len xs, .inr ⟨g, xs.length, (E.flat xs).toArray, rfl, hb, h, Nat.le_refl _, by unfold maxLen; omega, by simp [E.flat_len], ?_⟩⟩
  rw [List.take_of_length_le (by simp [E.flat_len])]

/-- Behind the switch: a graph that may not be. -/
def FormMid (w : World) (b : Nat) (wt : World) : Prop :=
  ∃ V A n c ls, Own wt b 24 [.int .i64 V, .slice A n c] ∧ Lks wt wt.heap.size A n ls ∧ mayG V ls = false ∧ w.grownBy wt none

theorem Own.lks' {w : World} {g : Nat} (ls : List Lk) (n : Nat) (hn : n = ls.length) (hl : ls.length ≤ 1000) (hok : okLs ls = true) (h : Own w g 42 (linkE.flat ls)) : Lks w w.heap.size (some ⟨g, 0, none⟩) n ls :=
  (h.lks ls n hn hl hok).wide h.lt

def lenAt (wr : World) (b : Nat) : Nat := match wr.cell? ⟨b, 1, none⟩ with | some (.slice _ n _) => n | _ => 0

def manyL (n : Nat) : List Lk := smallL ++ List.replicate (n - 3) (2, 0, 0)

theorem many_next {n : Nat} (h : 3 ≤ n) : manyL n ++ [(2, 0, 0)] = manyL (n + 1) := by
  have e : n + 1 - 3 = (n - 3) + 1 := by omega
  rw [manyL, manyL, e, List.replicate_succ', List.append_assoc]

def FormRel (w : World) (b : Nat) (wr : World) : Prop :=
  ∃ A n c, 3 ≤ n ∧ n ≤ 17 ∧ Own wr b 24 [.int .i64 3, .slice A n c] ∧ MineE linkE wr w.heap.size (.slice A n c) n (manyL n) ∧ (Value.slice A n c).ownBlock ≠ some b ∧ w.grownBy wr none

end Go.Proofs.Ytefgnaldiggnnaa
