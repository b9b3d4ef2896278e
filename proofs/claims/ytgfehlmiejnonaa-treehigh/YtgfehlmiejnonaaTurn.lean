/-
  Links turned, in a row of the call's own.
-/
import Derived.Test.YtgfehlmiejnonaaJC
import Derived.Test.YtgfehlmiejnonaaJB
set_option maxRecDepth 20000
namespace Go.Proofs.Ytgfehlmiejnonaa
open Go.RowKit

theorem Elt.flat_set {α : Type} (E : Elt α) (j : Nat) (u : Value) (x' : α) (hj : j < E.size) : ∀ (xs : List α) (i : Nat) (x : α), xs[i]? = some x → E.enc x' = (E.enc x).set j u → E.flat (xs.set i x') = (E.flat xs).set (i * E.size + j) u
  | [], _, _, h, _ => by simp at h
  | a :: r, 0, x, h, he => by
    have hx : a = x := by simpa using h
    subst hx
    have h1 : E.flat ((a :: r).set 0 x') = E.enc x' ++ E.flat r := List.flatMap_cons
    have h2 : E.flat (a :: r) = E.enc a ++ E.flat r := List.flatMap_cons
    rw [h1, h2, he, Nat.zero_mul, Nat.zero_add, List.set_append_left _ _ (by rw [E.len]; exact hj)]
  | a :: r, i + 1, x, h, he => by
    have h0 : r[i]? = some x := by simpa using h
    have h1 : E.flat ((a :: r).set (i + 1) x') = E.enc a ++ E.flat (r.set i x') := List.flatMap_cons
    have h2 : E.flat (a :: r) = E.enc a ++ E.flat r := List.flatMap_cons
    have e : (i + 1) * E.size + j = E.size + (i * E.size + j) := by rw [Nat.add_mul, Nat.one_mul]; omega
    rw [h1, h2, Elt.flat_set E j u x' hj r i x h0 he, e, List.set_append_right _ _ (by rw [E.len]; omega), E.len, Nat.add_sub_cancel_left]

theorem MineE.put {α : Type} {E : Elt α} {w : World} {base g n cap : Nat} {xs : List α} (h : MineE E w base (.slice (some ⟨g, 0, none⟩) n cap) n xs) (i j : Nat) (x x' : α) (u : Value) (hx : xs[i]? = some x) (hj : j < E.size) (he : E.enc x' = (E.enc x).set j u) :
    MineE E (w.setCell ⟨g, i * E.size + j, none⟩ u) base (.slice (some ⟨g, 0, none⟩) n cap) n (xs.set i x') := by
  obtain ⟨h1, h2⟩ := h
  have hf := E.flat_set j u x' hj xs i x hx he
  refine ⟨by rw [hf, List.length_set]; exact h1, ?_⟩
  rcases h2 with ⟨hv, _⟩ | ⟨g', cap', cur, hv, hb, hh, hnc, hm, hsz, htk⟩
  · cases hv
  · injection hv with e1 e2 e3
    injection e1 with e1
    injection e1 with e1 _
    subst e1 e3
    refine .inr ⟨g, cap, cur.setIfInBounds (i * E.size + j) u, rfl, hb, block_put hh u, hnc, hm, by simpa using hsz, ?_⟩
    rw [hf, ← htk, Array.toList_setIfInBounds, List.take_set]

theorem MineE.frozen {α : Type} {E : Elt α} {w : World} {base g n cap : Nat} {xs : List α} (h : MineE E w base (.slice (some ⟨g, 0, none⟩) n cap) n xs) (i : Nat) : w.frozen? ⟨g, i, none⟩ = false := by
  rcases h.2 with ⟨hv, _⟩ | ⟨g', cap', cur, hv, hb, hh, _⟩
  · cases hv
  · injection hv with e1 e2 e3
    injection e1 with e1
    injection e1 with e1 _
    subst e1
    simp [World.frozen?, hh]

theorem turn_next {ls : List Lk} {k : Nat} : ((turnK ls k).set k ((at3 ls k).2.1, (at3 ls k).2.1, (at3 ls k).2.2)).set k ((at3 ls k).2.1, (at3 ls k).1, (at3 ls k).2.2) = turnK ls (k + 1) := by
  rw [List.set_set]
  rfl

theorem turn_here {ls : List Lk} {k : Nat} (h : k < ls.length) : (turnK ls k)[k]? = some (at3 ls k) := by
  have h1 := turn_at ls k k h
  rw [if_neg (by omega)] at h1
  rw [← h1]
  unfold at3
  rw [List.getElem?_eq_getElem (by rw [turn_len]; exact h)]
  rfl

end Go.Proofs.Ytgfehlmiejnonaa
