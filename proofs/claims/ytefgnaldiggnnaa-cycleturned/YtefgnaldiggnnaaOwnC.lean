/-
  Rows of the call's own, made whole and written over.
-/
import Derived.Test.YtefgnaldiggnnaaOwnB
set_option maxRecDepth 20000
namespace Go.Proofs.Ytefgnaldiggnnaa
open Go.RowKit

theorem Own.of_made {w : World} {base g n : Nat} {T : TypeId} {xs : List Value} (h : w.ownsRow base T 1 (.slice (some ⟨g, 0, none⟩) n n) n xs) : Own w g T xs := by
  rcases h.2 with ⟨hv, _⟩ | ⟨g', cap, cur, hv, _, hh, _, _, hsz, htk⟩
  · cases hv
  · injection hv with e1 e2 e3
    injection e1 with e1
    injection e1 with e1 _
    subst e1 e3
    have : cur.toList.take (n * 1) = cur.toList := List.take_of_length_le (by simp [hsz])
    rw [this] at htk
    unfold Own
    rw [← htk]
    exact hh

theorem ints_zero (n : Nat) : List.replicate n (Value.int .i64 0) = ints (List.replicate n 0) := by simp [ints]

theorem Own.mine {w : World} {base g n : Nat} {ms : List Int} (h : Own w g 3 (ints ms)) (hb : base ≤ g) (hl : ms.length = n) (hn : n ≤ 1000) : Mine w base (.slice (some ⟨g, 0, none⟩) n n) n ms := by
  refine ⟨by rw [ints_len]; omega, .inr ⟨g, n, (ints ms).toArray, rfl, hb, h, Nat.le_refl _, by unfold maxLen; omega, by simp [ints_len, hl], ?_⟩⟩
  exact List.take_of_length_le (by simp [ints_len, hl])

theorem Own.setAt {w : World} {g : Nat} {T : TypeId} {vs : List Value} (h : Own w g T vs) (i : Nat) (u : Value) : Own (w.setCell ⟨g, i, none⟩ u) g T (vs.set i u) := by
  unfold Own at h ⊢
  simp [World.setCell, Array.getElem?_modify, h]

theorem ints_set (ms : List Int) (i : Nat) (x : Int) : (ints ms).set i (.int .i64 x) = ints (ms.set i x) := by simp [ints, List.map_set]

/-- A number of a row of the call's own, written over. -/
theorem Mine.set {w : World} {base g n cap : Nat} {xs : List Int} (h : Mine w base (.slice (some ⟨g, 0, none⟩) n cap) n xs) (i : Nat) (x : Int) (hi : i < n) : Mine (w.setCell ⟨g, i, none⟩ (.int .i64 x)) base (.slice (some ⟨g, 0, none⟩) n cap) n (xs.set i x) := by
  have hl := h.len
  obtain ⟨_, h2⟩ := h
  refine ⟨by rw [ints_len, List.length_set]; omega, ?_⟩
  rcases h2 with ⟨e, rfl⟩ | ⟨g', cap', cur, e, hb, hh, hnc, hm, hsz, htk⟩
  · omega
  · injection e with e1 e2 e3
    have e1 := Option.some.inj e1
    injection e1 with e1
    subst e1 e3
    refine .inr ⟨g, cap, cur.setIfInBounds i (.int .i64 x), rfl, hb, block_put hh _, hnc, hm, by simpa using hsz, ?_⟩
    have : ints (xs.set i x) = (ints xs).set i (.int .i64 x) := by simp [ints, List.map_set]
    rw [this, ← htk, Array.toList_setIfInBounds, List.take_set]

theorem Mine.frozen {w : World} {base g n cap : Nat} {xs : List Int} (h : Mine w base (.slice (some ⟨g, 0, none⟩) n cap) n xs) (i : Nat) : w.frozen? ⟨g, i, none⟩ = false := by
  rcases h.2 with ⟨e, rfl⟩ | ⟨g', cap', cur, e, hb, hh, _⟩
  · cases e
  · injection e with e1 e2 e3
    have e1 := Option.some.inj e1
    injection e1 with e1
    subst e1
    simp [World.frozen?, hh]

end Go.Proofs.Ytefgnaldiggnnaa
