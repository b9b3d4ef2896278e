/-
  Caps of a graph, lists within caps, as numbers. No program here.
-/
import Derived.Test.YtppcncblmakekaaMathGraph
set_option maxRecDepth 20000
namespace Go.Proofs.Ytppcncblmakekaa

def capB (L : List Lk) (caps : List Int) (i : Nat) : Bool := decide (0 ≤ caps[i]?.getD 0) && decide (caps[i]?.getD 0 ≤ (at3 L i).2.2)
def capsB (L : List Lk) (caps : List Int) : Bool := decide (caps.length = L.length) && (List.range caps.length).all (capB L caps)
def underB (caps xs : List Int) : Bool := (List.range xs.length).all fun i => decide (xs[i]?.getD 0 ≤ caps[i]?.getD 0)
theorem range_next (k : Nat) (p : Nat → Bool) : (List.range (k + 1)).all p = ((List.range k).all p && p k) := by
  rw [List.range_succ, List.all_append]; simp
theorem range_stop {n k : Nat} {p : Nat → Bool} (h : k < n) (e : p k = false) : (List.range n).all p = false := by
  cases c : (List.range n).all p
  · rfl
  · rw [List.all_eq_true.1 c k (List.mem_range.2 h)] at e; cases e
def capI (caps : List Int) (i : Nat) : Int := caps[i]?.getD 0
theorem capsB_len {L : List Lk} {caps : List Int} (h : ¬ caps.length = L.length) : capsB L caps = false := by simp [capsB, h]
theorem capsB_all {L : List Lk} {caps : List Int} (h : caps.length = L.length) (k : (List.range caps.length).all (capB L caps) = true) : capsB L caps = true := by rw [capsB, k]; simp [h]
theorem capsB_stop {L : List Lk} {caps : List Int} {k : Nat} (h : k < caps.length) (e : capB L caps k = false) : capsB L caps = false := by
  rw [capsB, range_stop h e]; simp

theorem capsB_parts {L : List Lk} {caps : List Int} (h : capsB L caps = true) : caps.length = L.length ∧ ∀ i, i < L.length → 0 ≤ capI caps i ∧ capI caps i ≤ (at3 L i).2.2 := by
  simp only [capsB, Bool.and_eq_true, decide_eq_true_eq] at h
  refine ⟨h.1, fun i hi => ?_⟩
  have := List.all_eq_true.1 h.2 i (List.mem_range.2 (by omega))
  simpa [capB, capI] using this

def capSum (L : List Lk) : Nat → Int
  | 0 => 0
  | k + 1 => capSum L k + (at3 L k).2.2

theorem caps_at {V s : Int} {L : List Lk} (h : capsFrom V 0 L = some s) : ∀ k, k ≤ L.length → capsFrom V (capSum L k) (L.drop k) = some s ∧ 0 ≤ capSum L k ∧ capSum L k ≤ 4611686018427387904
  | 0, _ => ⟨by simpa [capSum] using h, by simp [capSum], by simp [capSum]⟩
  | k + 1, hk => by
    obtain ⟨a, b, c⟩ := caps_at h k (by omega)
    cases hl : linkOk V (capSum L k) (at3 L k)
    · rw [caps_stop (by omega) hl] at a; cases a
    · have := link_bd hl
      rw [caps_step (by omega) hl] at a
      exact ⟨a, by simp only [capSum]; omega, by simp only [capSum]; omega⟩

theorem may_sum {V : Int} {L : List Lk} (h : mayG V L = true) : ∀ k, k ≤ L.length → capSum L k ≤ 4611686018427387904 := by
  unfold mayG totalOf at h
  by_cases k : formOk V L.length = true
  · rw [if_pos k] at h
    obtain ⟨s, e⟩ := Option.isSome_iff_exists.1 h
    exact fun k hk => (caps_at e k hk).2.2
  · rw [if_neg k] at h; cases h

/-- Does a list lie within caps? -/
def rateIn (caps f : List Int) (i : Nat) : Bool := decide (0 ≤ f[i]?.getD 0) && decide (f[i]?.getD 0 ≤ caps[i]?.getD 0)
def ratesB (caps f : List Int) : Bool := decide (f.length = caps.length) && (List.range f.length).all (rateIn caps f)
def ownC (L : List Lk) : List Int := L.map fun l => l.2.2

theorem ratesB_len {caps f : List Int} (h : ¬ f.length = caps.length) : ratesB caps f = false := by simp [ratesB, h]
theorem ratesB_all {caps f : List Int} (h : f.length = caps.length) (k : (List.range f.length).all (rateIn caps f) = true) : ratesB caps f = true := by rw [ratesB, k]; simp [h]
theorem ratesB_stop {caps f : List Int} {k : Nat} (h : k < f.length) (e : rateIn caps f k = false) : ratesB caps f = false := by
  rw [ratesB, range_stop h e]; simp
theorem own_get (L : List Lk) (i : Nat) : (ownC L)[i]?.getD 0 = (at3 L i).2.2 := by
  unfold ownC at3
  rw [List.getElem?_map]
  cases L[i]? <;> rfl
theorem own_len (L : List Lk) : (ownC L).length = L.length := by simp [ownC]
theorem own_caps (L : List Lk) (f : List Int) : ratesB (ownC L) f = capsB L f := by
  unfold ratesB capsB
  rw [own_len]
  congr 2
  funext i
  simp [rateIn, capB, own_get]
theorem own_next {L : List Lk} {k : Nat} (h : k < L.length) : (ownC L).take (k + 1) = (ownC L).take k ++ [(at3 L k).2.2] := by
  rw [List.take_add_one, List.getElem?_eq_getElem (by rw [own_len]; exact h)]
  simp [ownC, at3, h]
theorem ratesB_parts {caps f : List Int} (h : ratesB caps f = true) : f.length = caps.length ∧ ∀ i, i < caps.length → 0 ≤ capI f i ∧ capI f i ≤ capI caps i := by
  simp only [ratesB, Bool.and_eq_true, decide_eq_true_eq] at h
  refine ⟨h.1, fun i hi => ?_⟩
  have := List.all_eq_true.1 h.2 i (List.mem_range.2 (by omega))
  simpa [rateIn, capI] using this
theorem ratesB_mk {caps f : List Int} (h : f.length = caps.length) (k : ∀ i, i < caps.length → 0 ≤ capI f i ∧ capI f i ≤ capI caps i) : ratesB caps f = true :=
  ratesB_all h (List.all_eq_true.2 fun i hi => by
    have := k i (by have := List.mem_range.1 hi; omega)
    simpa [rateIn, capI] using this)

end Go.Proofs.Ytppcncblmakekaa
