/-
  Graphs, as numbers: V vertices, links (from, to, cap). No program here.
-/
import Derived.Test.YtppcncblmakekaaMathRate
set_option maxRecDepth 20000
namespace Go.Proofs.Ytppcncblmakekaa

abbrev Lk := Int × Int × Int

def isV (V v : Int) : Bool := decide (0 ≤ v) && decide (v < V)
def joinsB (V f t : Int) : Bool := isV V f && isV V t && !(f == t)
def linkOk (V acc : Int) (l : Lk) : Bool := joinsB V l.1 l.2.1 && decide (0 ≤ l.2.2 ∧ l.2.2 ≤ 4611686018427387904 - acc)
def capsFrom (V : Int) : Int → List Lk → Option Int
  | acc, [] => some acc
  | acc, l :: r => if linkOk V acc l then capsFrom V (acc + l.2.2) r else none
def formOk (V : Int) (n : Nat) : Bool := decide (2 ≤ V ∧ V ≤ 8 ∧ n ≤ 16)
def totalOf (V : Int) (ls : List Lk) : Option Int := if formOk V ls.length then capsFrom V 0 ls else none
def mayG (V : Int) (ls : List Lk) : Bool := (totalOf V ls).isSome

def at3 (ls : List Lk) (i : Nat) : Lk := ls[i]?.getD (0, 0, 0)

theorem at3_drop (ls : List Lk) (k : Nat) (h : k < ls.length) : ls.drop k = at3 ls k :: ls.drop (k + 1) := by
  rw [List.drop_eq_getElem_cons h]
  simp [at3, List.getElem?_eq_getElem h]

theorem caps_step {V acc : Int} {ls : List Lk} {k : Nat} (h : k < ls.length) (hk : linkOk V acc (at3 ls k) = true) : capsFrom V acc (ls.drop k) = capsFrom V (acc + (at3 ls k).2.2) (ls.drop (k + 1)) := by
  rw [at3_drop ls k h, capsFrom, if_pos hk]

theorem caps_stop {V acc : Int} {ls : List Lk} {k : Nat} (h : k < ls.length) (hk : linkOk V acc (at3 ls k) = false) : capsFrom V acc (ls.drop k) = none := by
  rw [at3_drop ls k h, capsFrom, if_neg (by simp [hk])]

theorem caps_end {V acc : Int} {ls : List Lk} {k : Nat} (h : ls.length ≤ k) : capsFrom V acc (ls.drop k) = some acc := by
  rw [List.drop_eq_nil_of_le h, capsFrom]

theorem link_bd {V acc : Int} {l : Lk} (h : linkOk V acc l = true) : 0 ≤ l.2.2 ∧ l.2.2 ≤ 4611686018427387904 - acc := by
  simp only [linkOk, Bool.and_eq_true, decide_eq_true_eq] at h
  exact h.2

theorem add_one {t c : Int} (h : 0 ≤ c ∧ c ≤ 4611686018427387904 - t) : addV t [c] = t + c ∧ addB t [c] = true := by
  have e : sumFrom t [c] = some (t + c) := by
    rw [sumFrom, if_neg (by omega), sumFrom]
  simp [addV, addB, e]

theorem add_one_no {t c : Int} (h : ¬ (0 ≤ c ∧ c ≤ 4611686018427387904 - t)) : addB t [c] = false := by
  have e : sumFrom t [c] = none := by
    rw [sumFrom, if_pos (by omega)]
  simp [addB, e]

/-- Which links have the vertex v at the end f, of the first k. -/
def sel (f : Lk → Int) (ls : List Lk) (v : Int) (k : Nat) : List Int := ((List.range k).filter fun i => f (at3 ls i) == v).map fun i : Nat => (i : Int)

theorem sel_zero (f : Lk → Int) (ls : List Lk) (v : Int) : sel f ls v 0 = [] := rfl

theorem sel_yes {f : Lk → Int} {ls : List Lk} {v : Int} {k : Nat} (h : f (at3 ls k) = v) : sel f ls v (k + 1) = sel f ls v k ++ [(k : Int)] := by
  simp [sel, List.range_succ, List.filter_append, h]

theorem sel_no {f : Lk → Int} {ls : List Lk} {v : Int} {k : Nat} (h : ¬ f (at3 ls k) = v) : sel f ls v (k + 1) = sel f ls v k := by
  simp [sel, List.range_succ, List.filter_append, h]

theorem sel_len (f : Lk → Int) (ls : List Lk) (v : Int) (k : Nat) : (sel f ls v k).length ≤ k := by
  have := List.length_filter_le (fun i => f (at3 ls i) == v) (List.range k)
  simp only [sel, List.length_map]
  simpa using this

theorem sel_mem {f : Lk → Int} {ls : List Lk} {v : Int} {k : Nat} : ∀ x ∈ sel f ls v k, 0 ≤ x ∧ x < k := by
  intro x hx
  simp only [sel, List.mem_map, List.mem_filter, List.mem_range] at hx
  obtain ⟨i, ⟨hi, _⟩, rfl⟩ := hx
  omega

def totE (V : Int) (ls : List Lk) : Int := if mayG V ls then 0 else 400
def totX (V : Int) (ls : List Lk) : Int := (totalOf V ls).getD 0
/-- May Out and In answer? -/
def goodB (V : Int) (ls : List Lk) (v : Int) : Bool := mayG V ls && isV V v
def selOf (f : Lk → Int) (V : Int) (ls : List Lk) (v : Int) : List Int := if goodB V ls v then sel f ls v ls.length else []
def selE (V : Int) (ls : List Lk) (v : Int) : Int := if goodB V ls v then 0 else 400

theorem may_small {V : Int} {ls : List Lk} (h : mayG V ls = true) : 2 ≤ V ∧ V ≤ 8 ∧ ls.length ≤ 16 := by
  unfold mayG totalOf at h
  by_cases k : formOk V ls.length = true
  · simpa [formOk] using k
  · rw [if_neg k] at h
    cases h

theorem selOf_len (f : Lk → Int) (V : Int) (ls : List Lk) (v : Int) : (selOf f V ls v).length ≤ 16 := by
  unfold selOf
  by_cases h : goodB V ls v = true
  · rw [if_pos h]
    have h2 : mayG V ls = true := by
      simp only [goodB, Bool.and_eq_true] at h
      exact h.1
    have := may_small h2
    have := sel_len f ls v ls.length
    omega
  · rw [if_neg h]
    simp

theorem selOf_ok (f : Lk → Int) (V : Int) (ls : List Lk) (v : Int) : ∀ i : Nat, -9223372036854775808 ≤ (selOf f V ls v)[i]?.getD 0 ∧ (selOf f V ls v)[i]?.getD 0 ≤ 9223372036854775807 := by
  intro i
  by_cases hi : i < (selOf f V ls v).length
  · rw [List.getElem?_eq_getElem hi]
    have hm := List.getElem_mem hi
    simp only [Option.getD_some]
    unfold selOf at hm
    by_cases h : goodB V ls v = true
    · have h2 : mayG V ls = true := by
        simp only [goodB, Bool.and_eq_true] at h
        exact h.1
      have := may_small h2
      have hm2 : (selOf f V ls v)[i] ∈ sel f ls v ls.length := by
        have e : selOf f V ls v = sel f ls v ls.length := by unfold selOf; rw [if_pos h]
        rw [← e]
        exact List.getElem_mem hi
      have := sel_mem _ hm2
      omega
    · have e : selOf f V ls v = [] := by unfold selOf; rw [if_neg h]
      rw [e] at hi
      simp at hi
  · rw [List.getElem?_eq_none (by omega)]
    simp

end Go.Proofs.Ytppcncblmakekaa
