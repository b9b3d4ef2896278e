/-
  What can be reached: as levels tell it; the reference's Reach, walked.
-/
import Derived.Test.YtlpohlcmjnlbhaaJH
import Derived.Test.YtlpohlcmjnlbhaaJI
import Derived.Test.YtlpohlcmjnlbhaaJB
set_option maxRecDepth 20000
namespace Go.Proofs.Ytlpohlcmjnlbhaa
open Go.RowKit

/-- The vertices that have a level. -/
def reachL (M : List Int) : List Int := pick (fun v => decide (0 ≤ lvAt M (v : Int))) M.length
def reachE (z : Int) : Int := if z = 0 then 0 else 1300
def shutB (V : Int) (M : List Int) (z t : Int) : Bool := decide (z = 0) && isV V t && decide (lvAt M t < 0)
def shutE (V z t : Int) : Int := if (decide (z = 0) && isV V t) = true then 0 else 1300

theorem reach_ok {M : List Int} (h : M.length ≤ 8) : okI (reachL M) ∧ (reachL M).length ≤ 8 :=
  ⟨pick_ok (by omega), Nat.le_trans (pick_len _ _) h⟩

theorem reach_mem {M : List Int} {x : Int} (h0 : 0 ≤ x) (h1 : x < M.length) : x ∈ reachL M ↔ 0 ≤ lvAt M x := by
  rw [reachL, pick_mem]
  constructor
  · rintro ⟨i, _, hi, rfl⟩
    exact of_decide_eq_true hi
  · intro h
    have e : ((x.toNat : Nat) : Int) = x := by omega
    exact ⟨x.toNat, by omega, by rw [e]; exact decide_eq_true h, e.symm⟩

/-- What is told of levels is told once. -/
theorem lvIs_there (V : Int) (ls : List Lk) (caps f : List Int) (s : Int) : ∃ M z, LvIs V ls caps f s M z := by
  cases hb : lvB V ls caps f s
  · exact ⟨[], 1000, lev_no hb⟩
  · obtain ⟨h1, h2⟩ := lvB_parts hb
    have hm := (fits_parts h1).1
    have h8 := may_small hm
    obtain ⟨vn, rfl⟩ : ∃ vn : Nat, V = (vn : Nat) := ⟨V.toNat, by omega⟩
    have hs : inV vn s := by simpa [isV, inV] using h2
    obtain ⟨M, hM⟩ := lev_there (caps := caps) (f := f) hm rfl hs
    exact ⟨M, 0, lev_yes hb rfl hM⟩

theorem caps_low {V : Int} : ∀ (ls : List Lk) (acc : Int), (capsFrom V acc ls).isSome = true → ∀ l ∈ ls, 0 ≤ l.2.2
  | [], _, _ => by simp
  | l :: r, acc, h => by
    intro x hx
    rw [capsFrom] at h
    by_cases k : linkOk V acc l = true
    · rw [if_pos k] at h
      rcases List.mem_cons.1 hx with rfl | hx
      · exact (link_bd k).1
      · exact caps_low r _ h x hx
    · rw [if_neg k] at h
      cases h

theorem may_cap {V : Int} {ls : List Lk} (h : mayG V ls = true) {i : Nat} (hi : i < ls.length) : 0 ≤ (at3 ls i).2.2 := by
  unfold mayG totalOf at h
  by_cases k : formOk V ls.length = true
  · rw [if_pos k] at h
    exact caps_low ls 0 h (at3 ls i) (by unfold at3; rw [List.getElem?_eq_getElem hi]; exact List.getElem_mem hi)
  · rw [if_neg k] at h
    cases h

def ReRel (w w1 : World) (M : List Int) (o i : Value) (wr : World) : Prop :=
  ∃ k : Nat, k ≤ M.length ∧ i = .int .i64 (k : Nat) ∧ w.grownBy wr none ∧ w1.grownBy wr none ∧ Mine wr w1.heap.size o (pick (fun v => decide (0 ≤ lvAt M (v : Int))) k).length (pick (fun v => decide (0 ≤ lvAt M (v : Int))) k)

end Go.Proofs.Ytlpohlcmjnlbhaa
