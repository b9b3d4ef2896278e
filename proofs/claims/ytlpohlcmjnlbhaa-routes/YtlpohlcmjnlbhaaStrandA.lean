/-
  What Split tells, as memory; what follows of it for the walks.
-/
import Derived.Test.YtlpohlcmjnlbhaaSpoilP
import Derived.Test.YtlpohlcmjnlbhaaMathStrand
import Derived.Test.YtlpohlcmjnlbhaaJK
import Derived.Test.YtlpohlcmjnlbhaaCycA
import Derived.Test.YtlpohlcmjnlbhaaJF
set_option maxRecDepth 20000
namespace Go.Proofs.Ytlpohlcmjnlbhaa
open Go.RowKit

def SplitPost (w : World) (V : Int) (L : List Lk) (f : List Int) (s t : Int) (e : Ending) (w' : World) : Prop :=
  ∃ ps z, SplitIs V L f s t ps z ∧ ∃ v, e = .returned (.tuple #[v, .int .i64 z]) ∧ OwnP w' w.heap.size v ps.length ps ∧ w.grownBy w' none

theorem flow_v {V : Int} {L : List Lk} {caps f : List Int} {s t : Int} (h : flowB V L caps f s t = true) : mayG V L = true ∧ capsB L f = true := by
  simp only [flowB, Bool.and_eq_true] at h
  obtain ⟨h1, _, _, h4⟩ := fits_parts h.1.1.1.1
  exact ⟨h1, h4⟩

theorem split_len {V : Int} {L : List Lk} {f : List Int} {s t : Int} {ps : List Pth} {z : Int} (h : SplitIs V L f s t ps z) : ps.length ≤ 16 := by
  rcases h with ⟨h1, _, h2, _⟩ | ⟨_, _, rfl⟩
  · have := may_small (flow_v h1).1
    omega
  · simp

theorem splitF_ok {V : Nat} {L : List Lk} {f : List Int} {s t : Int} {ps : List Pth} (hf : flowB (V : Nat) L f f s t = true) (h : SplitF V L f s t ps) : ps.length ≤ 16 ∧ (∀ i, bd64 (rt ps i)) ∧ ∀ i, i < ps.length → okI (lk ps i) := by
  have hm := flow_most hf
  have h16 := may_small (flow_v hf).1
  have a1 := h.most
  refine ⟨by omega, fun i => ?_, fun i hi => ?_⟩
  · by_cases hi : i < ps.length
    · have hp := at2_mem hi
      have h0 := (good_parts (List.all_eq_true.1 h.good _ hp)).1
      have h1 := (isum_mem (good_rates h.good)).2 (at2 ps i).1 (List.mem_map.2 ⟨_, hp, rfl⟩)
      rw [h.sum] at h1
      unfold rt bd64
      omega
    · unfold rt at2
      rw [List.getElem?_eq_none (by omega)]
      simp [bd64]
  · have hp := at2_mem hi
    have hl := (mayP_parts (good_parts (List.all_eq_true.1 h.good _ hp)).2).1
    intro j
    unfold lk
    by_cases hj : j < (at2 ps i).2.length
    · rw [List.getElem?_eq_getElem hj, Option.getD_some]
      have := List.all_eq_true.1 hl _ (List.getElem_mem hj)
      simp only [linkB, Bool.and_eq_true, decide_eq_true_eq] at this
      omega
    · rw [List.getElem?_eq_none (by omega)]
      simp

theorem loadQ_mem {q : List (Int × Int)} (h : ∀ p ∈ q, 0 ≤ p.1) {r x : Int} (hm : (r, x) ∈ q) : r ≤ loadQ x q := by
  induction q with
  | nil => cases hm
  | cons p l ih =>
    have h0 := h p (List.mem_cons_self)
    have hl := loadQ_nonneg (fun p hp => h p (List.mem_cons_of_mem _ hp)) x
    rw [loadQ]
    rcases List.mem_cons.1 hm with e | hm
    · rw [← e, if_pos rfl]; omega
    · have := ih (fun p hp => h p (List.mem_cons_of_mem _ hp)) hm
      split <;> omega

end Go.Proofs.Ytlpohlcmjnlbhaa
