/-
  Paths or a cut, as numbers: what Route may tell, and what follows of it. No program here.
-/
import Derived.Test.YtlpohlcmjnlbhaaMathStrand
import Derived.Test.YtlpohlcmjnlbhaaMathMost
set_option maxRecDepth 20000
namespace Go.Proofs.Ytlpohlcmjnlbhaa

def routeB (V : Int) (L : List Lk) (caps : List Int) (s t R : Int) : Bool := mayG V L && capsB L caps && (isV V s && isV V t) && !(s == t) && decide (1 ≤ R) && decide (R ≤ 4611686018427387904)

/-- What Route may tell. -/
def RouteIs (V : Int) (L : List Lk) (caps : List Int) (s t R : Int) (ps : List Pth) (vs : List Int) (z : Int) : Prop :=
  (routeB V L caps s t R = true ∧ z = 0 ∧ ((bmay V L s t R ps = true ∧ fitsV V L caps ps = true ∧ vs = []) ∨ (ps = [] ∧ provB V L caps s t R vs = true))) ∨ (routeB V L caps s t R = false ∧ z = 1600 ∧ ps = [] ∧ vs = [])

theorem routeB_parts {V : Int} {L : List Lk} {caps : List Int} {s t R : Int} (h : routeB V L caps s t R = true) : mayG V L = true ∧ capsB L caps = true ∧ (0 ≤ s ∧ s < V) ∧ (0 ≤ t ∧ t < V) ∧ s ≠ t ∧ 1 ≤ R ∧ R ≤ 4611686018427387904 := by
  simp only [routeB, isV, Bool.and_eq_true, decide_eq_true_eq, Bool.not_eq_true', beq_eq_false_iff_ne] at h
  exact ⟨h.1.1.1.1.1, h.1.1.1.1.2, h.1.1.1.2.1, h.1.1.1.2.2, h.1.1.2, h.1.2, h.2⟩

theorem bmay_parts {V : Int} {L : List Lk} {s t R : Int} {ps : List Pth} (h : bmay V L s t R ps = true) : 1 ≤ ps.length ∧ ps.length ≤ 16 ∧ ps.all (goodP V L s t) = true ∧ isum (ratesOf ps) = R ∧ R ≤ 4611686018427387904 := by
  simp only [bmay, Bool.and_eq_true, decide_eq_true_eq] at h
  exact ⟨h.1.1.1.1, h.1.1.1.2, h.1.1.2, h.2, by rw [← h.2]; exact h.1.2⟩

theorem fits_rates {V : Int} {L : List Lk} {caps : List Int} {ps : List Pth} (h : fitsV V L caps ps = true) : capsB L caps = true ∧ loadsE V L ps = 0 ∧ ratesB caps (loadsV V L ps) = true := by
  simp only [fitsV, Bool.and_eq_true, decide_eq_true_eq] at h
  obtain ⟨⟨h1, h2⟩, h3⟩ := h
  refine ⟨h1, h2, ?_⟩
  obtain ⟨hf, hfi⟩ := loads_ok0 h2
  have hv := (loads_goes hf hfi).2
  have hl : (loadsV V L ps).length = L.length := by rw [hv, loadsQ_len]
  have hc := (capsB_parts h1).1
  refine ratesB_mk (by omega) fun i hi => ⟨(loads_bd i).1, ?_⟩
  have := List.all_eq_true.1 h3 i (List.mem_range.2 (by omega))
  exact of_decide_eq_true this

/-- Paths that may be and fit are a flow of their rate. -/
theorem route_flow {V : Nat} {L : List Lk} {caps : List Int} {s t R : Int} {ps : List Pth} (hb : bmay (V : Nat) L s t R ps = true) (hf : fitsV (V : Nat) L caps ps = true) : flowB (V : Nat) L caps (loadsV (V : Nat) L ps) s t = true ∧ gainOf L (loadsV (V : Nat) L ps) s = R := by
  obtain ⟨h1, h2, h3⟩ := fits_rates hf
  have hw : ratesB (ownC L) (loadsV (V : Nat) L ps) = true := by rw [own_caps]; exact caps_in h1 h3
  obtain ⟨b1, b2, _⟩ := back_flow hb hw
  refine ⟨?_, b2⟩
  obtain ⟨f1, _, _, _⟩ := fits_parts (flow_parts b1).1
  simp only [flowB, fitsF, Bool.and_eq_true] at b1 ⊢
  exact ⟨⟨⟨⟨⟨⟨f1, h1⟩, h3⟩, b1.1.1.1.2⟩, b1.1.1.2⟩, b1.1.2⟩, b1.2⟩

theorem route_least {V : Nat} {L : List Lk} {caps : List Int} {s t : Nat} {R : Int} {ps : List Pth} (hb : bmay (V : Nat) L (s : Int) (t : Int) R ps = true) (hf : fitsV (V : Nat) L caps ps = true) : R ≤ leastC V L caps s t := by
  obtain ⟨f1, f2⟩ := route_flow hb hf
  refine least_low (bmay_parts hb).2.2.2.2 (2 ^ V) (fun B _ hB => ?_)
  simp only [Bool.and_eq_true, Bool.not_eq_true'] at hB
  rw [← f2]
  exact flow_cut f1 (p := fun v => B.testBit v) hB.1 hB.2

theorem prov_parts {V : Int} {L : List Lk} {caps : List Int} {s t R : Int} {vs : List Int} (h : provB V L caps s t R vs = true) : mayG V L = true ∧ capsB L caps = true ∧ vertsB V vs = true ∧ s ∈ vs ∧ t ∉ vs ∧ worthX V L caps vs < R := by
  simp only [provB, cutB, leavB, Bool.and_eq_true, decide_eq_true_eq, Bool.not_eq_true', decide_eq_false_iff_not] at h
  exact ⟨h.1.1.1, h.1.1.2, h.1.2.1.1.1.2, h.1.2.1.1.2, h.1.2.2, h.2⟩

theorem prov_least {V : Nat} {L : List Lk} {caps : List Int} {s t : Nat} {R : Int} {vs : List Int} (h : provB (V : Nat) L caps (s : Int) (t : Int) R vs = true) (hs : s < V) (ht : t < V) : leastC V L caps s t < R := by
  obtain ⟨h1, h2, h3, h4, h5, h6⟩ := prov_parts h
  have hwb : worthB (V : Nat) L caps vs = true := by rw [worthB, leavB, h1, h2, h3]; rfl
  rw [worthX, if_pos hwb, wk_mem L caps vs h1 _ (Nat.le_refl _)] at h6
  have := least_under (caps := caps) h1 hs ht (p := fun v => decide ((v : Int) ∈ vs)) (by simp [h4]) (by simp [h5])
  omega

/-- Paths that fit, or vertices that prove it, never both. -/
theorem prov_none {V : Int} {L : List Lk} {caps : List Int} {s t R : Int} : provB V L caps s t R [] = false := by
  cases q : provB V L caps s t R []
  · rfl
  · obtain ⟨_, _, _, h, _⟩ := prov_parts q
    cases h

theorem verts_okI {V : Int} {vs : List Int} (h : vertsB V vs = true) (hV : V ≤ 8) : okI vs := fun i => by
  by_cases hi : i < vs.length
  · have := verts_mem h (List.getElem_mem hi)
    rw [List.getElem?_eq_getElem hi, Option.getD_some]
    simp only [isV, Bool.and_eq_true, decide_eq_true_eq] at this
    omega
  · rw [List.getElem?_eq_none (by omega)]
    simp

theorem bmay_ok {V : Int} {L : List Lk} {s t R : Int} {ps : List Pth} (h : bmay V L s t R ps = true) (hL : L.length ≤ 16) : ps.length ≤ 16 ∧ (∀ i, -9223372036854775808 ≤ rt ps i ∧ rt ps i ≤ 9223372036854775807) ∧ ∀ i, i < ps.length → okI (lk ps i) := by
  obtain ⟨_, h16, hg, hs, hR⟩ := bmay_parts h
  refine ⟨h16, fun i => ?_, fun i hi => ?_⟩
  · by_cases hi : i < ps.length
    · have hp := at2_mem hi
      have h0 := (good_parts (List.all_eq_true.1 hg _ hp)).1
      have h1 := (isum_mem (good_rates hg)).2 (at2 ps i).1 (List.mem_map.2 ⟨_, hp, rfl⟩)
      rw [hs] at h1
      unfold rt
      omega
    · unfold rt at2
      rw [List.getElem?_eq_none (by omega)]
      simp
  · have hp := at2_mem hi
    have hl := (mayP_parts (good_parts (List.all_eq_true.1 hg _ hp)).2).1
    intro j
    unfold lk
    by_cases hj : j < (at2 ps i).2.length
    · rw [List.getElem?_eq_getElem hj, Option.getD_some]
      have := List.all_eq_true.1 hl _ (List.getElem_mem hj)
      simp only [linkB, Bool.and_eq_true, decide_eq_true_eq] at this
      omega
    · rw [List.getElem?_eq_none (by omega)]
      simp

/-- If more goes, less goes. -/
theorem route_less {V : Int} {L : List Lk} {caps : List Int} {s t a b : Int} {ps qs : List Pth} {vs us : List Int} (hab : a ≤ b) (h1 : RouteIs V L caps s t a ps vs 0) (h2 : RouteIs V L caps s t b qs us 0) : qs.length = 0 ∨ 0 < ps.length := by
  rcases h1 with ⟨r1, _, h1⟩ | ⟨_, e, _⟩
  · rcases h2 with ⟨_, _, h2⟩ | ⟨_, e, _⟩
    · rcases h1 with ⟨b1, _⟩ | ⟨_, pr⟩
      · have := (bmay_parts b1).1
        right; omega
      · rcases h2 with ⟨b2, f2, _⟩ | ⟨rfl, _⟩
        · exfalso
          obtain ⟨hm, _, hs, ht, _⟩ := routeB_parts r1
          obtain ⟨vn, rfl⟩ : ∃ vn : Nat, V = (vn : Nat) := ⟨V.toNat, by have := may_small hm; omega⟩
          obtain ⟨sn, rfl⟩ : ∃ sn : Nat, s = (sn : Nat) := ⟨s.toNat, by omega⟩
          obtain ⟨tn, rfl⟩ : ∃ tn : Nat, t = (tn : Nat) := ⟨t.toNat, by omega⟩
          have x1 := route_least b2 f2
          have x2 := prov_least pr (by omega) (by omega)
          omega
        · exact .inl rfl
    · cases e
  · cases e

end Go.Proofs.Ytlpohlcmjnlbhaa
