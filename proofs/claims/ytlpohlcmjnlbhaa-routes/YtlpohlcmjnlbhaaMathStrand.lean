/-
  A flow as paths, as numbers: what Split may tell; what paths lie on is a flow of their rates; without a cycle it is the whole flow; what is left has no gain. No program here.
-/
import Derived.Test.YtlpohlcmjnlbhaaMathBundle
import Derived.Test.YtlpohlcmjnlbhaaJB
set_option maxRecDepth 20000
namespace Go.Proofs.Ytlpohlcmjnlbhaa

/-- What rates over links bring to a vertex, link by link. -/
def gq (L : List Lk) (v : Int) : List (Int × Int) → Int
  | [] => 0
  | q :: r => ((if frm L q.2 = v then q.1 else 0) - (if tow L q.2 = v then q.1 else 0)) + gq L v r

theorem gq_app (L : List Lk) (v : Int) (a b : List (Int × Int)) : gq L v (a ++ b) = gq L v a + gq L v b := by
  induction a with
  | nil => simp [gq]
  | cons x r ih => rw [List.cons_append, gq, gq, ih]; omega

theorem loadsQ_out {n i : Nat} (h : n ≤ i) (q : List (Int × Int)) : (loadsQ n q)[i]?.getD 0 = 0 := by
  rw [List.getElem?_eq_none (by rw [loadsQ_len]; exact h)]
  rfl

/-- The gain of loads is what the rates bring. -/
theorem gain_loads (L : List Lk) (v : Int) : ∀ q : List (Int × Int), (∀ p ∈ q, 0 ≤ p.2 ∧ p.2 < (L.length : Int)) → gainOf L (loadsQ L.length q) v = gq L v q
  | [], _ => by
    rw [loadsQ_nil, gq]
    exact gk_zero L _ v _
  | p :: r, h => by
    have ih := gain_loads L v r (fun x hx => h x (List.mem_cons_of_mem _ hx))
    obtain ⟨h0, h1⟩ := h p (List.mem_cons_self)
    have hp : ∀ j : Nat, (loadsQ L.length (p :: r))[j]?.getD 0 = (loadsQ L.length r)[j]?.getD 0 + if j = p.2.toNat then p.1 else 0 := fun j => by
      by_cases hj : j < L.length
      · rw [loadsQ_get hj, loadsQ_get hj, loadQ]
        by_cases e : j = p.2.toNat
        · rw [if_pos e, if_pos (by omega)]; omega
        · rw [if_neg e, if_neg (by omega)]; omega
      · rw [loadsQ_out (by omega), loadsQ_out (by omega), if_neg (by omega)]; rfl
    unfold gainOf at ih ⊢
    rw [gk_put hp, if_pos (by omega), ih, gq, frm, tow]
    omega

/-- A chain of links brings its rate from its first to its last vertex. -/
theorem gq_chain (L : List Lk) (v r : Int) : ∀ (xs : List Int) (s : Int), chain L s xs = true → gq L v (xs.map fun x => (r, x)) = (if s = v then r else 0) - (if endOf L s xs = v then r else 0)
  | [], s, _ => by rw [List.map_nil, gq, endOf]; omega
  | x :: xs, s, h => by
    simp only [chain, Bool.and_eq_true, beq_iff_eq] at h
    have ih := gq_chain L v r xs (tow L x) h.2
    rw [List.map_cons, gq, ih, endOf]
    simp only [h.1]
    omega

theorem mayP_parts {V : Int} {L : List Lk} {s t : Int} {xs : List Int} (h : mayP V L s t xs = true) : allL L.length xs = true ∧ xs.length ≤ 64 ∧ chain L s xs = true ∧ endOf L s xs = t ∧ xs ≠ [] := by
  simp only [mayP, goesW, formW, Bool.and_eq_true, decide_eq_true_eq, beq_iff_eq, Bool.not_eq_true'] at h
  obtain ⟨⟨⟨⟨h1, h2⟩, h3⟩, h4⟩, _⟩ := h
  rw [end_at] at h4
  exact ⟨h1.2, h1.1.2, h2, h4, by intro e; rw [e] at h3; cases h3⟩

theorem good_parts {V : Int} {L : List Lk} {s t : Int} {p : Pth} (h : goodP V L s t p = true) : 0 < p.1 ∧ mayP V L s t p.2 = true := by
  simpa [goodP] using h

theorem gq_good {V : Int} {L : List Lk} {s t : Int} (v : Int) : ∀ {ps : List Pth}, ps.all (goodP V L s t) = true → gq L v (pairsOf ps) = (if s = v then isum (ratesOf ps) else 0) - (if t = v then isum (ratesOf ps) else 0)
  | [], _ => by simp [pairsOf, gq, ratesOf, isum]
  | p :: r, h => by
    rw [List.all_cons, Bool.and_eq_true] at h
    have ih := gq_good v (ps := r) h.2
    obtain ⟨_, hm⟩ := good_parts h.1
    obtain ⟨_, _, hc, he, _⟩ := mayP_parts hm
    have e1 : pairsOf (p :: r) = (p.2.map fun x => (p.1, x)) ++ pairsOf r := rfl
    have e2 : isum (ratesOf (p :: r)) = p.1 + isum (ratesOf r) := rfl
    rw [e1, gq_app, gq_chain L v p.1 p.2 s hc, he, ih, e2]
    split <;> split <;> omega

theorem good_links {V : Int} {L : List Lk} {s t : Int} {ps : List Pth} (h : ps.all (goodP V L s t) = true) : ∀ p ∈ pairsOf ps, 0 ≤ p.2 ∧ p.2 < (L.length : Int) := by
  intro p hp
  simp only [pairsOf, List.mem_flatMap, List.mem_map] at hp
  obtain ⟨q, hq, x, hx, rfl⟩ := hp
  obtain ⟨_, hm⟩ := good_parts (List.all_eq_true.1 h q hq)
  have := List.all_eq_true.1 (mayP_parts hm).1 x hx
  simpa [linkB] using this

/-- What good paths lie on: their rates leave the source and come to the sink. -/
theorem good_gain {V : Int} {L : List Lk} {s t : Int} {ps : List Pth} (h : ps.all (goodP V L s t) = true) (v : Int) : gainOf L (loadsQ L.length (pairsOf ps)) v = (if s = v then isum (ratesOf ps) else 0) - (if t = v then isum (ratesOf ps) else 0) := by
  rw [gain_loads L v _ (good_links h), gq_good v h]

theorem isum_mem {xs : List Int} (h : ∀ x ∈ xs, 0 ≤ x) : 0 ≤ isum xs ∧ ∀ x ∈ xs, x ≤ isum xs := by
  induction xs with
  | nil => exact ⟨Int.le_refl _, fun x hx => by cases hx⟩
  | cons a r ih =>
    obtain ⟨i1, i2⟩ := ih (fun x hx => h x (List.mem_cons_of_mem _ hx))
    have ha := h a (List.mem_cons_self)
    have e : isum (a :: r) = a + isum r := rfl
    refine ⟨by omega, fun x hx => ?_⟩
    rcases List.mem_cons.1 hx with rfl | hx
    · omega
    · have := i2 x hx; omega

theorem good_sound {V : Int} {L : List Lk} {s t : Int} {ps : List Pth} (h : ps.all (goodP V L s t) = true) (hs : isum (ratesOf ps) ≤ 4611686018427387904) : soundL L.length ps = true := by
  rw [soundL, List.all_eq_true]
  intro p hp
  obtain ⟨h0, hm⟩ := good_parts (List.all_eq_true.1 h p hp)
  obtain ⟨ha, hl, _⟩ := mayP_parts hm
  have := (isum_mem (good_rates h)).2 p.1 (List.mem_map.2 ⟨p, hp, rfl⟩)
  have e1 : decide (0 ≤ p.1) = true := decide_eq_true (by omega)
  have e2 : decide (p.1 ≤ 4611686018427387904) = true := decide_eq_true (by omega)
  simp only [soundB, rateB, linksR, e1, e2, ha, hl, decide_true, Bool.and_self]

/-- What Split may tell. -/
def SplitIs (V : Int) (L : List Lk) (f : List Int) (s t : Int) (ps : List Pth) (z : Int) : Prop :=
  (flowB V L f f s t = true ∧ z = 0 ∧ ps.length ≤ L.length ∧ ps.all (goodP V L s t) = true ∧ (∀ i : Nat, i < L.length → loadQ (i : Int) (pairsOf ps) ≤ f[i]?.getD 0) ∧ isum (ratesOf ps) = gainOf L f s) ∨ (flowB V L f f s t = false ∧ z = 1500 ∧ ps = [])

/-- All that follows of it, for a flow. -/
structure SplitF (V : Nat) (L : List Lk) (f : List Int) (s t : Int) (ps : List Pth) : Prop where
  most : ps.length ≤ L.length
  good : ps.all (goodP (V : Nat) L s t) = true
  sum : isum (ratesOf ps) = gainOf L f s
  err : loadsE (V : Nat) L ps = 0
  loads : loadsV (V : Nat) L ps = loadsQ L.length (pairsOf ps)
  within : ratesB f (loadsQ L.length (pairsOf ps)) = true
  gain : ∀ v : Nat, v < V → gainOf L (loadsQ L.length (pairsOf ps)) (v : Int) = gainOf L f (v : Int)

theorem split_flow {V : Nat} {L : List Lk} {f : List Int} {s t : Int} {ps : List Pth} {z : Int} (hf : flowB (V : Nat) L f f s t = true) (h : SplitIs (V : Nat) L f s t ps z) : z = 0 ∧ SplitF V L f s t ps := by
  rcases h with ⟨_, hz, hm, hg, hb, hs⟩ | ⟨q, _⟩
  · obtain ⟨h1, h2, h3, h4, h5, h6⟩ := flow_parts hf
    obtain ⟨f1, f2, f3, f4⟩ := fits_parts h1
    have h16 := may_small f1
    have hmost := flow_most hf
    have snd := good_sound hg (by rw [hs]; exact hmost.2)
    have hform : formB (V : Nat) L ps = true := formB_yes f1 (by omega) snd
    have hfine : fineL L.length (pairsOf ps) = true := fine_mk fun i hi => by
      have a := hb i hi
      have b := f_bd f4 hi
      have c := may_sum f1 (i + 1) (by omega)
      have d := (gk_bd (f := f) 0 f4 i (by omega)).1
      rw [capSum] at c
      omega
    obtain ⟨g1, g2⟩ := loads_goes hform hfine
    have hlen := flow_len hf
    refine ⟨hz, ⟨hm, hg, hs, g1, g2, ?_, fun v hv => ?_⟩⟩
    · refine ratesB_mk (by rw [loadsQ_len, hlen]) fun i hi => ?_
      unfold capI
      rw [loadsQ_get (by omega)]
      exact ⟨loadQ_nonneg (pairs_nonneg snd) _, hb i (by omega)⟩
    · rw [good_gain hg, hs]
      by_cases e1 : (v : Int) = s
      · subst e1
        rw [if_pos rfl, if_neg (fun e => h4 e.symm)]; omega
      · by_cases e2 : (v : Int) = t
        · subst e2
          rw [if_neg h4, if_pos rfl, flow_ends hf]; omega
        · rw [if_neg (fun e => e1 e.symm), if_neg (fun e => e2 e.symm), h6 v hv e1 e2]; rfl
  · rw [hf] at q; cases q

theorem splitF_may {V : Nat} {L : List Lk} {f : List Int} {s t : Int} {ps : List Pth} (hf : flowB (V : Nat) L f f s t = true) (h : SplitF V L f s t ps) : (gainOf L f s = 0 → ps = []) ∧ (0 < gainOf L f s → bmay (V : Nat) L s t (gainOf L f s) ps = true) := by
  have hm := may_small (fits_parts (flow_parts hf).1).1
  have hmost := flow_most hf
  refine ⟨fun e => ?_, fun e => ?_⟩
  · cases ps with
    | nil => rfl
    | cons p r =>
      have := good_sum (ps := p :: r) (by simp) h.good
      rw [h.sum] at this
      omega
  · have hne : 1 ≤ ps.length := by
      cases ps with
      | nil => have := h.sum; simp only [ratesOf, List.map_nil, isum] at this; omega
      | cons p r => simp
    have a1 := h.most
    rw [bmay, h.good, h.sum]
    have e1 : decide (1 ≤ ps.length) = true := decide_eq_true hne
    have e2 : decide (ps.length ≤ 16) = true := decide_eq_true (by omega)
    have e3 : decide (gainOf L f s ≤ 4611686018427387904) = true := decide_eq_true hmost.2
    rw [e1, e2, e3]
    simp

/-- Without a cycle its paths lie on just what it is. -/
theorem split_whole {V : Nat} {L : List Lk} {f : List Int} {s t : Int} {ps : List Pth} (hf : flowB (V : Nat) L f f s t = true) (h : SplitF V L f s t ps) (hc : ¬ CycP L f) : loadsQ L.length (pairsOf ps) = f := by
  have hm := (fits_parts (flow_parts hf).1).1
  have hl := flow_len hf
  refine same_list (n := L.length) hl (loadsQ_len _ _) (same_gains hm (fun i hi => ?_) h.gain hc)
  exact rates_at h.within (by omega)

/-- The loads of paths that may be are a flow of their rate. -/
theorem back_flow {V : Nat} {L : List Lk} {s t R : Int} {ps : List Pth} (hb : bmay (V : Nat) L s t R ps = true) (hw : ratesB (ownC L) (loadsV (V : Nat) L ps) = true) : flowB (V : Nat) L (loadsV (V : Nat) L ps) (loadsV (V : Nat) L ps) s t = true ∧ gainOf L (loadsV (V : Nat) L ps) s = R ∧ 0 < R := by
  simp only [bmay, Bool.and_eq_true, decide_eq_true_eq] at hb
  obtain ⟨⟨⟨⟨b1, b2⟩, b3⟩, b4⟩, b5⟩ := hb
  obtain ⟨p, hp⟩ : ∃ p, p ∈ ps := by
    cases ps with
    | nil => simp at b1
    | cons p r => exact ⟨p, List.mem_cons_self⟩
  obtain ⟨hp0, hpm⟩ := good_parts (List.all_eq_true.1 b3 p hp)
  obtain ⟨pa, _, _, pe, pn⟩ := mayP_parts hpm
  have hgo : goesW (V : Nat) L s p.2 = true := by
    simp only [mayP, Bool.and_eq_true] at hpm
    exact hpm.1.1.1
  simp only [goesW, formW, Bool.and_eq_true] at hgo
  obtain ⟨⟨⟨⟨hm, hsv⟩, _⟩, _⟩, _⟩ := hgo
  have hs : 0 ≤ s ∧ s < (V : Nat) := by simpa [isV] using hsv
  have ht := end_in hm p.2 s pa hs
  rw [pe] at ht
  have hst : s ≠ t := by
    intro e
    simp only [mayP, Bool.and_eq_true, noDup, decide_eq_true_eq] at hpm
    have hnd := hpm.2
    rw [vsOf, List.nodup_cons] at hnd
    apply hnd.1
    have hx := end_at L p.2 s
    rw [pe, ← e] at hx
    cases hq : p.2 with
    | nil => exact absurd hq pn
    | cons a r =>
      rw [hq] at hx
      rw [vsOf, List.length_cons, List.getElem?_cons_succ] at hx
      have hlt : r.length < ((a :: r).map (tow L)).length := by simp
      rw [List.getElem?_eq_getElem hlt, Option.getD_some] at hx
      rw [← hx]
      exact List.getElem_mem hlt
  have hcap : capsB L (loadsV (V : Nat) L ps) = true := by rw [← own_caps]; exact hw
  have hlen := (capsB_parts hcap).1
  have hLpos : 0 < L.length := by
    cases hq : p.2 with
    | nil => exact absurd hq pn
    | cons a r =>
      rw [hq] at pa
      simp only [allL, List.all_cons, linkB, Bool.and_eq_true, decide_eq_true_eq] at pa
      omega
  have hE : loadsE (V : Nat) L ps = 0 := by
    rcases loads_ne (V := (V : Nat)) (L := L) (ps := ps) with e | e | e
    · exact e
    · exfalso
      have : loadsV (V : Nat) L ps = [] := by
        cases hf : formB (V : Nat) L ps
        · exact (loads_form hf).2
        · cases hfi : fineL L.length (pairsOf ps)
          · exact (loads_over hf hfi).2
          · rw [(loads_goes hf hfi).1] at e; cases e
      rw [this] at hlen
      simp at hlen
      omega
    · exfalso
      have : loadsV (V : Nat) L ps = [] := by
        cases hf : formB (V : Nat) L ps
        · exact (loads_form hf).2
        · cases hfi : fineL L.length (pairsOf ps)
          · exact (loads_over hf hfi).2
          · rw [(loads_goes hf hfi).1] at e; cases e
      rw [this] at hlen
      simp at hlen
      omega
  obtain ⟨hform, hfine⟩ := loads_ok0 hE
  have hv := (loads_goes hform hfine).2
  have hR : 0 < R := by
    have := good_sum (ps := ps) (by omega) b3
    omega
  have hg : ∀ v : Int, gainOf L (loadsV (V : Nat) L ps) v = (if s = v then R else 0) - (if t = v then R else 0) := fun v => by
    rw [hv, good_gain b3, b5]
  have hgs : gainOf L (loadsV (V : Nat) L ps) s = R := by rw [hg, if_pos rfl, if_neg (fun e => hst e.symm)]; omega
  have hr : ratesB (loadsV (V : Nat) L ps) (loadsV (V : Nat) L ps) = true := ratesB_mk rfl fun j hj => ⟨((capsB_parts hcap).2 j (by omega)).1, Int.le_refl _⟩
  refine ⟨?_, hgs, hR⟩
  simp only [flowB, fitsF, hm, hcap, hr, hgs, Bool.and_eq_true, Bool.not_eq_true', beq_eq_false_iff_ne, decide_eq_true_eq, isV, List.all_eq_true, List.mem_range, Int.toNat_natCast]
  refine ⟨⟨⟨⟨⟨⟨trivial, trivial⟩, trivial⟩, ⟨hs.1, hs.2⟩, ht.1, ht.2⟩, hst⟩, by omega⟩, fun v hv => ?_⟩
  simp only [restB, Bool.or_eq_true, beq_iff_eq]
  by_cases e1 : (v : Int) = s
  · exact .inl (.inl e1)
  · by_cases e2 : (v : Int) = t
    · exact .inl (.inr e2)
    · right
      rw [hg, if_neg (fun e => e1 e.symm), if_neg (fun e => e2 e.symm)]
      rfl

/-- What is left link by link has what is left of the gains. -/
theorem gk_less {L : List Lk} {f l r : List Int} (h : ∀ i : Nat, r[i]?.getD 0 = f[i]?.getD 0 - l[i]?.getD 0) (v : Int) : ∀ k, gk L r v k = gk L f v k - gk L l v k
  | 0 => rfl
  | k + 1 => by
    rw [gk, gk, gk, gk_less h v k]
    unfold outP inP
    rw [h k]
    split <;> split <;> omega

theorem split_rest {V : Nat} {L : List Lk} {f r : List Int} {s t : Int} {ps : List Pth} (h : SplitF V L f s t ps) (hr : ∀ i : Nat, r[i]?.getD 0 = f[i]?.getD 0 - (loadsQ L.length (pairsOf ps))[i]?.getD 0) {v : Nat} (hv : v < V) : gainOf L r (v : Int) = 0 := by
  have := h.gain v hv
  unfold gainOf at this ⊢
  rw [gk_less hr, this]
  omega

end Go.Proofs.Ytlpohlcmjnlbhaa
