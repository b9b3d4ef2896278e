/-
  A path through what has no cycle, link by link; the rate of its least link taken off; what Split keeps. No program here.
-/
import Derived.Test.YtlpohlcmjnlbhaaJB
import Derived.Test.YtlpohlcmjnlbhaaMathStrand
set_option maxRecDepth 20000
namespace Go.Proofs.Ytlpohlcmjnlbhaa

/-- The first link that leaves a vertex with a rate above 0, or -1. -/
def LvIs1 (L : List Lk) (r : List Int) (v : Int) (l : Int) : Prop := (∃ i : Nat, l = (i : Int) ∧ i < L.length ∧ (at3 L i).1 = v ∧ 0 < nAt r i) ∨ (l = -1 ∧ ∀ i, i < L.length → (at3 L i).1 = v → ¬ 0 < nAt r i)

/-- What a path has come to. -/
structure WkIs (L : List Lk) (r : List Int) (s : Int) (ls : List Int) (m : Int) : Prop where
  ch : chain L s ls = true
  nd : (vsOf L s ls).Nodup
  has : ∀ x ∈ ls, 0 ≤ x ∧ x < (L.length : Int) ∧ 0 < nAt r x.toNat ∧ m ≤ nAt r x.toNat
  rate : 0 < m ∧ m ≤ 4611686018427387904
  hit : (ls = [] ∧ m = 4611686018427387904) ∨ ∃ x ∈ ls, m = nAt r x.toNat

theorem walk1_first (L : List Lk) (r : List Int) (s : Int) : WkIs L r s [] 4611686018427387904 :=
  ⟨rfl, by simp [vsOf], fun x hx => (by cases hx), by omega, .inl ⟨rfl, rfl⟩⟩

theorem led_along {L : List Lk} {r : List Int} : ∀ (ls : List Int) (s : Int), chain L s ls = true → (∀ x ∈ ls, 0 ≤ x ∧ x < (L.length : Int) ∧ 0 < nAt r x.toNat) → ∀ v ∈ vsOf L s ls, Led L r v (endOf L s ls)
  | [], s, _, _, v, hv => by
    simp only [vsOf, List.map_nil, List.mem_singleton] at hv
    subst hv
    exact .here
  | x :: ls, s, hc, hp, v, hv => by
    simp only [chain, Bool.and_eq_true, beq_iff_eq] at hc
    have ih := led_along ls (tow L x) hc.2 (fun y hy => hp y (List.mem_cons_of_mem _ hy))
    obtain ⟨h0, h1, h2⟩ := hp x (List.mem_cons_self)
    rw [endOf]
    have hv' : v = s ∨ v ∈ vsOf L (tow L x) ls := by
      simpa [vsOf] using hv
    rcases hv' with rfl | hv'
    · have h := ih (tow L x) (by simp [vsOf])
      rw [← hc.1]
      exact Led.first (i := x.toNat) (by omega) h2 h
    · exact ih v hv'

theorem walk1_next {L : List Lk} {r : List Int} {s m y : Int} {ls : List Int} {l : Nat} (h : WkIs L r s ls m) (hc : ¬ CycP L r) (hl : l < L.length) (hf : (at3 L l).1 = endOf L s ls) (hp : 0 < nAt r l) (hb : nAt r l ≤ 4611686018427387904) (hy : (y = m ∧ m ≤ nAt r l) ∨ (y = nAt r l ∧ nAt r l ≤ m)) : WkIs L r s (ls ++ [(l : Int)]) y ∧ endOf L s (ls ++ [(l : Int)]) = (at3 L l).2.1 := by
  have e1 : tow L (l : Int) = (at3 L l).2.1 := by rw [tow, Int.toNat_natCast]
  have e2 : frm L (l : Int) = (at3 L l).1 := by rw [frm, Int.toNat_natCast]
  refine ⟨⟨?_, ?_, fun x hx => ?_, by have := h.rate; omega, ?_⟩, by rw [end_app, endOf, endOf, e1]⟩
  · rw [chain_app, h.ch, chain, chain, e2, hf]
    simp
  · rw [vsOf_app, List.nodup_append]
    refine ⟨h.nd, by simp, fun v hv w hw e => ?_⟩
    rw [List.mem_singleton] at hw
    subst hw
    subst e
    have hled := led_along ls s h.ch (fun x hx => ⟨(h.has x hx).1, (h.has x hx).2.1, (h.has x hx).2.2.1⟩) _ hv
    rw [e1, ← hf] at hled
    exact hc ⟨l, hl, hp, hled⟩
  · rcases List.mem_append.1 hx with hx | hx
    · obtain ⟨a, b, c, d⟩ := h.has x hx
      exact ⟨a, b, c, by omega⟩
    · rw [List.mem_singleton] at hx
      subst hx
      rw [Int.toNat_natCast]
      omega
  · rcases hy with ⟨rfl, hle⟩ | ⟨rfl, _⟩
    · rcases h.hit with ⟨rfl, e⟩ | ⟨x, hx, e⟩
      · exact .inr ⟨(l : Int), by simp, by rw [Int.toNat_natCast]; omega⟩
      · exact .inr ⟨x, by simp [hx], e⟩
    · exact .inr ⟨(l : Int), by simp, by rw [Int.toNat_natCast]⟩

/-- Distinct vertices, as many as there are at most. -/
theorem nodup_most {V : Nat} {vs : List Int} (h : vs.Nodup) (hb : ∀ v ∈ vs, 0 ≤ v ∧ v < (V : Int)) : vs.length ≤ V := by
  apply Classical.byContradiction
  intro hn
  have hat : ∀ i, i ≤ V → ∃ hi : i < vs.length, 0 ≤ vs[i] ∧ vs[i] < (V : Int) := fun i hi => ⟨by omega, hb _ (List.getElem_mem _)⟩
  obtain ⟨i, j, h1, h2, e⟩ := pigeon V (fun i => (vs[i]?.getD 0).toNat) (fun i hi => by
    obtain ⟨hi', a, b⟩ := hat i hi
    show (vs[i]?.getD 0).toNat < V
    rw [List.getElem?_eq_getElem hi', Option.getD_some]
    omega)
  obtain ⟨hi', a, b⟩ := hat i (by omega)
  obtain ⟨hj', c, d⟩ := hat j h2
  have e : (vs[i]?.getD 0).toNat = (vs[j]?.getD 0).toNat := e
  rw [List.getElem?_eq_getElem hi', List.getElem?_eq_getElem hj', Option.getD_some, Option.getD_some] at e
  exact List.pairwise_iff_getElem.1 h i j hi' hj' h1 (by omega)

theorem walk1_all {L : List Lk} {r : List Int} {s m : Int} {ls : List Int} (h : WkIs L r s ls m) : allL L.length ls = true := by
  rw [allL, List.all_eq_true]
  intro x hx
  obtain ⟨a, b, _⟩ := h.has x hx
  simp [linkB, a, b]

theorem walk1_most {V : Nat} {L : List Lk} {r : List Int} {s m : Int} {ls : List Int} (hm : mayG (V : Nat) L = true) (hs : 0 ≤ s ∧ s < (V : Int)) (h : WkIs L r s ls m) : ls.length + 1 ≤ V := by
  have := nodup_most h.nd (vs_in hm (walk1_all h) hs)
  rwa [vsOf_len] at this

theorem walk1_may {V : Nat} {L : List Lk} {r : List Int} {s t m : Int} {ls : List Int} (hm : mayG (V : Nat) L = true) (hs : 0 ≤ s ∧ s < (V : Int)) (hst : s ≠ t) (h : WkIs L r s ls m) (he : endOf L s ls = t) : goodP (V : Nat) L s t (m, ls) = true := by
  have h1 := walk1_most hm hs h
  have h2 := may_small hm
  have hg := goes_mk hm hs (by omega) (walk1_all h) h.ch
  have hne : ls.isEmpty = false := by
    cases ls with
    | nil => exact absurd he hst
    | cons _ _ => rfl
  rw [goodP, mayP, hg, hne, end_at, he, noDup, decide_eq_true h.nd, decide_eq_true h.rate.1]
  simp

/-- Nothing leaves: nothing is gained. -/
theorem no_out {L : List Lk} {r : List Int} {v : Int} (h0 : ∀ i, i < L.length → 0 ≤ nAt r i) (h : ∀ i, i < L.length → (at3 L i).1 = v → ¬ 0 < nAt r i) : ∀ k, k ≤ L.length → gk L r v k ≤ 0 ∧ ((∃ j, j < k ∧ (at3 L j).2.1 = v ∧ 0 < nAt r j) → gk L r v k < 0) ∧ ((∀ j, j < k → (at3 L j).2.1 = v → nAt r j = 0) → gk L r v k = 0)
  | 0, _ => ⟨Int.le_refl _, fun ⟨j, hj, _⟩ => by omega, fun _ => rfl⟩
  | k + 1, hk => by
    obtain ⟨i1, i2, i3⟩ := no_out h0 h k (by omega)
    have a := h0 k (by omega)
    have b := h k (by omega)
    have e : gk L r v (k + 1) = gk L r v k + (if (at3 L k).1 = v then nAt r k else 0) - (if (at3 L k).2.1 = v then nAt r k else 0) := by
      simp only [gk, outP, inP, nAt]
    rw [e]
    refine ⟨?_, fun ⟨j, hj, h1, h2⟩ => ?_, fun hz => ?_⟩
    · split <;> split <;> rename_i p q <;> first | (have := b p; omega) | omega
    · by_cases ej : j = k
      · subst ej
        rw [if_pos h1]
        split <;> rename_i p <;> first | (have := b p; omega) | omega
      · have := i2 ⟨j, by omega, h1, h2⟩
        split <;> split <;> rename_i p q <;> first | (have := b p; omega) | omega
    · have := i3 (fun j hj => hz j (by omega))
      have z := hz k (by omega)
      split <;> split <;> rename_i p q <;> first | (have := b p; have := z q; omega) | (have := b p; omega) | (have := z q; omega) | omega

/-- What Split keeps. -/
structure StI (V : Nat) (L : List Lk) (f : List Int) (s t : Int) (r : List Int) (ps : List Pth) : Prop where
  len : r.length = L.length
  bd : ∀ i, i < L.length → 0 ≤ nAt r i ∧ nAt r i + loadQ (i : Int) (pairsOf ps) ≤ nAt f i
  gain : ∀ v : Nat, v < V → (v : Int) ≠ s → (v : Int) ≠ t → gainOf L r (v : Int) = 0
  src : ∀ i, i < L.length → (at3 L i).2.1 = s → nAt r i = 0
  cyc : ¬ CycP L r
  sum : isum (ratesOf ps) + gainOf L r s = gainOf L f s
  good : ps.all (goodP (V : Nat) L s t) = true
  cnt : (ps.length : Int) + sumN (fun i => if 0 < nAt r i then 1 else 0) L.length ≤ L.length

/-- In what has no cycle nothing comes to the source. -/
theorem src_dry {V : Nat} {L : List Lk} {caps r : List Int} {s t : Int} (h : flowB (V : Nat) L caps r s t = true) (h0 : ∀ i, i < L.length → 0 ≤ nAt r i) (hc : ¬ CycP L r) : ∀ i, i < L.length → (at3 L i).2.1 = s → nAt r i = 0 := by
  intro i hi hs
  apply Classical.byContradiction
  intro hne
  have hp : 0 < nAt r i := by have := h0 i hi; omega
  obtain ⟨h1, h2, h3, h4, h5, h6⟩ := flow_parts h
  have hm := (fits_parts h1).1
  classical
  let g : Nat → Int := fun v => if Led L r (v : Int) (at3 L i).1 then 1 else 0
  have ends : ∀ j, j < L.length → (((at3 L j).1.toNat : Nat) : Int) = (at3 L j).1 ∧ (((at3 L j).2.1.toNat : Nat) : Int) = (at3 L j).2.1 := fun j hj => by
    have := may_joins hm hj
    constructor <;> omega
  have e := flow_sum g h
  have hns : ¬ Led L r s (at3 L i).1 := fun w => hc ⟨i, hi, hp, by rw [hs]; exact w⟩
  have gs : g s.toNat = 0 := by
    show (if Led L r ((s.toNat : Nat) : Int) (at3 L i).1 then (1 : Int) else 0) = 0
    rw [show ((s.toNat : Nat) : Int) = s by have := h2.1; omega, if_neg hns]
  have gt : 0 ≤ g t.toNat ∧ g t.toNat ≤ 1 := by
    show 0 ≤ (if Led L r ((t.toNat : Nat) : Int) (at3 L i).1 then (1 : Int) else 0) ∧ (if Led L r ((t.toNat : Nat) : Int) (at3 L i).1 then (1 : Int) else 0) ≤ 1
    split <;> omega
  have et := flow_ends h
  have le0 : g s.toNat * gainOf L r s + g t.toNat * gainOf L r t ≤ 0 := by
    rw [gs, et, Int.zero_mul, Int.zero_add]
    exact Int.mul_nonpos_of_nonneg_of_nonpos gt.1 (by omega)
  have neg : sumN (fun i => 0 - nAt r i * (g (at3 L i).1.toNat - g (at3 L i).2.1.toNat)) L.length < 0 := by
    refine sum_neg _ (fun j hj => ?_) ⟨i, hi, ?_⟩
    · have h0j := h0 j hj
      show 0 - nAt r j * (g (at3 L j).1.toNat - g (at3 L j).2.1.toNat) ≤ 0
      by_cases z : nAt r j = 0
      · rw [z, Int.zero_mul]; omega
      · have : 0 ≤ g (at3 L j).1.toNat - g (at3 L j).2.1.toNat := by
          show 0 ≤ (if Led L r (((at3 L j).1.toNat : Nat) : Int) (at3 L i).1 then (1 : Int) else 0) - (if Led L r (((at3 L j).2.1.toNat : Nat) : Int) (at3 L i).1 then 1 else 0)
          rw [(ends j hj).1, (ends j hj).2]
          by_cases q : Led L r (at3 L j).2.1 (at3 L i).1
          · rw [if_pos q, if_pos (Led.first hj (show 0 < nAt r j by omega) q)]; decide
          · rw [if_neg q]; split <;> decide
        have := Int.mul_nonneg h0j this
        omega
    · show 0 - nAt r i * (g (at3 L i).1.toNat - g (at3 L i).2.1.toNat) < 0
      have q1 : g (at3 L i).1.toNat = 1 := by
        show (if Led L r (((at3 L i).1.toNat : Nat) : Int) (at3 L i).1 then (1 : Int) else 0) = 1
        rw [(ends i hi).1, if_pos .here]
      have q2 : g (at3 L i).2.1.toNat = 0 := by
        show (if Led L r (((at3 L i).2.1.toNat : Nat) : Int) (at3 L i).1 then (1 : Int) else 0) = 0
        rw [(ends i hi).2, hs, if_neg hns]
      rw [q1, q2]
      omega
  have e4 := sumN_sub (fun _ => 0) (fun i => nAt r i * (g (at3 L i).1.toNat - g (at3 L i).2.1.toNat)) L.length
  rw [sumN_zero] at e4
  rw [e4] at neg
  have e5 : sumN (fun i => nAt r i * (g (at3 L i).1.toNat - g (at3 L i).2.1.toNat)) L.length = sumN (fun i => r[i]?.getD 0 * (g (at3 L i).1.toNat - g (at3 L i).2.1.toNat)) L.length := rfl
  omega

/-- A flow without its cycles is the start. -/
theorem st_first {V : Nat} {L : List Lk} {f r : List Int} {s t : Int} (h : flowB (V : Nat) L f f s t = true) (hc : CancelIs (V : Nat) L f r 0) : StI V L f s t r [] := by
  rcases hc with ⟨_, _, hl, hb, hg, hn⟩ | ⟨_, z, _⟩
  · obtain ⟨k1, k2⟩ := flow_below h hl hb (fun v hv => hg v (by omega))
    obtain ⟨_, h2, h3, h4, h5, h6⟩ := flow_parts h
    refine ⟨hl, fun i hi => ?_, fun v hv a b => ?_, src_dry k1 (fun i hi => (hb i hi).1) hn, hn, ?_, rfl, ?_⟩
    · have := hb i hi
      show 0 ≤ r[i]?.getD 0 ∧ r[i]?.getD 0 + 0 ≤ f[i]?.getD 0
      omega
    · rw [hg v (by omega), h6 v hv a b]
    · show 0 + gainOf L r s = _
      rw [k2]; omega
    · have := sumN_leK (g := fun i => if 0 < nAt r i then (1 : Int) else 0) (h := fun _ => 1) L.length (fun i hi => by split <;> omega)
      have e : sumN (fun _ => (1 : Int)) L.length = L.length := by
        generalize L.length = n
        induction n with
        | zero => rfl
        | succ k ih => rw [sumN, ih]; omega
      rw [e] at this
      show (0 : Int) + _ ≤ _
      omega
  · cases z

/-- Where a path stops short of the sink, it has not left the source. -/
theorem st_short {V : Nat} {L : List Lk} {f r : List Int} {s t m : Int} {ps : List Pth} {ls : List Int} (hm : mayG (V : Nat) L = true) (hs : 0 ≤ s ∧ s < (V : Int)) (h : StI V L f s t r ps) (w : WkIs L r s ls m) (ht : endOf L s ls ≠ t) (hn : ∀ i, i < L.length → (at3 L i).1 = endOf L s ls → ¬ 0 < nAt r i) : ls = [] ∧ gainOf L r s = 0 := by
  have h0 : ∀ i, i < L.length → 0 ≤ nAt r i := fun i hi => (h.bd i hi).1
  rcases List.eq_nil_or_concat ls with rfl | ⟨l, x, rfl⟩
  · refine ⟨rfl, ?_⟩
    exact (no_out h0 hn L.length (Nat.le_refl _)).2.2 (fun j hj e => h.src j hj e)
  · exfalso
    rw [List.concat_eq_append] at w ht hn
    have he : endOf L s (l ++ [x]) = tow L x := by rw [end_app, endOf, endOf]
    rw [he] at ht hn
    obtain ⟨a, b, c, _⟩ := w.has x (by simp)
    have hx := may_joins hm (i := x.toNat) (by omega)
    have hto : (at3 L x.toNat).2.1 = tow L x := rfl
    have hg := (no_out h0 hn L.length (Nat.le_refl _)).2.1 ⟨x.toNat, by omega, rfl, c⟩
    have hns : tow L x ≠ s := by
      intro e
      have := h.src x.toNat (by omega) e
      omega
    have := h.gain (tow L x).toNat (by omega)
    rw [show (((tow L x).toNat : Nat) : Int) = tow L x by omega] at this
    have := this hns ht
    unfold gainOf at this
    omega

/-- So much is left at a link behind the first ones of a row. -/
theorem offW_at {r : List Int} {m : Int} {n : Nat} (hl : r.length = n) {ls : List Int} (hb : ∀ x ∈ ls, 0 ≤ x ∧ x < (n : Int)) (i : Nat) : ∀ k, k ≤ ls.length → nAt (offK m ls r k) i = nAt r i - loadQ (i : Int) ((ls.take k).map fun x => (m, x))
  | 0, _ => by rw [offK, List.take_zero, List.map_nil, loadQ]; omega
  | k + 1, hk => by
    have ih := offW_at (m := m) hl hb i k (by omega)
    have e : nAt ls k = ls[k] := by rw [nAt, List.getElem?_eq_getElem (by omega), Option.getD_some]
    obtain ⟨b1, b2⟩ := hb ls[k] (List.getElem_mem _)
    have hlt : (nAt ls k).toNat < (offK m ls r k).length := by rw [off_len, hl, e]; omega
    rw [offK, n_set hlt, List.take_succ_eq_append_getElem (by omega), List.map_append, loadQ_app, List.map_cons, List.map_nil, loadQ, loadQ, e]
    by_cases q : i = ls[k].toNat
    · rw [if_pos q, if_pos (by omega), ← q, ih]; omega
    · rw [if_neg q, if_neg (by omega), ih]; omega

theorem load_once {m : Int} {i : Int} : ∀ {ls : List Int}, ls.Nodup → loadQ i (ls.map fun x => (m, x)) = if i ∈ ls then m else 0
  | [], _ => by simp [loadQ]
  | x :: ls, h => by
    rw [List.nodup_cons] at h
    have ih := load_once (m := m) (i := i) h.2
    rw [List.map_cons, loadQ, ih]
    by_cases e : x = i
    · subst e
      rw [if_pos rfl, if_neg h.1, if_pos (List.mem_cons_self)]; omega
    · rw [if_neg e]
      have e' : ¬ i = x := fun q => e q.symm
      simp only [List.mem_cons, e', false_or]
      omega

theorem offW_gain {L : List Lk} {r : List Int} {m s : Int} (hl : r.length = L.length) {ls : List Int} (hb : ∀ x ∈ ls, 0 ≤ x ∧ x < (L.length : Int)) (hc : chain L s ls = true) (v : Int) : ∀ k, k ≤ ls.length → gainOf L (offK m ls r k) v = gainOf L r v - (if s = v then m else 0) + (if endOf L s (ls.take k) = v then m else 0)
  | 0, _ => by rw [offK, List.take_zero, endOf]; omega
  | k + 1, hk => by
    have ih := offW_gain (m := m) hl hb hc v k (by omega)
    have e : nAt ls k = ls[k] := by rw [nAt, List.getElem?_eq_getElem (by omega), Option.getD_some]
    obtain ⟨b1, b2⟩ := hb ls[k] (List.getElem_mem _)
    have hlt : (nAt ls k).toNat < (offK m ls r k).length := by rw [off_len, hl, e]; omega
    have hck := chain_take hc (k + 1)
    rw [List.take_succ_eq_append_getElem (by omega), chain_app, Bool.and_eq_true, chain, chain, Bool.and_true, beq_iff_eq] at hck
    have hf : (at3 L ls[k].toNat).1 = endOf L s (ls.take k) := hck.2
    have ht : (at3 L ls[k].toNat).2.1 = endOf L s (ls.take (k + 1)) := by
      rw [List.take_succ_eq_append_getElem (by omega), end_app, endOf, endOf]; rfl
    have gp := gk_put (L := L) (f := offK m ls r k) (f' := offK m ls r (k + 1)) (v := v) (d := -m) (i := (nAt ls k).toNat) (fun j => by
      have := n_set hlt (nAt (offK m ls r k) (nAt ls k).toNat - m) j
      show nAt (offK m ls r (k + 1)) j = nAt (offK m ls r k) j + _
      rw [offK, this]
      by_cases e : j = (nAt ls k).toNat
      · subst e; rw [if_pos rfl, if_pos rfl]; omega
      · rw [if_neg e, if_neg e]; omega) L.length
    rw [if_pos (by rw [e]; omega), e, hf, ht] at gp
    unfold gainOf at ih ⊢
    rw [gp, ih]
    split <;> split <;> split <;> omega

theorem walk1_once {L : List Lk} {r : List Int} {s m : Int} {ls : List Int} (w : WkIs L r s ls m) : ls.Nodup := by
  have := w.nd
  rw [vsOf, List.nodup_cons] at this
  exact List.Pairwise.of_map (tow L) (fun a b h e => h (e ▸ rfl)) this.2

/-- A path taken off. -/
theorem st_next {V : Nat} {L : List Lk} {f r : List Int} {s t m : Int} {ps : List Pth} {ls : List Int} (hm : mayG (V : Nat) L = true) (hs : 0 ≤ s ∧ s < (V : Int)) (hst : s ≠ t) (h : StI V L f s t r ps) (w : WkIs L r s ls m) (he : endOf L s ls = t) : StI V L f s t (offK m ls r ls.length) (ps ++ [(m, ls)]) ∧ ps.length < L.length := by
  have hb : ∀ x ∈ ls, 0 ≤ x ∧ x < (L.length : Int) := fun x hx => ⟨(w.has x hx).1, (w.has x hx).2.1⟩
  have hat : ∀ i : Nat, nAt (offK m ls r ls.length) i = nAt r i - loadQ (i : Int) (ls.map fun x => (m, x)) := fun i => by
    have := offW_at (m := m) h.len hb i ls.length (Nat.le_refl _)
    rwa [List.take_length] at this
  have hld : ∀ i : Nat, loadQ (i : Int) (ls.map fun x => (m, x)) = if (i : Int) ∈ ls then m else 0 := fun i => load_once (walk1_once w)
  have hm0 := w.rate.1
  have hpq : pairsOf (ps ++ [(m, ls)]) = pairsOf ps ++ (ls.map fun x => (m, x)) := by simp [pairsOf]
  have hrs : isum (ratesOf (ps ++ [(m, ls)])) = isum (ratesOf ps) + m := by
    have : ∀ (xs : List Int) (y : Int), isum (xs ++ [y]) = isum xs + y := fun xs y => by
      induction xs with
      | nil => simp [isum]
      | cons a l ih => show a + isum (l ++ [y]) = a + isum l + y; rw [ih]; omega
    rw [ratesOf, List.map_append]
    exact this _ _
  have hbd : ∀ i : Nat, i < L.length → 0 ≤ nAt (offK m ls r ls.length) i ∧ nAt (offK m ls r ls.length) i ≤ nAt r i := fun i hi => by
    rw [hat, hld]
    have := (h.bd i hi).1
    split
    · rename_i q
      have := (w.has _ q).2.2.2
      rw [Int.toNat_natCast] at this
      omega
    · omega
  have hgn : ∀ v : Int, gainOf L (offK m ls r ls.length) v = gainOf L r v - (if s = v then m else 0) + (if t = v then m else 0) := fun v => by
    have := offW_gain (m := m) h.len hb w.ch v ls.length (Nat.le_refl _)
    rwa [List.take_length, he] at this
  have hne : ls ≠ [] := by
    rintro rfl
    exact hst he
  have hcnt : sumN (fun i => if 0 < nAt (offK m ls r ls.length) i then (1 : Int) else 0) L.length < sumN (fun i => if 0 < nAt r i then 1 else 0) L.length := by
    obtain ⟨x, hx, ex⟩ : ∃ x ∈ ls, m = nAt r x.toNat := by
      rcases w.hit with ⟨e, _⟩ | q
      · exact absurd e hne
      · exact q
    obtain ⟨a, b⟩ := hb x hx
    have key := sum_neg (h := fun i => (if 0 < nAt (offK m ls r ls.length) i then (1 : Int) else 0) - (if 0 < nAt r i then 1 else 0)) L.length (fun i hi => by
      have := (hbd i hi).2
      show (if 0 < nAt (offK m ls r ls.length) i then (1 : Int) else 0) - (if 0 < nAt r i then 1 else 0) ≤ 0
      split <;> split <;> omega) ⟨x.toNat, by omega, by
      have e1 : nAt (offK m ls r ls.length) x.toNat = 0 := by
        rw [hat, hld, if_pos (by rw [show ((x.toNat : Nat) : Int) = x by omega]; exact hx), ← ex]; omega
      show (if 0 < nAt (offK m ls r ls.length) x.toNat then (1 : Int) else 0) - (if 0 < nAt r x.toNat then 1 else 0) < 0
      rw [e1, if_neg (by omega), if_pos (by omega)]; omega⟩
    rw [sumN_sub] at key
    omega
  have hpos : 0 ≤ sumN (fun i => if 0 < nAt (offK m ls r ls.length) i then (1 : Int) else 0) L.length := by
    have := sumN_leK (g := fun _ => 0) (h := fun i => if 0 < nAt (offK m ls r ls.length) i then (1 : Int) else 0) L.length (fun i hi => by
      show (0 : Int) ≤ if _ then _ else _
      split <;> omega)
    rwa [sumN_zero] at this
  have hct := h.cnt
  refine ⟨⟨by rw [off_len]; exact h.len, fun i hi => ⟨(hbd i hi).1, ?_⟩, fun v hv a b => ?_, fun i hi e => ?_, fun c => h.cyc (cyc_mono (fun i hi hp => ?_) c), ?_, ?_, ?_⟩, by omega⟩
  · rw [hpq, loadQ_app, hat]
    have := (h.bd i hi).2
    omega
  · rw [hgn, h.gain v hv a b, if_neg (fun e => a e.symm), if_neg (fun e => b e.symm)]; omega
  · have := hbd i hi
    have := h.src i hi e
    omega
  · have := (hbd i hi).2
    have hp : 0 < nAt (offK m ls r ls.length) i := hp
    show 0 < nAt r i
    omega
  · rw [hrs, hgn, if_pos rfl, if_neg (fun e => hst e.symm)]
    have := h.sum
    omega
  · rw [List.all_append, h.good, List.all_cons, List.all_nil, walk1_may hm hs hst w he]; rfl
  · rw [List.length_append, List.length_singleton]
    omega

/-- Nothing leaves the source: all is told. -/
theorem st_end {V : Nat} {L : List Lk} {f r : List Int} {s t : Int} {ps : List Pth} (hf : flowB (V : Nat) L f f s t = true) (h : StI V L f s t r ps) (hg : gainOf L r s = 0) : SplitIs (V : Nat) L f s t ps 0 := by
  refine .inl ⟨hf, rfl, ?_, h.good, fun i hi => ?_, ?_⟩
  · have hpos := sumN_leK (g := fun _ => 0) (h := fun i => if 0 < nAt r i then (1 : Int) else 0) L.length (fun i hi => by
      show (0 : Int) ≤ if _ then _ else _
      split <;> omega)
    rw [sumN_zero] at hpos
    have := h.cnt
    omega
  · have := h.bd i hi
    show _ ≤ nAt f i
    omega
  · have := h.sum
    omega

end Go.Proofs.Ytlpohlcmjnlbhaa
