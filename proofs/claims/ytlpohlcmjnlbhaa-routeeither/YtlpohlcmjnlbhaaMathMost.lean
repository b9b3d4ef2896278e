/-
  The greatest flow, as numbers: what one must keep, and what follows of it: as great as is wanted or as the least cut; more wanted is never less; all links turned; on one link less. No program here.
-/
import Derived.Test.YtlpohlcmjnlbhaaJB
import Derived.Test.YtlpohlcmjnlbhaaJA
set_option maxRecDepth 20000
namespace Go.Proofs.Ytlpohlcmjnlbhaa

/-- What the greatest flow up to what is wanted keeps. -/
structure PshIs (V : Nat) (L : List Lk) (caps : List Int) (s t want : Int) (b : List Int) (k : Int) : Prop where
  flow : flowB (V : Nat) L caps b s t = true
  val : gainOf L b s = k
  high : k ≤ want
  shut : k = want ∨ ∀ M, IsLv V (Leads L caps b (2 * L.length)) s M → lvAt M t < 0

theorem psh_low {V : Nat} {L : List Lk} {caps b : List Int} {s t want k : Int} (h : PshIs V L caps s t want b k) : 0 ≤ k ∧ k ≤ 4611686018427387904 := by
  have := flow_most h.flow
  rw [h.val] at this
  exact this

theorem psh_under {V : Nat} {L : List Lk} {caps b : List Int} {s t want k : Int} (h : PshIs V L caps s t want b k) {p : Nat → Bool} (hs : p s.toNat = true) (ht : p t.toNat = false) : k ≤ cutW p L caps L.length := by
  rw [← h.val]
  exact flow_cut h.flow hs ht

/-- Less than was wanted: as much as a cut. -/
theorem psh_cut {V : Nat} {L : List Lk} {caps b : List Int} {s t want k : Int} (h : PshIs V L caps s t want b k) (hk : k ≠ want) : ∃ p : Nat → Bool, p s.toNat = true ∧ p t.toNat = false ∧ k = cutW p L caps L.length := by
  obtain ⟨h1, h2, h3, _⟩ := flow_parts h.flow
  have hm := (fits_parts h1).1
  obtain ⟨M, hM⟩ := lev_there (caps := caps) (f := b) hm rfl h2
  have s0 := h2.1
  have t0 := h3.1
  have e1 : ((s.toNat : Nat) : Int) = s := by omega
  have e2 : ((t.toNat : Nat) : Int) = t := by omega
  rcases h.shut with e | e
  · exact absurd e hk
  · have hlt := e M hM
    refine ⟨fun v => decide (0 ≤ lvAt M (v : Int)), ?_, ?_, ?_⟩
    · simp only [e1, hM.src]; decide
    · simp only [e2, decide_eq_false_iff_not]; omega
    · rw [← h.val]; exact flow_reach h.flow hM hlt

def leastC (V : Nat) (L : List Lk) (caps : List Int) (s t : Nat) : Int := leastN (fun B => B.testBit s && !B.testBit t) (fun B => cutW (fun v => B.testBit v) L caps L.length) (2 ^ V)

theorem least_under {V : Nat} {L : List Lk} {caps : List Int} {s t : Nat} (hm : mayG (V : Nat) L = true) (h1 : s < V) (h2 : t < V) {p : Nat → Bool} (hs : p s = true) (ht : p t = false) : leastC V L caps s t ≤ cutW p L caps L.length := by
  obtain ⟨B, b1, b2⟩ := bits_of p V
  have := least_hit (ok := fun B => B.testBit s && !B.testBit t) (w := fun B => cutW (fun v => B.testBit v) L caps L.length) (B := B) (by simp only [b2 s h1, b2 t h2, hs, ht]; rfl) (2 ^ V) b1
  rw [← cutW_congr (caps := caps) hm b2]
  exact this

/-- As great as is wanted, or as the least cut. -/
theorem psh_least {V : Nat} {L : List Lk} {caps b : List Int} {s t : Nat} {want k : Int} (h : PshIs V L caps (s : Int) (t : Int) want b k) : k = if want < leastC V L caps s t then want else leastC V L caps s t := by
  obtain ⟨h1, h2, h3, _⟩ := flow_parts h.flow
  have hm := (fits_parts h1).1
  have s1 := h2.2
  have t1 := h3.2
  have lo : k ≤ leastC V L caps s t := least_low (psh_low h).2 (2 ^ V) (fun B _ hB => by
    simp only [Bool.and_eq_true, Bool.not_eq_true'] at hB
    exact psh_under h (p := fun v => B.testBit v) hB.1 hB.2)
  have hh := h.high
  by_cases e : k = want
  · by_cases q : want < leastC V L caps s t
    · rw [if_pos q]; exact e
    · rw [if_neg q]; omega
  · obtain ⟨p, hs, ht, hc⟩ := psh_cut h e
    rw [Int.toNat_natCast] at hs ht
    have := least_under (caps := caps) hm (by omega) (by omega) hs ht
    rw [if_neg (by omega)]
    omega

/-- More wanted is never less. -/
theorem psh_more {V : Nat} {L : List Lk} {caps f g : List Int} {s t a b x y : Int} (h1 : PshIs V L caps s t a f x) (h2 : PshIs V L caps s t b g y) (hab : a ≤ b) : x ≤ y ∧ (y < a ∨ x = a) ∧ (x = a ∨ x = y) := by
  have a1 := h1.high
  have le : x ≤ y := by
    by_cases e : y = b
    · omega
    · obtain ⟨p, hs, ht, hc⟩ := psh_cut h2 e
      rw [hc]
      exact psh_under h1 hs ht
  by_cases e : x = a
  · exact ⟨le, .inr e, .inl e⟩
  · obtain ⟨p, hs, ht, hc⟩ := psh_cut h1 e
    have := psh_under h2 hs ht
    exact ⟨le, .inl (by omega), .inr (by omega)⟩

theorem gk_turn (L : List Lk) (f : List Int) (v : Int) : ∀ k, k ≤ L.length → gk (turnK L L.length) f v k = -gk L f v k
  | 0, _ => by simp [gk]
  | k + 1, hk => by
    have ih := gk_turn L f v k (by omega)
    have ht := turn_at L L.length k (by omega)
    rw [if_pos (by omega)] at ht
    rw [gk, gk, ih, outP, inP, outP, inP, ht]
    generalize (if (at3 L k).1 = v then f[k]?.getD 0 else 0) = x
    generalize (if (at3 L k).2.1 = v then f[k]?.getD 0 else 0) = y
    omega

theorem gain_turn (L : List Lk) (f : List Int) (v : Int) : gainOf (turnK L L.length) f v = -gainOf L f v := by
  rw [gainOf, turn_len, gk_turn L f v _ (Nat.le_refl _)]
  rfl

theorem capsB_turn {L : List Lk} {caps : List Int} (h : capsB L caps = true) : capsB (turnK L L.length) caps = true := by
  obtain ⟨h1, h2⟩ := capsB_parts h
  refine capsB_all (by rw [turn_len]; exact h1) ?_
  rw [List.all_eq_true]
  intro i hi
  rw [List.mem_range, h1] at hi
  have := h2 i hi
  unfold capI at this
  rw [capB, turn_at L _ i hi, if_pos hi]
  simp only [Bool.and_eq_true, decide_eq_true_eq]
  exact this

/-- All links turned, from the sink to the source: the same is a flow. -/
theorem flow_turn {V : Nat} {L : List Lk} {caps f : List Int} {s t : Int} (h : flowB (V : Nat) L caps f s t = true) : flowB (V : Nat) (turnK L L.length) caps f t s = true ∧ gainOf (turnK L L.length) f t = gainOf L f s := by
  obtain ⟨h1, h2, h3, h4, h5, h6⟩ := flow_parts h
  obtain ⟨f1, f2, f3, f4⟩ := fits_parts h1
  have he := flow_ends h
  have hg : gainOf (turnK L L.length) f t = gainOf L f s := by rw [gain_turn, he]; omega
  refine ⟨?_, hg⟩
  simp only [flowB, fitsF, may_turn f1, capsB_turn f2, f3, hg, Bool.and_eq_true, Bool.not_eq_true', beq_eq_false_iff_ne, decide_eq_true_eq, isV, List.all_eq_true, List.mem_range, Int.toNat_natCast]
  refine ⟨⟨⟨⟨⟨⟨trivial, trivial⟩, trivial⟩, ⟨h3.1, h3.2⟩, h2.1, h2.2⟩, fun e => h4 e.symm⟩, h5⟩, fun v hv => ?_⟩
  simp only [restB, gain_turn, Bool.or_eq_true, beq_iff_eq]
  by_cases e1 : (v : Int) = s
  · exact .inl (.inr e1)
  · by_cases e2 : (v : Int) = t
    · exact .inl (.inl e2)
    · right
      rw [h6 v hv e1 e2]
      rfl

theorem turn_twice (L : List Lk) : turnK (turnK L L.length) L.length = L := by
  have e : turnK (turnK L L.length) (turnK L L.length).length = L := by
    rw [turn_map, turn_map, List.map_map]
    have : turnL ∘ turnL = id := by funext l; rfl
    rw [this, List.map_id]
  rw [turn_len] at e
  exact e

theorem psh_turn {V : Nat} {L : List Lk} {caps f g : List Int} {s t want j k : Int} (h1 : PshIs V L caps s t want f k) (h2 : PshIs V (turnK L L.length) caps t s want g j) : j = k := by
  have a1 := h1.high
  have a2 := h2.high
  have u1 : k ≤ j := by
    by_cases e : j = want
    · omega
    · obtain ⟨p, hs, ht, hc⟩ := psh_cut h2 e
      obtain ⟨q1, q2⟩ := flow_turn h1.flow
      rw [hc, ← h1.val, ← q2]
      exact flow_cut q1 hs ht
  have u2 : j ≤ k := by
    by_cases e : k = want
    · omega
    · obtain ⟨p, hs, ht, hc⟩ := psh_cut h1 e
      obtain ⟨q1, q2⟩ := flow_turn h2.flow
      rw [turn_len, turn_twice] at q1 q2
      rw [hc, ← h2.val, ← q2]
      exact flow_cut q1 hs ht
  omega

/-- On one link less: a cut is worth less by no more than that. -/
theorem cut_less (p : Nat → Bool) (L : List Lk) {caps : List Int} {i : Nat} {y : Int} (hi : i < caps.length) (hy : 0 ≤ y) : ∀ n, cutW p L (caps.set i (caps[i]?.getD 0 - y)) n ≤ cutW p L caps n ∧ cutW p L caps n ≤ cutW p L (caps.set i (caps[i]?.getD 0 - y)) n + (if i < n then y else 0)
  | 0 => by simp [cutW, sumN]
  | n + 1 => by
    have ih := cut_less p L hi hy n
    unfold cutW at ih ⊢
    rw [sumN, sumN, put_get hi]
    generalize sumN (fun v => if (p (at3 L v).1.toNat && !p (at3 L v).2.1.toNat) = true then (caps.set i (caps[i]?.getD 0 - y))[v]?.getD 0 else 0) n = A at *
    generalize sumN (fun v => if (p (at3 L v).1.toNat && !p (at3 L v).2.1.toNat) = true then caps[v]?.getD 0 else 0) n = B at *
    by_cases e : n = i
    · subst e
      rw [if_neg (Nat.lt_irrefl n)] at ih
      rw [if_pos rfl, if_pos (Nat.lt_succ_self n)]
      split <;> omega
    · rw [if_neg e]
      have q : (i < n + 1) ↔ (i < n) := by omega
      simp only [q]
      split <;> omega

theorem psh_less {V : Nat} {L : List Lk} {caps f g : List Int} {s t want j k y : Int} {i : Nat} (h1 : PshIs V L caps s t want f k) (h2 : PshIs V L (caps.set i (caps[i]?.getD 0 - y)) s t want g j) (hi : i < caps.length) (hy : 0 ≤ y) : j ≤ k ∧ k - j ≤ y := by
  have a1 := h1.high
  have a2 := h2.high
  have u1 : j ≤ k := by
    by_cases e : k = want
    · omega
    · obtain ⟨p, hs, ht, hc⟩ := psh_cut h1 e
      have := psh_under h2 hs ht
      have := (cut_less p L hi hy L.length).1
      omega
  refine ⟨u1, ?_⟩
  by_cases e : j = want
  · omega
  · obtain ⟨p, hs, ht, hc⟩ := psh_cut h2 e
    have q1 := psh_under h1 hs ht
    have q2 := (cut_less p L hi hy L.length).2
    split at q2 <;> omega

/-- Caps with less on one link are caps still. -/
theorem caps_less {L : List Lk} {caps : List Int} {i : Nat} {y : Int} (h : capsB L caps = true) (hi : i < caps.length) (h0 : 0 ≤ y) (h1 : y ≤ caps[i]?.getD 0) : capsB L (caps.set i (caps[i]?.getD 0 - y)) = true := by
  refine caps_in h (set_rates ?_ hi (by omega) (by omega))
  exact ratesB_mk rfl fun j hj => ⟨((capsB_parts h).2 j (by rw [← (capsB_parts h).1]; exact hj)).1, Int.le_refl _⟩

/-- A set of vertices, as it is given: what leaves it. -/
theorem wk_mem (L : List Lk) (caps vs : List Int) {V : Nat} (hm : mayG (V : Nat) L = true) : ∀ k, k ≤ L.length → wk L caps vs k = cutW (fun v => decide ((v : Int) ∈ vs)) L caps k
  | 0, _ => rfl
  | k + 1, hk => by
    have hj := may_joins hm (i := k) (by omega)
    have ih := wk_mem L caps vs hm k (by omega)
    unfold cutW at ih ⊢
    have e1 : (((at3 L k).1.toNat : Nat) : Int) = (at3 L k).1 := by have := hj.1; omega
    have e2 : (((at3 L k).2.1.toNat : Nat) : Int) = (at3 L k).2.1 := by have := hj.2.2.1; omega
    rw [wk, sumN, ih, leaves]
    simp only [e1, e2]
    rfl

theorem lev_only {V : Nat} {L : List Lk} {caps f M N : List Int} {s t : Int} (h : flowB (V : Nat) L caps f s t = true) (hN : IsLv V (Leads L caps f (2 * L.length)) s N) (hM : IsLv V (Leads L caps f (2 * L.length)) s M) : N = M :=
  lev_one (leads_in (fits_parts (flow_parts h).1).1 rfl) (fun _ _ => Iff.rfl) hN hM

/-- The way there: a flow, what it is worth, no more than is wanted. -/
structure PshI (V : Nat) (L : List Lk) (caps : List Int) (s t want : Int) (f : List Int) (k : Int) : Prop where
  flow : flowB (V : Nat) L caps f s t = true
  val : gainOf L f s = k
  high : k ≤ want

theorem pshi_first {V : Nat} {L : List Lk} {caps : List Int} {s t want : Int} (h1 : mayG (V : Nat) L = true) (h2 : capsB L caps = true) (hs : inV V s) (ht : inV V t) (hst : s ≠ t) (hw : 0 ≤ want) : PshI V L caps s t want (List.replicate L.length 0) 0 := by
  have r := round_first h1 h2 hs ht hst
  exact ⟨r.flow, r.val, hw⟩

theorem pshi_next {V : Nat} {L : List Lk} {caps f b M : List Int} {s t want k j : Int} (h : PshI V L caps s t want f k) (hb : BlkIs V L caps f s t (want - k) b j M) : PshI V L caps s t want b (k + j) := by
  have := hb.high
  exact ⟨hb.flow, by rw [hb.val, h.val], by omega⟩

theorem pshi_full {V : Nat} {L : List Lk} {caps f : List Int} {s t want : Int} (h : PshI V L caps s t want f want) : PshIs V L caps s t want f want := ⟨h.flow, h.val, h.high, .inl rfl⟩

/-- Nothing more is pushed: the sink can't be reached. -/
theorem pshi_shut {V : Nat} {L : List Lk} {caps f b M : List Int} {s t want k : Int} (h : PshI V L caps s t want f k) (hM : IsLv V (Leads L caps f (2 * L.length)) s M) (hb : BlkIs V L caps f s t (want - k) b 0 M) (hk : k < want) : PshIs V L caps s t want f k ∧ b = f := by
  have hh : lvAt M t < 0 := by
    by_cases q : lvAt M t < 0
    · exact q
    · have := blk_some h.flow hM hb (by omega) (by omega)
      omega
  refine ⟨⟨h.flow, h.val, h.high, .inr fun N hN => ?_⟩, (blk_stays h.flow hM hb hh).2⟩
  rw [lev_only h.flow hN hM]
  exact hh

/-- The sink can't be reached: as it is. -/
theorem pshi_end {V : Nat} {L : List Lk} {caps f M : List Int} {s t want k : Int} (h : PshI V L caps s t want f k) (hM : IsLv V (Leads L caps f (2 * L.length)) s M) (hh : lvAt M t < 0) : PshIs V L caps s t want f k := by
  refine ⟨h.flow, h.val, h.high, .inr fun N hN => ?_⟩
  rw [lev_only h.flow hN hM]
  exact hh

end Go.Proofs.Ytlpohlcmjnlbhaa
