/-
  A blocking flow, as numbers: what one must keep, and what follows of it: the sink stands higher, nothing turns where nothing is pushed, a flow whose sink can't be reached is as great as a cut. No program here.
-/
import Derived.Test.YtppcncblmakekaaMathLevel
set_option maxRecDepth 20000
namespace Go.Proofs.Ytppcncblmakekaa

/-- An arc steps: it has room, and goes one level up. -/
def StepsA (ls : List Lk) (caps f M : List Int) (a : Nat) : Prop := 0 < roomI caps f (a : Int) ∧ 0 ≤ lvAt M (tailOf ls a) ∧ lvAt M (headOf ls a) = lvAt M (tailOf ls a) + 1

/-- There is a way from s over arcs that p lets by. -/
inductive Way (ls : List Lk) (p : Nat → Prop) (m : Nat) (s : Int) : Int → Prop
  | here : Way ls p m s s
  | on (a : Nat) : a < m → p a → Way ls p m s (tailOf ls a) → Way ls p m s (headOf ls a)

theorem Way.mono {ls : List Lk} {p q : Nat → Prop} {m : Nat} {s v : Int} (w : Way ls p m s v) (h : ∀ a, p a → q a) : Way ls q m s v := by
  induction w with
  | here => exact .here
  | on a ha hp _ ih => exact .on a ha (h a hp) ih

/-- Only over arcs that step. -/
structure Over (ls : List Lk) (caps f b M : List Int) : Prop where
  up : ∀ i : Nat, i < ls.length → f[i]?.getD 0 < b[i]?.getD 0 → StepsA ls caps f M (2 * i)
  down : ∀ i : Nat, i < ls.length → b[i]?.getD 0 < f[i]?.getD 0 → StepsA ls caps f M (2 * i + 1)

theorem roomE2 (caps f : List Int) (i : Nat) : roomI caps f ((2 * i : Nat) : Int) = caps[i]?.getD 0 - f[i]?.getD 0 := by
  have h1 : (((2 * i : Nat) : Int) / 2).toNat = i := by omega
  have h2 : ((2 * i : Nat) : Int) % 2 = 0 := by omega
  rw [roomI, if_pos h2, h1]

theorem roomO2 (caps f : List Int) (i : Nat) : roomI caps f ((2 * i + 1 : Nat) : Int) = f[i]?.getD 0 := by
  have h1 : (((2 * i + 1 : Nat) : Int) / 2).toNat = i := by omega
  have h2 : ¬ ((2 * i + 1 : Nat) : Int) % 2 = 0 := by omega
  rw [roomI, if_neg h2, h1]

/-- Room that is there now was there before, or came of an arc that steps, the other way: then it goes one level down. -/
theorem over_room {n : Nat} {ls : List Lk} {caps f b M : List Int} (hl : ls.length = n) (hr : ratesB caps f = true) (hc : caps.length = n) (o : Over ls caps f b M) {a : Nat} (ha : a < 2 * n) (h : 0 < roomI caps b (a : Int)) :
    0 < roomI caps f (a : Int) ∨ (0 ≤ lvAt M (headOf ls a) ∧ lvAt M (tailOf ls a) = lvAt M (headOf ls a) + 1) := by
  obtain ⟨_, h2⟩ := ratesB_parts hr
  rcases Nat.mod_two_eq_zero_or_one a with e | e
  · obtain ⟨i, rfl⟩ : ∃ i, a = 2 * i := ⟨a / 2, by omega⟩
    rw [roomE2] at h ⊢
    by_cases k : 0 < caps[i]?.getD 0 - f[i]?.getD 0
    · exact .inl k
    · have hs := o.down i (by omega) (by omega)
      right
      have h4 := hs.2
      rw [tail_odd, head_odd] at h4
      rw [tail_even, head_even]
      exact h4
  · obtain ⟨i, rfl⟩ : ∃ i, a = 2 * i + 1 := ⟨a / 2, by omega⟩
    rw [roomO2] at h ⊢
    have := h2 i (by omega)
    unfold capI at this
    by_cases k : 0 < f[i]?.getD 0
    · exact .inl k
    · have hs := o.up i (by omega) (by omega)
      right
      have h4 := hs.2
      rw [tail_even, head_even] at h4
      rw [tail_odd, head_odd]
      exact h4

/-- Levels never fall. -/
theorem over_low {V n : Nat} {ls : List Lk} {caps f b M N : List Int} {s : Int} (hm : mayG (V : Nat) ls = true) (hl : ls.length = n) (hr : ratesB caps f = true) (hc : caps.length = n) (o : Over ls caps f b M) (h : IsLv V (Leads ls caps f (2 * n)) s M) (k : IsLv V (Leads ls caps b (2 * n)) s N) :
    ∀ (d : Nat) (v : Int), inV V v → lvAt N v = d → 0 ≤ lvAt M v ∧ lvAt M v ≤ d
  | 0, v, hv, e => by
    obtain rfl := k.zero v hv e
    have := h.src
    omega
  | d + 1, v, hv, e => by
    obtain ⟨u, ⟨a, ha, rfl, rfl, hra⟩, hu⟩ := k.led v hv (by omega)
    have hin := leads_in (caps := caps) (f := b) hm hl (tailOf ls a) (headOf ls a) ⟨a, ha, rfl, rfl, hra⟩
    have ih := over_low hm hl hr hc o h k d (tailOf ls a) hin.1 (by omega)
    rcases over_room hl hr hc o ha hra with g | g
    · have := h.up _ _ ⟨a, ha, rfl, rfl, g⟩ ih.1
      omega
    · omega

/-- One that stands as high as before is led to over arcs that step and have room still. -/
theorem over_way {V n : Nat} {ls : List Lk} {caps f b M N : List Int} {s : Int} (hm : mayG (V : Nat) ls = true) (hl : ls.length = n) (hr : ratesB caps f = true) (hc : caps.length = n) (o : Over ls caps f b M) (h : IsLv V (Leads ls caps f (2 * n)) s M) (k : IsLv V (Leads ls caps b (2 * n)) s N) :
    ∀ (d : Nat) (v : Int), inV V v → lvAt N v = d → lvAt M v = d → Way ls (fun a => StepsA ls caps f M a ∧ 0 < roomI caps b (a : Int)) (2 * n) s v
  | 0, v, hv, e, _ => by
    obtain rfl := k.zero v hv e
    exact .here
  | d + 1, v, hv, e, e2 => by
    obtain ⟨u, ⟨a, ha, rfl, rfl, hra⟩, hu⟩ := k.led v hv (by omega)
    have hin := leads_in (caps := caps) (f := b) hm hl (tailOf ls a) (headOf ls a) ⟨a, ha, rfl, rfl, hra⟩
    have lo := over_low hm hl hr hc o h k d (tailOf ls a) hin.1 (by omega)
    rcases over_room hl hr hc o ha hra with g | g
    · have := h.up _ _ ⟨a, ha, rfl, rfl, g⟩ lo.1
      exact .on a ha ⟨⟨g, lo.1, by omega⟩, hra⟩ (over_way hm hl hr hc o h k d _ hin.1 (by omega) (by omega))
    · omega

/-- Blocked: the sink stands higher then, or nowhere. -/
theorem over_deeper {V n : Nat} {ls : List Lk} {caps f b M N : List Int} {s t : Int} (hm : mayG (V : Nat) ls = true) (hl : ls.length = n) (hr : ratesB caps f = true) (hc : caps.length = n) (o : Over ls caps f b M) (h : IsLv V (Leads ls caps f (2 * n)) s M) (k : IsLv V (Leads ls caps b (2 * n)) s N) (ht : inV V t)
    (no : ¬ Way ls (fun a => StepsA ls caps f M a ∧ 0 < roomI caps b (a : Int)) (2 * n) s t) : lvAt N t < 0 ∨ (0 ≤ lvAt M t ∧ lvAt M t < lvAt N t) := by
  by_cases g : lvAt N t < 0
  · exact .inl g
  · right
    have lo := over_low hm hl hr hc o h k (lvAt N t).toNat t ht (by omega)
    refine ⟨lo.1, ?_⟩
    by_cases e : lvAt M t = lvAt N t
    · exact absurd (over_way hm hl hr hc o h k (lvAt N t).toNat t ht (by omega) (by omega)) no
    · omega

/-- A way over arcs that step leads to each one that has a level. -/
theorem steps_way {V n : Nat} {ls : List Lk} {caps f M : List Int} {s : Int} (hm : mayG (V : Nat) ls = true) (hl : ls.length = n) (h : IsLv V (Leads ls caps f (2 * n)) s M) :
    ∀ (d : Nat) (v : Int), inV V v → lvAt M v = d → Way ls (fun a => StepsA ls caps f M a) (2 * n) s v
  | 0, v, hv, e => by
    obtain rfl := h.zero v hv e
    exact .here
  | d + 1, v, hv, e => by
    obtain ⟨u, ⟨a, ha, rfl, rfl, hra⟩, hu⟩ := h.led v hv (by omega)
    have hin := leads_in (caps := caps) (f := f) hm hl (tailOf ls a) (headOf ls a) ⟨a, ha, rfl, rfl, hra⟩
    exact .on a ha ⟨hra, by omega, by omega⟩ (steps_way hm hl h d _ hin.1 (by omega))

theorem sumN_congr {g h : Nat → Int} : ∀ m, (∀ v, v < m → g v = h v) → sumN g m = sumN h m
  | 0, _ => rfl
  | m + 1, k => by rw [sumN, sumN, sumN_congr m (fun v hv => k v (by omega)), k m (by omega)]

theorem sumN_leK {g h : Nat → Int} : ∀ m, (∀ v, v < m → g v ≤ h v) → sumN g m ≤ sumN h m
  | 0, _ => Int.le_refl _
  | m + 1, k => by
    have := sumN_leK m (fun v hv => k v (by omega))
    have := k m (by omega)
    simp only [sumN]
    omega

theorem sumN_sub (g h : Nat → Int) : ∀ m, sumN (fun v => g v - h v) m = sumN g m - sumN h m
  | 0 => rfl
  | m + 1 => by simp only [sumN, sumN_sub g h m]; omega

theorem sumN_zero : ∀ m, sumN (fun _ => 0) m = 0
  | 0 => rfl
  | m + 1 => by rw [sumN, sumN_zero m]; rfl

theorem sumN_pick (g : Nat → Int) (a x : Int) : ∀ m : Nat, sumN (fun v => g v * (if a = (v : Int) then x else 0)) m = if 0 ≤ a ∧ a < m then g a.toNat * x else 0
  | 0 => by rw [sumN, if_neg (by omega)]
  | m + 1 => by
    rw [sumN, sumN_pick g a x m]
    by_cases e : a = (m : Int)
    · have e1 : ¬ (0 ≤ a ∧ a < (m : Int)) := by omega
      have e2 : 0 ≤ a ∧ a < ((m + 1 : Nat) : Int) := by omega
      have e3 : a.toNat = m := by omega
      rw [if_neg e1, if_pos e, if_pos e2, e3, Int.zero_add]
    · rw [if_neg e, Int.mul_zero, Int.add_zero]
      by_cases h : 0 ≤ a ∧ a < (m : Int)
      · have e2 : 0 ≤ a ∧ a < ((m + 1 : Nat) : Int) := by omega
        rw [if_pos h, if_pos e2]
      · have e2 : ¬ (0 ≤ a ∧ a < ((m + 1 : Nat) : Int)) := by omega
        rw [if_neg h, if_neg e2]

/-- Gains weighed vertex by vertex are what lies on the links, weighed by the difference of their ends. -/
theorem sum_gains (g : Nat → Int) {L : List Lk} (f : List Int) {V : Nat} (hm : mayG (V : Nat) L = true) : ∀ k, k ≤ L.length → sumN (fun v => g v * gk L f (v : Int) k) V = sumN (fun i => f[i]?.getD 0 * (g (at3 L i).1.toNat - g (at3 L i).2.1.toNat)) k
  | 0, _ => by
    have : sumN (fun v => g v * gk L f (v : Int) 0) V = sumN (fun _ => 0) V := sumN_congr V (fun v _ => by rw [gk, Int.mul_zero])
    rw [this, sumN_zero]
    rfl
  | k + 1, hk => by
    have ih := sum_gains g f hm k (by omega)
    have hj := may_joins hm (i := k) (by omega)
    have e : sumN (fun v => g v * gk L f (v : Int) (k + 1)) V = sumN (fun v => (g v * gk L f (v : Int) k + g v * outP L f (v : Int) k) - g v * inP L f (v : Int) k) V :=
      sumN_congr V (fun v _ => by rw [gk, Int.mul_sub, Int.mul_add])
    rw [e, sumN_sub (fun v => g v * gk L f (v : Int) k + g v * outP L f (v : Int) k) (fun v => g v * inP L f (v : Int) k), sumN_add (fun v => g v * gk L f (v : Int) k) (fun v => g v * outP L f (v : Int) k), ih]
    have e1 := sumN_pick g (at3 L k).1 (f[k]?.getD 0) V
    have e2 := sumN_pick g (at3 L k).2.1 (f[k]?.getD 0) V
    rw [if_pos ⟨hj.1, hj.2.1⟩] at e1
    rw [if_pos ⟨hj.2.2.1, hj.2.2.2.1⟩] at e2
    unfold outP inP
    rw [e1, e2, sumN, Int.mul_sub, Int.mul_comm (g _) (f[k]?.getD 0), Int.mul_comm (g _) (f[k]?.getD 0)]
    omega

theorem sumN_two {h : Nat → Int} {a b : Nat} (hab : a ≠ b) : ∀ m, (∀ v, v < m → v ≠ a → v ≠ b → h v = 0) → sumN h m = (if a < m then h a else 0) + (if b < m then h b else 0)
  | 0, _ => by simp [sumN]
  | m + 1, k => by
    rw [sumN, sumN_two hab m (fun v hv => k v (by omega))]
    by_cases e1 : a = m
    · subst e1
      rw [if_neg (show ¬ a < a by omega), if_pos (show a < a + 1 by omega)]
      by_cases e2 : b < a
      · rw [if_pos e2, if_pos (by omega)]; omega
      · rw [if_neg e2, if_neg (by omega)]; omega
    · by_cases e2 : b = m
      · subst e2
        rw [if_neg (show ¬ b < b by omega), if_pos (show b < b + 1 by omega)]
        by_cases e3 : a < b
        · rw [if_pos e3, if_pos (by omega)]; omega
        · rw [if_neg e3, if_neg (by omega)]; omega
      · rw [k m (by omega) (fun e => e1 e.symm) (fun e => e2 e.symm)]
        have h1 : (a < m + 1) ↔ (a < m) := by omega
        have h2 : (b < m + 1) ↔ (b < m) := by omega
        simp only [h1, h2]
        omega

theorem flow_parts {V : Nat} {L : List Lk} {caps f : List Int} {s t : Int} (h : flowB (V : Nat) L caps f s t = true) :
    fitsF (V : Nat) L caps f = true ∧ inV V s ∧ inV V t ∧ s ≠ t ∧ 0 ≤ gainOf L f s ∧ ∀ v : Nat, v < V → (v : Int) ≠ s → (v : Int) ≠ t → gainOf L f (v : Int) = 0 := by
  simp only [flowB, Bool.and_eq_true, Bool.not_eq_true', beq_eq_false_iff_ne, decide_eq_true_eq, isV, List.all_eq_true, List.mem_range, Int.toNat_natCast] at h
  obtain ⟨⟨⟨⟨h1, h2, h3⟩, h4⟩, h5⟩, h6⟩ := h
  refine ⟨h1, h2, h3, h4, h5, fun v hv a b => ?_⟩
  have := h6 v hv
  simp only [restB, Bool.or_eq_true, beq_iff_eq] at this
  rcases this with (k | k) | k
  · exact absurd k a
  · exact absurd k b
  · exact k

theorem flow_sum (g : Nat → Int) {V : Nat} {L : List Lk} {caps f : List Int} {s t : Int} (h : flowB (V : Nat) L caps f s t = true) :
    g s.toNat * gainOf L f s + g t.toNat * gainOf L f t = sumN (fun i => f[i]?.getD 0 * (g (at3 L i).1.toNat - g (at3 L i).2.1.toNat)) L.length := by
  obtain ⟨h1, h2, h3, h4, _, h6⟩ := flow_parts h
  have hm := (fits_parts h1).1
  rw [← sum_gains g f hm L.length (Nat.le_refl _)]
  have s0 := h2.1
  have s1 := h2.2
  have t0 := h3.1
  have t1 := h3.2
  have e := sumN_two (h := fun v => g v * gk L f (v : Int) L.length) (a := s.toNat) (b := t.toNat) (by omega) V (fun v hv a b => by
    have : gk L f (v : Int) L.length = 0 := h6 v hv (by omega) (by omega)
    rw [this, Int.mul_zero])
  rw [if_pos (by omega), if_pos (by omega)] at e
  rw [e]
  have e1 : ((s.toNat : Nat) : Int) = s := by omega
  have e2 : ((t.toNat : Nat) : Int) = t := by omega
  simp only [gainOf, e1, e2]

theorem flow_ends {V : Nat} {L : List Lk} {caps f : List Int} {s t : Int} (h : flowB (V : Nat) L caps f s t = true) : gainOf L f t = -gainOf L f s := by
  have e := flow_sum (fun _ => 1) h
  have z : sumN (fun i => f[i]?.getD 0 * ((fun _ : Nat => (1 : Int)) (at3 L i).1.toNat - (fun _ : Nat => (1 : Int)) (at3 L i).2.1.toNat)) L.length = sumN (fun _ => 0) L.length := sumN_congr _ (fun v _ => by simp)
  rw [z, sumN_zero] at e
  omega

def ind (p : Nat → Bool) (v : Nat) : Int := if p v then 1 else 0
/-- What the links that leave a set may carry. -/
def cutW (p : Nat → Bool) (L : List Lk) (caps : List Int) (k : Nat) : Int := sumN (fun i => if p (at3 L i).1.toNat && !p (at3 L i).2.1.toNat then caps[i]?.getD 0 else 0) k

theorem flow_out {V : Nat} {L : List Lk} {caps f : List Int} {s t : Int} {p : Nat → Bool} (h : flowB (V : Nat) L caps f s t = true) (hs : p s.toNat = true) (ht : p t.toNat = false) :
    gainOf L f s = sumN (fun i => f[i]?.getD 0 * (ind p (at3 L i).1.toNat - ind p (at3 L i).2.1.toNat)) L.length := by
  have e := flow_sum (ind p) h
  rw [← e, ind, hs, ind, ht]
  simp

/-- No flow is greater than a cut. -/
theorem flow_cut {V : Nat} {L : List Lk} {caps f : List Int} {s t : Int} {p : Nat → Bool} (h : flowB (V : Nat) L caps f s t = true) (hs : p s.toNat = true) (ht : p t.toNat = false) : gainOf L f s ≤ cutW p L caps L.length := by
  rw [flow_out h hs ht]
  obtain ⟨f1, f2, f3, f4⟩ := fits_parts (flow_parts h).1
  refine sumN_leK _ fun i hi => ?_
  have hc := (capsB_parts f2).1
  have hr := (ratesB_parts f3).2 i (by omega)
  unfold capI at hr
  unfold ind
  cases p (at3 L i).1.toNat <;> cases p (at3 L i).2.1.toNat <;> simp <;> omega

/-- A set that no arc with room leaves is a cut as great as the flow. -/
theorem flow_full {V : Nat} {L : List Lk} {caps f : List Int} {s t : Int} {p : Nat → Bool} (h : flowB (V : Nat) L caps f s t = true) (hs : p s.toNat = true) (ht : p t.toNat = false)
    (hcl : ∀ a : Nat, a < 2 * L.length → 0 < roomI caps f (a : Int) → p (tailOf L a).toNat = true → p (headOf L a).toNat = true) : gainOf L f s = cutW p L caps L.length := by
  rw [flow_out h hs ht]
  obtain ⟨f1, f2, f3, f4⟩ := fits_parts (flow_parts h).1
  refine sumN_congr _ fun i hi => ?_
  have hc := (capsB_parts f2).1
  have hr := (ratesB_parts f3).2 i (by omega)
  unfold capI at hr
  have k1 := hcl (2 * i) (by omega)
  have k2 := hcl (2 * i + 1) (by omega)
  rw [roomE2, tail_even, head_even] at k1
  rw [roomO2, tail_odd, head_odd] at k2
  unfold ind
  cases e1 : p (at3 L i).1.toNat <;> cases e2 : p (at3 L i).2.1.toNat
  · simp
  · rw [e1, e2] at k2
    have : ¬ 0 < f[i]?.getD 0 := fun q => by have := k2 q rfl; cases this
    simp
    omega
  · rw [e1, e2] at k1
    have : ¬ 0 < caps[i]?.getD 0 - f[i]?.getD 0 := fun q => by have := k1 q rfl; cases this
    simp
    omega
  · simp

/-- Those that have a level: where the sink has none, the flow is as great as this cut. -/
theorem flow_reach {V : Nat} {L : List Lk} {caps f M : List Int} {s t : Int} (h : flowB (V : Nat) L caps f s t = true) (k : IsLv V (Leads L caps f (2 * L.length)) s M) (ht : lvAt M t < 0) :
    gainOf L f s = cutW (fun v => decide (0 ≤ lvAt M (v : Int))) L caps L.length := by
  obtain ⟨h1, h2, h3, _⟩ := flow_parts h
  have hm := (fits_parts h1).1
  have s0 := h2.1
  have t0 := h3.1
  have e1 : ((s.toNat : Nat) : Int) = s := by omega
  have e2 : ((t.toNat : Nat) : Int) = t := by omega
  refine flow_full h ?_ ?_ fun a ha hr hp => ?_
  · simp only [e1, k.src]; decide
  · simp only [e2, decide_eq_false_iff_not]; omega
  · have b1 := (leads_in (caps := caps) (f := f) hm rfl _ _ ⟨a, ha, rfl, rfl, hr⟩)
    have q1 := b1.1.1
    have q2 := b1.2.1
    have e3 : (((tailOf L a).toNat : Nat) : Int) = tailOf L a := by omega
    have e4 : (((headOf L a).toNat : Nat) : Int) = headOf L a := by omega
    simp only [e3, decide_eq_true_eq] at hp
    simp only [e4, decide_eq_true_eq]
    exact (k.up _ _ ⟨a, ha, rfl, rfl, hr⟩ hp).1

def farI (f b : List Int) (i : Nat) : Int := if f[i]?.getD 0 < b[i]?.getD 0 then b[i]?.getD 0 - f[i]?.getD 0 else f[i]?.getD 0 - b[i]?.getD 0

theorem far_nonneg (f b : List Int) (i : Nat) : 0 ≤ farI f b i := by
  unfold farI
  split <;> omega

/-- All that turned together is as much as was pushed, as often as the sink stands high. -/
theorem over_sum {V : Nat} {L : List Lk} {caps f b M : List Int} {s t k : Int} (hf : flowB (V : Nat) L caps f s t = true) (hb : flowB (V : Nat) L caps b s t = true) (hk : gainOf L b s = gainOf L f s + k) (o : Over L caps f b M) (h : IsLv V (Leads L caps f (2 * L.length)) s M) :
    sumN (farI f b) L.length = lvAt M t * k := by
  have e1 := flow_sum (fun v => lvAt M (v : Int)) hf
  have e2 := flow_sum (fun v => lvAt M (v : Int)) hb
  obtain ⟨h1, h2, h3, _⟩ := flow_parts hf
  have hm := (fits_parts h1).1
  have s0 := h2.1
  have t0 := h3.1
  have q1 : ((s.toNat : Nat) : Int) = s := by omega
  have q2 : ((t.toNat : Nat) : Int) = t := by omega
  simp only [q1, q2, h.src, Int.zero_mul, Int.zero_add] at e1 e2
  rw [flow_ends hf, Int.mul_neg] at e1
  rw [flow_ends hb, hk, Int.mul_neg, Int.mul_add] at e2
  have e3 : sumN (fun i => b[i]?.getD 0 * (lvAt M (((at3 L i).1.toNat : Nat) : Int) - lvAt M (((at3 L i).2.1.toNat : Nat) : Int)) - f[i]?.getD 0 * (lvAt M (((at3 L i).1.toNat : Nat) : Int) - lvAt M (((at3 L i).2.1.toNat : Nat) : Int))) L.length = sumN (fun i => 0 - farI f b i) L.length := by
    refine sumN_congr _ fun i hi => ?_
    have hj := may_joins hm hi
    have q3 : (((at3 L i).1.toNat : Nat) : Int) = (at3 L i).1 := by have := hj.1; omega
    have q4 : (((at3 L i).2.1.toNat : Nat) : Int) = (at3 L i).2.1 := by have := hj.2.2.1; omega
    simp only [q3, q4]
    rw [← Int.sub_mul]
    unfold farI
    by_cases c1 : f[i]?.getD 0 < b[i]?.getD 0
    · have st := (o.up i hi c1).2.2
      rw [tail_even, head_even] at st
      rw [if_pos c1, st, show lvAt M (at3 L i).1 - (lvAt M (at3 L i).1 + 1) = -1 by omega]
      omega
    · rw [if_neg c1]
      by_cases c2 : b[i]?.getD 0 < f[i]?.getD 0
      · have st := (o.down i hi c2).2.2
        rw [tail_odd, head_odd] at st
        rw [st, show lvAt M (at3 L i).2.1 + 1 - lvAt M (at3 L i).2.1 = 1 by omega]
        omega
      · rw [show b[i]?.getD 0 - f[i]?.getD 0 = 0 by omega, Int.zero_mul]
        omega
  rw [sumN_sub (fun i => b[i]?.getD 0 * (lvAt M (((at3 L i).1.toNat : Nat) : Int) - lvAt M (((at3 L i).2.1.toNat : Nat) : Int))) (fun i => f[i]?.getD 0 * (lvAt M (((at3 L i).1.toNat : Nat) : Int) - lvAt M (((at3 L i).2.1.toNat : Nat) : Int))), ← e1, ← e2, sumN_sub (fun _ => 0) (farI f b), sumN_zero] at e3
  omega

theorem sum_nil {h : Nat → Int} (h0 : ∀ i, 0 ≤ h i) : ∀ m, sumN h m ≤ 0 → ∀ i, i < m → h i = 0
  | 0, _, i, hi => by omega
  | m + 1, hs, i, hi => by
    rw [sumN] at hs
    have h1 : 0 ≤ sumN h m := by
      have := sumN_leK (g := fun _ => 0) (h := h) m (fun v _ => h0 v)
      rw [sumN_zero] at this
      exact this
    have h2 := h0 m
    by_cases e : i < m
    · exact sum_nil h0 m (by omega) i e
    · obtain rfl : i = m := by omega
      omega

theorem sum_pos {h : Nat → Int} (h0 : ∀ i, 0 ≤ h i) (m : Nat) : 0 ≤ sumN h m := by
  have := sumN_leK (g := fun _ => 0) (h := h) m (fun v _ => h0 v)
  rw [sumN_zero] at this
  exact this

theorem far_same {f b : List Int} {n : Nat} (h1 : f.length = n) (h2 : b.length = n) (h : ∀ i, i < n → farI f b i = 0) : b = f := by
  refine List.ext_getElem (by omega) fun i i1 i2 => ?_
  have := h i (by omega)
  unfold farI at this
  rw [List.getElem?_eq_getElem i1, List.getElem?_eq_getElem i2] at this
  simp only [Option.getD_some] at this
  split at this <;> omega

theorem flow_len {V : Nat} {L : List Lk} {caps f : List Int} {s t : Int} (h : flowB (V : Nat) L caps f s t = true) : f.length = L.length := by
  obtain ⟨_, f2, f3, _⟩ := fits_parts (flow_parts h).1
  have := (capsB_parts f2).1
  have := (ratesB_parts f3).1
  omega

/-- Nothing pushed: nothing turned. -/
theorem over_same {V : Nat} {L : List Lk} {caps f b M : List Int} {s t : Int} (hf : flowB (V : Nat) L caps f s t = true) (hb : flowB (V : Nat) L caps b s t = true) (hk : gainOf L b s = gainOf L f s) (o : Over L caps f b M) (h : IsLv V (Leads L caps f (2 * L.length)) s M) : b = f := by
  have e := over_sum (k := 0) hf hb (by omega) o h
  rw [Int.mul_zero] at e
  exact far_same (flow_len hf) (flow_len hb) (sum_nil (far_nonneg f b) L.length (by omega))

/-- Where the sink can't be reached nothing is pushed, and it is as it was. -/
theorem over_shut {V : Nat} {L : List Lk} {caps f b M : List Int} {s t k : Int} (hf : flowB (V : Nat) L caps f s t = true) (hb : flowB (V : Nat) L caps b s t = true) (hk : gainOf L b s = gainOf L f s + k) (k0 : 0 ≤ k) (o : Over L caps f b M) (h : IsLv V (Leads L caps f (2 * L.length)) s M) (ht : lvAt M t < 0) : k = 0 ∧ b = f := by
  have e := over_sum hf hb hk o h
  have hbd := h.bd t (flow_parts hf).2.2.1
  rw [show lvAt M t = -1 by omega] at e
  have p := sum_pos (far_nonneg f b) L.length
  have hz : k = 0 := by omega
  subst hz
  exact ⟨rfl, over_same hf hb (by omega) o h⟩

/-- What a blocking flow keeps. -/
structure BlkIs (V : Nat) (L : List Lk) (caps f : List Int) (s t most : Int) (b : List Int) (k : Int) (M : List Int) : Prop where
  flow : flowB (V : Nat) L caps b s t = true
  val : gainOf L b s = gainOf L f s + k
  low : 0 ≤ k
  high : k ≤ most
  over : Over L caps f b M
  shut : k = most ∨ ¬ Way L (fun a => StepsA L caps f M a ∧ 0 < roomI caps b (a : Int)) (2 * L.length) s t

/-- Something is pushed where the sink can be reached and something was asked for. -/
theorem blk_some {V : Nat} {L : List Lk} {caps f b M : List Int} {s t k most : Int} (hf : flowB (V : Nat) L caps f s t = true) (h : IsLv V (Leads L caps f (2 * L.length)) s M) (hb : BlkIs V L caps f s t most b k M) (ht : 0 ≤ lvAt M t) (hm : 0 < most) : 0 < k := by
  by_cases hk : 0 < k
  · exact hk
  · have hz : k = 0 := by have := hb.low; omega
    subst hz
    have e := over_same hf hb.flow (by have := hb.val; omega) hb.over h
    subst e
    obtain ⟨h1, _, h3, _⟩ := flow_parts hf
    have w := steps_way (fits_parts h1).1 rfl h (lvAt M t).toNat t h3 (by omega)
    rcases hb.shut with q | q
    · omega
    · refine absurd ?_ q
      exact w.mono fun a hp => ⟨hp, hp.1⟩

theorem blk_deeper {V : Nat} {L : List Lk} {caps f b M N : List Int} {s t k most : Int} (hf : flowB (V : Nat) L caps f s t = true) (h : IsLv V (Leads L caps f (2 * L.length)) s M) (hb : BlkIs V L caps f s t most b k M) (hn : IsLv V (Leads L caps b (2 * L.length)) s N) (hk : k ≠ most) : lvAt N t < 0 ∨ (0 ≤ lvAt M t ∧ lvAt M t < lvAt N t) := by
  obtain ⟨h1, _, h3, _⟩ := flow_parts hf
  obtain ⟨f1, f2, f3, _⟩ := fits_parts h1
  rcases hb.shut with q | q
  · exact absurd q hk
  · exact over_deeper f1 rfl f3 (capsB_parts f2).1 hb.over h hn h3 q

/-- A sink that can't be reached stays so. -/
theorem blk_stays {V : Nat} {L : List Lk} {caps f b M : List Int} {s t k most : Int} (hf : flowB (V : Nat) L caps f s t = true) (h : IsLv V (Leads L caps f (2 * L.length)) s M) (hb : BlkIs V L caps f s t most b k M) (ht : lvAt M t < 0) : k = 0 ∧ b = f :=
  over_shut hf hb.flow hb.val hb.low hb.over h ht

/-- There are levels. -/
theorem bfs_row {V : Nat} {hd : Int → List Int} {s : Int} (hh : ∀ u, inV V u → ∀ x ∈ hd u, inV V x) {a : Nat} {v : Int} : ∀ (d j : Nat) (M Q : List Int), Bfs V hd s M Q a j → a < Q.length → qAt Q a = v → j + d = (hd v).length →
    ∃ M' Q', Bfs V hd s M' Q' a (hd v).length ∧ a < Q'.length ∧ qAt Q' a = v
  | 0, j, M, Q, b, ha, hq, e => by
    obtain rfl : j = (hd v).length := by omega
    exact ⟨M, Q, b, ha, hq⟩
  | d + 1, j, M, Q, b, ha, hq, e => by
    have hj : j < (hd (qAt Q a)).length := by rw [hq]; omega
    have hv : inV V ((hd (qAt Q a))[j]?.getD 0) := by
      rw [List.getElem?_eq_getElem hj]
      exact hh _ (b.isin a ha) _ (List.getElem_mem hj)
    by_cases k : 0 ≤ lvAt M ((hd (qAt Q a))[j]?.getD 0)
    · exact bfs_row hh d (j + 1) M Q (bfs_old b hv k) ha hq (by omega)
    · exact bfs_row hh d (j + 1) _ _ (bfs_new b ha hj rfl hv (by omega)) (by simp; omega) (by rw [q_app ha]; exact hq) (by omega)

theorem bfs_all {V : Nat} {hd : Int → List Int} {s : Int} (hh : ∀ u, inV V u → ∀ x ∈ hd u, inV V x) : ∀ (d a : Nat) (M Q : List Int), Bfs V hd s M Q a 0 → a ≤ Q.length → a + d = V → ∃ M' Q' a', Bfs V hd s M' Q' a' 0 ∧ Q'.length ≤ a'
  | 0, a, M, Q, b, ha, e => ⟨M, Q, a, b, by have := b.many; omega⟩
  | d + 1, a, M, Q, b, ha, e => by
    by_cases k : a < Q.length
    · obtain ⟨M', Q', b', h1, h2⟩ := bfs_row hh (hd (qAt Q a)).length 0 M Q b k rfl (by omega)
      exact bfs_all hh d (a + 1) M' Q' (bfs_next b' h1 (by rw [h2]; exact Nat.le_refl _)) (by omega) (by omega)
    · exact ⟨M, Q, a, b, by omega⟩

theorem lev_there {V n : Nat} {ls : List Lk} {caps f : List Int} {s : Int} (hm : mayG (V : Nat) ls = true) (hl : ls.length = n) (hs : inV V s) : ∃ M, IsLv V (Leads ls caps f (2 * n)) s M := by
  have hh : ∀ u, inV V u → ∀ x ∈ hdOf ls caps f n u, inV V x := fun u _ x hx => (leads_in hm hl u x (hd_mem.2 hx)).2
  obtain ⟨M, Q, a, b, h⟩ := bfs_all hh V 0 _ _ (bfs_first (hd := fun v => hdOf ls caps f n v) hs) (by simp) (by omega)
  exact ⟨M, bfs_end (Leads ls caps f (2 * n)) (leads_in hm hl) (fun u v _ => hd_mem) b h⟩

/-- Block by block: the sink stands higher than there were rounds, or nowhere, or all that can be is pushed. -/
structure RoundI (V : Nat) (L : List Lk) (caps : List Int) (s t : Int) (i : Nat) (f : List Int) (all : Int) : Prop where
  flow : flowB (V : Nat) L caps f s t = true
  val : gainOf L f s = all
  far : ∀ M, IsLv V (Leads L caps f (2 * L.length)) s M → lvAt M t < 0 ∨ (i : Int) < lvAt M t ∨ all = 4611686018427387904

theorem flow_most {V : Nat} {L : List Lk} {caps f : List Int} {s t : Int} (h : flowB (V : Nat) L caps f s t = true) : 0 ≤ gainOf L f s ∧ gainOf L f s ≤ 4611686018427387904 := by
  obtain ⟨h1, _, _, _, h5, _⟩ := flow_parts h
  obtain ⟨f1, _, _, f4⟩ := fits_parts h1
  exact ⟨h5, (gain_bd s f1 f4).2⟩

theorem round_next {V : Nat} {L : List Lk} {caps f b M : List Int} {s t k all : Int} {i : Nat} (r : RoundI V L caps s t i f all) (h : IsLv V (Leads L caps f (2 * L.length)) s M) (hb : BlkIs V L caps f s t 4611686018427387904 b k M) : RoundI V L caps s t (i + 1) b (all + k) ∧ k ≤ 4611686018427387904 - all := by
  have hv := hb.val
  rw [r.val] at hv
  have m1 := flow_most r.flow
  have m2 := flow_most hb.flow
  rw [r.val] at m1
  rw [hv] at m2
  have hl := hb.low
  refine ⟨⟨hb.flow, hv, fun N hn => ?_⟩, by omega⟩
  by_cases q : k = 4611686018427387904
  · right; right; omega
  · rcases blk_deeper r.flow h hb hn q with d | ⟨d1, d2⟩
    · exact .inl d
    · rcases r.far M h with e | e | e
      · omega
      · right; left; omega
      · right; right; omega

theorem round_end {V : Nat} {L : List Lk} {caps f : List Int} {s t all : Int} (r : RoundI V L caps s t V f all) : (∃ p : Nat → Bool, p s.toNat = true ∧ p t.toNat = false ∧ all = cutW p L caps L.length) ∨ all = 4611686018427387904 := by
  obtain ⟨h1, h2, h3, _⟩ := flow_parts r.flow
  have hm := (fits_parts h1).1
  obtain ⟨M, h⟩ := lev_there (caps := caps) (f := f) hm rfl h2
  have hbd := h.bd t h3
  have s0 := h2.1
  have t0 := h3.1
  have e1 : ((s.toNat : Nat) : Int) = s := by omega
  have e2 : ((t.toNat : Nat) : Int) = t := by omega
  rcases r.far M h with e | e | e
  · left
    refine ⟨fun v => decide (0 ≤ lvAt M (v : Int)), ?_, ?_, ?_⟩
    · simp only [e1, h.src]; decide
    · simp only [e2, decide_eq_false_iff_not]; omega
    · rw [← r.val]; exact flow_reach r.flow h e
  · omega
  · exact .inr e

/-- No cut is less. -/
theorem round_least {V : Nat} {L : List Lk} {caps f : List Int} {s t all : Int} {i : Nat} (r : RoundI V L caps s t i f all) {p : Nat → Bool} (hs : p s.toNat = true) (ht : p t.toNat = false) : all ≤ cutW p L caps L.length := by
  rw [← r.val]
  exact flow_cut r.flow hs ht

theorem gk_zero (L : List Lk) (n : Nat) (v : Int) : ∀ k, gk L (List.replicate n 0) v k = 0
  | 0 => rfl
  | k + 1 => by
    have z : (List.replicate n (0 : Int))[k]?.getD 0 = 0 := by
      rw [List.getElem?_replicate]
      split <;> rfl
    rw [gk, gk_zero L n v k, outP, inP, z]
    simp

theorem round_first {V : Nat} {L : List Lk} {caps : List Int} {s t : Int} (h1 : mayG (V : Nat) L = true) (h2 : capsB L caps = true) (hs : inV V s) (ht : inV V t) (hst : s ≠ t) : RoundI V L caps s t 0 (List.replicate L.length 0) 0 := by
  have hc := (capsB_parts h2).1
  have z : ∀ i : Nat, (List.replicate L.length (0 : Int))[i]?.getD 0 = 0 := fun i => by
    rw [List.getElem?_replicate]
    split <;> rfl
  have hr : ratesB caps (List.replicate L.length 0) = true := ratesB_mk (by simp [hc]) fun i hi => by
    have := ((capsB_parts h2).2 i (by omega)).1
    unfold capI at *
    rw [z]
    omega
  refine ⟨?_, gk_zero L _ s _, fun M h => ?_⟩
  · simp only [flowB, fitsF, h1, h2, hr, Bool.and_eq_true, Bool.not_eq_true', beq_eq_false_iff_ne, decide_eq_true_eq, isV, List.all_eq_true, List.mem_range, Int.toNat_natCast]
    refine ⟨⟨⟨⟨⟨⟨trivial, trivial⟩, trivial⟩, ⟨hs.1, hs.2⟩, ht.1, ht.2⟩, hst⟩, by rw [gainOf, gk_zero]; omega⟩, fun v _ => ?_⟩
    simp only [restB, gainOf, gk_zero]
    simp
  · have hbd := h.bd t ht
    by_cases e : lvAt M t = 0
    · exact absurd (h.zero t ht e).symm hst
    · by_cases e2 : lvAt M t < 0
      · exact .inl e2
      · right; left; omega

/-- Each set of vertices is the bits of a number. -/
theorem bits_of (p : Nat → Bool) : ∀ V : Nat, ∃ B, B < 2 ^ V ∧ ∀ v, v < V → B.testBit v = p v
  | 0 => ⟨0, by simp, fun v hv => by omega⟩
  | V + 1 => by
    obtain ⟨B, h1, h2⟩ := bits_of p V
    cases hp : p V
    · refine ⟨B, by rw [Nat.pow_succ]; omega, fun v hv => ?_⟩
      by_cases e : v < V
      · exact h2 v e
      · obtain rfl : v = V := by omega
        rw [hp]
        exact Nat.testBit_lt_two_pow h1
    · refine ⟨2 ^ V + B, by rw [Nat.pow_succ]; omega, fun v hv => ?_⟩
      by_cases e : v < V
      · rw [Nat.testBit_two_pow_add_gt e, h2 v e]
      · obtain rfl : v = V := by omega
        rw [hp, Nat.testBit_two_pow_add_eq, Nat.testBit_lt_two_pow h1]
        rfl

theorem cutW_congr {V : Nat} {L : List Lk} {caps : List Int} {p q : Nat → Bool} (hm : mayG (V : Nat) L = true) (h : ∀ v, v < V → p v = q v) : cutW p L caps L.length = cutW q L caps L.length := by
  refine sumN_congr _ fun i hi => ?_
  have hj := may_joins hm hi
  rw [h _ (by omega), h _ (by omega)]

/-- The least of these numbers, of those that are let by. -/
def leastN (ok : Nat → Bool) (w : Nat → Int) : Nat → Int
  | 0 => 4611686018427387904
  | B + 1 => if ok B = true ∧ w B < leastN ok w B then w B else leastN ok w B

theorem least_low {ok : Nat → Bool} {w : Nat → Int} {x : Int} (hx : x ≤ 4611686018427387904) : ∀ m, (∀ B, B < m → ok B = true → x ≤ w B) → x ≤ leastN ok w m
  | 0, _ => hx
  | m + 1, h => by
    have ih := least_low hx m (fun B hB => h B (by omega))
    rw [leastN]
    split
    · rename_i k
      exact h m (by omega) k.1
    · exact ih

theorem least_most {ok : Nat → Bool} {w : Nat → Int} : ∀ m, leastN ok w m ≤ 4611686018427387904
  | 0 => Int.le_refl _
  | m + 1 => by
    have ih := least_most (ok := ok) (w := w) m
    rw [leastN]
    split <;> omega

theorem least_hit {ok : Nat → Bool} {w : Nat → Int} {B : Nat} (hB : ok B = true) : ∀ m, B < m → leastN ok w m ≤ w B
  | 0, h => by omega
  | m + 1, h => by
    rw [leastN]
    by_cases e : B < m
    · have ih := least_hit (w := w) hB m e
      split <;> omega
    · obtain rfl : B = m := by omega
      split
      · omega
      · rename_i k
        have : ¬ w B < leastN ok w B := fun q => k ⟨hB, q⟩
        omega

/-- Block by block the flow becomes as great as the least cut. -/
theorem round_all {V : Nat} {L : List Lk} {caps f : List Int} {s t all : Int} (r : RoundI V L caps s t V f all) :
    leastN (fun B => B.testBit s.toNat && !B.testBit t.toNat) (fun B => cutW (fun v => B.testBit v) L caps L.length) (2 ^ V) = all := by
  obtain ⟨h1, h2, h3, _⟩ := flow_parts r.flow
  have hm := (fits_parts h1).1
  have s0 := h2.1
  have s1 := h2.2
  have t0 := h3.1
  have t1 := h3.2
  have hmost := flow_most r.flow
  rw [r.val] at hmost
  have lo := least_low (ok := fun B => B.testBit s.toNat && !B.testBit t.toNat) (w := fun B => cutW (fun v => B.testBit v) L caps L.length) hmost.2 (2 ^ V) (fun B _ hB => by
    simp only [Bool.and_eq_true, Bool.not_eq_true'] at hB
    exact round_least r (p := fun v => B.testBit v) hB.1 hB.2)
  have hi : leastN (fun B => B.testBit s.toNat && !B.testBit t.toNat) (fun B => cutW (fun v => B.testBit v) L caps L.length) (2 ^ V) ≤ all := by
    rcases round_end r with ⟨p, hs, ht, e⟩ | e
    · obtain ⟨B, b1, b2⟩ := bits_of p V
      have := least_hit (ok := fun B => B.testBit s.toNat && !B.testBit t.toNat) (w := fun B => cutW (fun v => B.testBit v) L caps L.length) (B := B) (by simp only [b2 s.toNat (by omega), b2 t.toNat (by omega), hs, ht]; rfl) (2 ^ V) b1
      rw [e, ← cutW_congr (caps := caps) hm b2]
      exact this
    · rw [e]
      exact least_most _
  omega

end Go.Proofs.Ytppcncblmakekaa
