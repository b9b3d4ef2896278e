/-
  Levels, as numbers: what a list of levels must keep; two that keep it are one; a search in a queue, a search round by round. No program here.
-/
import Derived.Test.YtppcncblmakekaaMathFlow
set_option maxRecDepth 20000
namespace Go.Proofs.Ytppcncblmakekaa

def lvAt (M : List Int) (v : Int) : Int := M[v.toNat]?.getD 0
def inV (V : Nat) (v : Int) : Prop := 0 ≤ v ∧ v < V

/-- An arc with room leads from u to v. -/
def Leads (ls : List Lk) (caps f : List Int) (m : Nat) (u v : Int) : Prop := ∃ a : Nat, a < m ∧ tailOf ls a = u ∧ headOf ls a = v ∧ 0 < roomI caps f (a : Int)

structure IsLv (V : Nat) (E : Int → Int → Prop) (s : Int) (M : List Int) : Prop where
  len : M.length = V
  src : lvAt M s = 0
  bd : ∀ v, inV V v → -1 ≤ lvAt M v ∧ lvAt M v < V
  zero : ∀ v, inV V v → lvAt M v = 0 → v = s
  up : ∀ u v, E u v → 0 ≤ lvAt M u → 0 ≤ lvAt M v ∧ lvAt M v ≤ lvAt M u + 1
  led : ∀ v, inV V v → 1 ≤ lvAt M v → ∃ u, E u v ∧ lvAt M u + 1 = lvAt M v

theorem lv_le {V : Nat} {E E' : Int → Int → Prop} {s : Int} {M M' : List Int} (hE : ∀ u v, E u v → inV V u ∧ inV V v) (hEE : ∀ u v, E u v → E' u v) (h : IsLv V E s M) (h' : IsLv V E' s M') :
    ∀ (d : Nat) (v : Int), inV V v → lvAt M v = d → 0 ≤ lvAt M' v ∧ lvAt M' v ≤ d
  | 0, v, hv, e => by
    obtain rfl := h.zero v hv e
    have := h'.src
    omega
  | d + 1, v, hv, e => by
    obtain ⟨u, hu, k⟩ := h.led v hv (by omega)
    have ih := lv_le hE hEE h h' d u (hE u v hu).1 (by omega)
    have := h'.up u v (hEE u v hu) ih.1
    omega

/-- Two lists of levels are one. -/
theorem lev_one {V : Nat} {E E' : Int → Int → Prop} {s : Int} {M M' : List Int} (hE : ∀ u v, E u v → inV V u ∧ inV V v) (hEE : ∀ u v, E u v ↔ E' u v) (h : IsLv V E s M) (h' : IsLv V E' s M') : M = M' := by
  have hE' : ∀ u v, E' u v → inV V u ∧ inV V v := fun u v k => hE u v ((hEE u v).2 k)
  refine List.ext_getElem (by rw [h.len, h'.len]) fun i h1 h2 => ?_
  have hi : inV V (i : Int) := ⟨by omega, by have := h.len; omega⟩
  have e1 : lvAt M (i : Int) = M[i] := by simp [lvAt, h1]
  have e2 : lvAt M' (i : Int) = M'[i] := by simp [lvAt, h2]
  rw [← e1, ← e2]
  have b1 := h.bd _ hi
  have b2 := h'.bd _ hi
  by_cases k : 0 ≤ lvAt M (i : Int)
  · have a1 := lv_le hE (fun u v => (hEE u v).1) h h' (lvAt M (i : Int)).toNat _ hi (by omega)
    have a2 := lv_le hE' (fun u v => (hEE u v).2) h' h (lvAt M' (i : Int)).toNat _ hi (by omega)
    omega
  · by_cases k' : 0 ≤ lvAt M' (i : Int)
    · have a2 := lv_le hE' (fun u v => (hEE u v).2) h' h (lvAt M' (i : Int)).toNat _ hi (by omega)
      omega
    · omega

theorem lv_set {M : List Int} {h x v : Int} (hh : inV M.length h) (hv : 0 ≤ v) : lvAt (M.set h.toNat x) v = if v = h then x else lvAt M v := by
  obtain ⟨h0, h1⟩ := hh
  unfold lvAt
  by_cases e : v = h
  · subst e
    rw [if_pos rfl, List.getElem?_set_self (by omega)]
    rfl
  · rw [if_neg e, List.getElem?_set_ne (by omega)]

theorem lv_at {M : List Int} {v : Int} (h : inV M.length v) : M[v.toNat]? = some (lvAt M v) := by
  obtain ⟨h0, h1⟩ := h
  unfold lvAt
  rw [List.getElem?_eq_getElem (by omega)]
  rfl

def negs (M : List Int) : Nat := M.countP (fun x => decide (x < 0))

theorem negs_set {M : List Int} {h x : Int} (hh : inV M.length h) (hx : 0 ≤ x) (hn : lvAt M h < 0) : negs (M.set h.toNat x) + 1 = negs M := by
  have h2 : h.toNat < M.length := by have := hh.1; have := hh.2; omega
  have e : M[h.toNat] < 0 := by
    have := lv_at hh
    rw [List.getElem?_eq_getElem h2] at this
    have := Option.some.inj this
    omega
  have hp : 0 < M.countP (fun x => decide (x < 0)) := List.countP_pos_iff.2 ⟨M[h.toNat], List.getElem_mem h2, by simpa using e⟩
  unfold negs
  rw [List.countP_set h2, if_pos (by simpa using e), if_neg (by simp; omega)]
  omega

def qAt (Q : List Int) (i : Nat) : Int := Q[i]?.getD 0

/-- The search: M the levels, Q those reached; the first at of them are done, of the next one its first j heads. -/
structure Bfs (V : Nat) (hd : Int → List Int) (s : Int) (M Q : List Int) (at' j : Nat) : Prop where
  len : M.length = V
  src : lvAt M s = 0
  low : ∀ v, inV V v → -1 ≤ lvAt M v
  isin : ∀ i, i < Q.length → inV V (qAt Q i)
  has : ∀ v, inV V v → 0 ≤ lvAt M v → ∃ i, i < Q.length ∧ qAt Q i = v
  got : ∀ i, i < Q.length → 0 ≤ lvAt M (qAt Q i) ∧ lvAt M (qAt Q i) ≤ i
  many : Q.length + negs M = V
  zero : ∀ v, inV V v → lvAt M v = 0 → v = s
  led : ∀ v, inV V v → 1 ≤ lvAt M v → ∃ u, inV V u ∧ v ∈ hd u ∧ lvAt M u + 1 = lvAt M v
  rise : ∀ i k, i ≤ k → k < Q.length → lvAt M (qAt Q i) ≤ lvAt M (qAt Q k)
  near : at' < Q.length → ∀ i, i < Q.length → lvAt M (qAt Q i) ≤ lvAt M (qAt Q at') + 1
  past : ∀ i, i < at' → i < Q.length → ∀ h ∈ hd (qAt Q i), 0 ≤ lvAt M h ∧ lvAt M h ≤ lvAt M (qAt Q i) + 1
  part : at' < Q.length → ∀ k, k < j → k < (hd (qAt Q at')).length → 0 ≤ lvAt M ((hd (qAt Q at'))[k]?.getD 0) ∧ lvAt M ((hd (qAt Q at'))[k]?.getD 0) ≤ lvAt M (qAt Q at') + 1

theorem rep_at {V : Nat} {v : Int} (h : inV V v) : lvAt (List.replicate V (-1)) v = -1 := by
  obtain ⟨h0, h1⟩ := h
  unfold lvAt
  rw [List.getElem?_replicate, if_pos (by omega)]
  rfl

theorem negs_rep (V : Nat) : negs (List.replicate V (-1)) = V := by simp [negs, List.countP_replicate]

theorem bfs_first {V : Nat} {hd : Int → List Int} {s : Int} (hs : inV V s) : Bfs V hd s ((List.replicate V (-1)).set s.toNat 0) [s] 0 0 := by
  have hl : inV (List.replicate V (-1 : Int)).length s := by simpa using hs
  have e : ∀ v, inV V v → lvAt ((List.replicate V (-1)).set s.toNat 0) v = if v = s then 0 else -1 := by
    intro v hv
    rw [lv_set hl hv.1, rep_at hv]
  have hn := negs_set (x := 0) hl (Int.le_refl _) (by rw [rep_at hs]; omega)
  rw [negs_rep] at hn
  have q0 : ∀ i, i < [s].length → qAt [s] i = s := by
    intro i hi
    obtain rfl : i = 0 := by simp at hi; exact hi
    rfl
  refine ⟨by simp, by rw [e s hs, if_pos rfl], fun v hv => by rw [e v hv]; split <;> omega, fun i hi => by rw [q0 i hi]; exact hs, fun v hv h => ?_, fun i hi => ?_, by simp; omega, fun v hv h => ?_, fun v hv h => ?_, fun i k hik hk => ?_, fun _ i hi => ?_, fun i h => by omega, fun _ k h => by omega⟩
  · rw [e v hv] at h
    by_cases k : v = s
    · exact ⟨0, by simp, k.symm⟩
    · rw [if_neg k] at h; omega
  · rw [q0 i hi, e s hs, if_pos rfl]; omega
  · rw [e v hv] at h
    by_cases k : v = s
    · exact k
    · rw [if_neg k] at h; omega
  · rw [e v hv] at h
    by_cases k : v = s
    · rw [if_pos k] at h; omega
    · rw [if_neg k] at h; omega
  · rw [q0 i (by omega), q0 k hk]; omega
  · rw [q0 i hi, q0 0 (by simp)]; omega

theorem bfs_next {V : Nat} {hd : Int → List Int} {s : Int} {M Q : List Int} {a j : Nat} (b : Bfs V hd s M Q a j) (ha : a < Q.length) (hj : (hd (qAt Q a)).length ≤ j) : Bfs V hd s M Q (a + 1) 0 := by
  refine ⟨b.len, b.src, b.low, b.isin, b.has, b.got, b.many, b.zero, b.led, b.rise, fun h i hi => ?_, fun i h1 h2 x hx => ?_, fun _ k h => by omega⟩
  · have h1 := b.near ha i hi
    have h2 := b.rise a (a + 1) (by omega) h
    omega
  · by_cases e : i < a
    · exact b.past i e h2 x hx
    · obtain rfl : i = a := by omega
      obtain ⟨k, hk, rfl⟩ := List.getElem_of_mem hx
      have := b.part ha k (by omega) hk
      rw [List.getElem?_eq_getElem hk] at this
      exact this

theorem bfs_old {V : Nat} {hd : Int → List Int} {s : Int} {M Q : List Int} {a j : Nat} (b : Bfs V hd s M Q a j) (hv : inV V ((hd (qAt Q a))[j]?.getD 0)) (hn : 0 ≤ lvAt M ((hd (qAt Q a))[j]?.getD 0)) : Bfs V hd s M Q a (j + 1) := by
  refine ⟨b.len, b.src, b.low, b.isin, b.has, b.got, b.many, b.zero, b.led, b.rise, b.near, b.past, fun h k h1 h2 => ?_⟩
  by_cases e : k < j
  · exact b.part h k e h2
  · obtain rfl : k = j := by omega
    obtain ⟨i, hi, e⟩ := b.has _ hv hn
    have := b.near h i hi
    rw [e] at this
    exact ⟨hn, this⟩

theorem q_app {Q : List Int} {x : Int} {i : Nat} (h : i < Q.length) : qAt (Q ++ [x]) i = qAt Q i := by
  unfold qAt
  rw [List.getElem?_append_left h]
theorem q_last {Q : List Int} {x : Int} : qAt (Q ++ [x]) Q.length = x := by simp [qAt]

theorem bfs_new {V : Nat} {hd : Int → List Int} {s : Int} {M Q : List Int} {a j : Nat} {x : Int} (b : Bfs V hd s M Q a j) (ha : a < Q.length) (hj : j < (hd (qAt Q a)).length) (hx : (hd (qAt Q a))[j]?.getD 0 = x) (hv : inV V x) (hn : lvAt M x < 0) :
    Bfs V hd s (M.set x.toNat (lvAt M (qAt Q a) + 1)) (Q ++ [x]) a (j + 1) := by
  have hl : inV M.length x := by rw [b.len]; exact hv
  have g := b.got a ha
  have hne : ∀ v, 0 ≤ lvAt M v → v ≠ x := fun v h e => by subst e; omega
  have e : ∀ v, 0 ≤ v → lvAt (M.set x.toNat (lvAt M (qAt Q a) + 1)) v = if v = x then lvAt M (qAt Q a) + 1 else lvAt M v := fun v hv => lv_set hl hv
  have ex := e x hv.1
  rw [if_pos rfl] at ex
  have eo : ∀ v, inV V v → 0 ≤ lvAt M v → lvAt (M.set x.toNat (lvAt M (qAt Q a) + 1)) v = lvAt M v := fun v hv h => by rw [e v hv.1, if_neg (hne v h)]
  have eq : ∀ i, i < Q.length → lvAt (M.set x.toNat (lvAt M (qAt Q a) + 1)) (qAt (Q ++ [x]) i) = lvAt M (qAt Q i) := fun i hi => by rw [q_app hi]; exact eo _ (b.isin i hi) (b.got i hi).1
  have el : lvAt (M.set x.toNat (lvAt M (qAt Q a) + 1)) (qAt (Q ++ [x]) Q.length) = lvAt M (qAt Q a) + 1 := by rw [q_last]; exact ex
  have hs : (Q ++ [x]).length = Q.length + 1 := by simp
  have hsv : inV V s := by
    obtain ⟨i, hi, h⟩ : ∃ i, i < Q.length ∧ qAt Q i = s := by
      have g0 := b.got 0 (by omega)
      have z := b.zero (qAt Q 0) (b.isin 0 (by omega)) (by omega)
      exact ⟨0, by omega, z⟩
    rw [← h]
    exact b.isin i hi
  have hq : qAt (Q ++ [x]) a = qAt Q a := q_app ha
  refine ⟨by simpa using b.len, by rw [eo s hsv (by rw [b.src]; omega)]; exact b.src, fun v hv => ?_, fun i hi => ?_, fun v hv h => ?_, fun i hi => ?_, ?_, fun v hv h => ?_, fun v hv h => ?_, fun i k hik hk => ?_, fun _ i hi => ?_, fun i h1 h2 y hy => ?_, fun _ k h1 h2 => ?_⟩
  · rw [e v hv.1]
    have := b.low v hv
    split <;> omega
  · by_cases k : i < Q.length
    · rw [q_app k]; exact b.isin i k
    · obtain rfl : i = Q.length := by omega
      rw [q_last]; exact hv
  · by_cases k : v = x
    · exact ⟨Q.length, by omega, by rw [q_last, k]⟩
    · rw [e v hv.1, if_neg k] at h
      obtain ⟨i, hi, r⟩ := b.has v hv h
      exact ⟨i, by omega, by rw [q_app hi]; exact r⟩
  · by_cases k : i < Q.length
    · rw [eq i k]; exact b.got i k
    · obtain rfl : i = Q.length := by omega
      rw [el]; omega
  · have h1 := negs_set (x := lvAt M (qAt Q a) + 1) hl (by omega) hn
    have h2 := b.many
    omega
  · by_cases k : v = x
    · subst k; omega
    · rw [e v hv.1, if_neg k] at h
      exact b.zero v hv h
  · by_cases k : v = x
    · subst k
      refine ⟨qAt Q a, b.isin a ha, ?_, ?_⟩
      · rw [← hx, List.getElem?_eq_getElem hj]
        exact List.getElem_mem hj
      · rw [ex, eo _ (b.isin a ha) g.1]
    · rw [e v hv.1, if_neg k] at h ⊢
      obtain ⟨u, h1, h2, h3⟩ := b.led v hv h
      refine ⟨u, h1, h2, ?_⟩
      rw [eo u h1 (by omega)]
      exact h3
  · by_cases k2 : k < Q.length
    · rw [eq i (by omega), eq k k2]
      exact b.rise i k hik k2
    · obtain rfl : k = Q.length := by omega
      rw [el]
      by_cases k3 : i < Q.length
      · rw [eq i k3]
        exact b.near ha i k3
      · obtain rfl : i = Q.length := by omega
        rw [el]; omega
  · rw [eq a ha]
    by_cases k : i < Q.length
    · rw [eq i k]; exact b.near ha i k
    · obtain rfl : i = Q.length := by omega
      rw [el]; omega
  · have hi : i < Q.length := by omega
    rw [eq i hi]
    rw [q_app hi] at hy
    have := b.past i h1 hi y hy
    by_cases k : y = x
    · subst k; omega
    · by_cases hy0 : 0 ≤ y
      · rw [e y hy0, if_neg k]; exact this
      · have e1 : y.toNat = 0 := by omega
        have e2 : x.toNat ≠ 0 ∨ x.toNat = 0 := by omega
        rcases e2 with e2 | e2
        · have : lvAt (M.set x.toNat (lvAt M (qAt Q a) + 1)) y = lvAt M y := by
            unfold lvAt
            rw [e1, List.getElem?_set_ne (by omega)]
          rw [this]; assumption
        · have e3 : lvAt M y = lvAt M x := by unfold lvAt; rw [e1, e2]
          omega
  · rw [hq] at h2 ⊢
    rw [eo _ (b.isin a ha) g.1]
    by_cases e1 : k < j
    · have := b.part ha k e1 h2
      generalize (hd (qAt Q a))[k]?.getD 0 = y at *
      by_cases k : y = x
      · subst k; omega
      · by_cases hy0 : 0 ≤ y
        · rw [e y hy0, if_neg k]; exact this
        · have e1 : y.toNat = 0 := by omega
          rcases (show x.toNat ≠ 0 ∨ x.toNat = 0 by omega) with e2 | e2
          · have e4 : lvAt (M.set x.toNat (lvAt M (qAt Q a) + 1)) y = lvAt M y := by
              unfold lvAt
              rw [e1, List.getElem?_set_ne (by omega)]
            rw [e4]; exact this
          · have e3 : lvAt M y = lvAt M x := by unfold lvAt; rw [e1, e2]
            omega
    · obtain rfl : k = j := by omega
      rw [hx, ex]
      omega

theorem bfs_end {V : Nat} {hd : Int → List Int} {s : Int} {M Q : List Int} {a j : Nat} (E : Int → Int → Prop) (hE : ∀ u v, E u v → inV V u ∧ inV V v) (hh : ∀ u v, inV V u → (E u v ↔ v ∈ hd u)) (b : Bfs V hd s M Q a j) (ha : Q.length ≤ a) : IsLv V E s M := by
  refine ⟨b.len, b.src, fun v hv => ⟨b.low v hv, ?_⟩, b.zero, fun u v h hu => ?_, fun v hv h => ?_⟩
  · have hm := b.many
    by_cases k : 0 ≤ lvAt M v
    · obtain ⟨i, hi, e⟩ := b.has v hv k
      have := (b.got i hi).2
      rw [e] at this
      omega
    · have := hv.1; have := hv.2; omega
  · obtain ⟨i, hi, e⟩ := b.has u (hE u v h).1 hu
    have hm := (hh u v (hE u v h).1).1 h
    rw [← e] at hm ⊢
    exact b.past i (by omega) hi v hm
  · obtain ⟨u, h1, h2, h3⟩ := b.led v hv h
    exact ⟨u, (hh u v h1).2 h2, h3⟩

/-- The search round by round: those of a level below t are there, of level t those to which one of the first k arcs leads. -/
def Hit (ls : List Lk) (caps f : List Int) (M : List Int) (t : Int) (k : Nat) (v : Int) : Prop := ∃ a : Nat, a < k ∧ headOf ls a = v ∧ lvAt M (tailOf ls a) = t ∧ 0 < roomI caps f (a : Int)

structure Rnd (V : Nat) (ls : List Lk) (caps f M R : List Int) (t k : Nat) : Prop where
  len : R.length = V
  at_ : ∀ v, inV V v → (0 ≤ lvAt M v ∧ lvAt M v ≤ t ∧ lvAt R v = lvAt M v) ∨ (lvAt M v = t + 1 ∧ Hit ls caps f M t k v ∧ lvAt R v = t + 1) ∨ (¬ (0 ≤ lvAt M v ∧ lvAt M v ≤ t) ∧ ¬ (lvAt M v = t + 1 ∧ Hit ls caps f M t k v) ∧ lvAt R v = -1)

theorem rnd_first {V : Nat} {ls : List Lk} {caps f M : List Int} {E : Int → Int → Prop} {s : Int} (hs : inV V s) (h : IsLv V E s M) : Rnd V ls caps f M ((List.replicate V (-1)).set s.toNat 0) 0 0 := by
  have hl : inV (List.replicate V (-1 : Int)).length s := by simpa using hs
  refine ⟨by simp, fun v hv => ?_⟩
  have e : lvAt ((List.replicate V (-1)).set s.toNat 0) v = if v = s then 0 else -1 := by rw [lv_set hl hv.1, rep_at hv]
  rw [e]
  by_cases k : v = s
  · subst k
    have := h.src
    rw [if_pos rfl]
    exact .inl (by omega)
  · rw [if_neg k]
    refine .inr (.inr ⟨fun h2 => k (h.zero v hv (by omega)), fun h2 => ?_, rfl⟩)
    obtain ⟨_, a, ha, _⟩ := h2
    omega

theorem rnd_round {V : Nat} {ls : List Lk} {caps f M R : List Int} {s : Int} {t m : Nat} (h : IsLv V (Leads ls caps f m) s M) (r : Rnd V ls caps f M R t m) : Rnd V ls caps f M R (t + 1) 0 := by
  refine ⟨r.len, fun v hv => ?_⟩
  rcases r.at_ v hv with k | k | k
  · exact .inl (by omega)
  · exact .inl (by omega)
  · refine .inr (.inr ⟨fun h2 => ?_, fun h2 => ?_, k.2.2⟩)
    · refine k.2.1 ⟨by omega, ?_⟩
      obtain ⟨u, ⟨a, ha, h3, h4, h5⟩, h6⟩ := h.led v hv (by omega)
      exact ⟨a, ha, h4, by rw [h3]; omega, h5⟩
    · obtain ⟨_, a, ha, _⟩ := h2
      omega

theorem rnd_end {V : Nat} {ls : List Lk} {caps f M R : List Int} {E : Int → Int → Prop} {s : Int} (h : IsLv V E s M) (r : Rnd V ls caps f M R V 0) : R = M := by
  refine List.ext_getElem (by rw [r.len, h.len]) fun i h1 h2 => ?_
  have hi : inV V (i : Int) := ⟨by omega, by have := h.len; omega⟩
  have e1 : lvAt R (i : Int) = R[i] := by simp [lvAt, h1]
  have e2 : lvAt M (i : Int) = M[i] := by simp [lvAt, h2]
  rw [← e1, ← e2]
  have b := h.bd _ hi
  rcases r.at_ _ hi with k | k | k
  · exact k.2.2
  · omega
  · by_cases k2 : 0 ≤ lvAt M (i : Int)
    · exact absurd ⟨k2, by omega⟩ k.1
    · omega

/-- An arc that does not lead on. -/
theorem rnd_skip {V : Nat} {ls : List Lk} {caps f M R : List Int} {t k : Nat} (r : Rnd V ls caps f M R t k) (ht : inV V (tailOf ls k))
    (no : ¬ (lvAt R (tailOf ls k) = t ∧ 0 < roomI caps f (k : Int) ∧ lvAt R (headOf ls k) < 0)) : Rnd V ls caps f M R t (k + 1) := by
  refine ⟨r.len, fun v hv => ?_⟩
  rcases r.at_ v hv with c | c | c
  · exact .inl c
  · obtain ⟨c1, ⟨a, ha, c2⟩, c3⟩ := c
    exact .inr (.inl ⟨c1, ⟨a, by omega, c2⟩, c3⟩)
  · refine .inr (.inr ⟨c.1, fun h2 => ?_, c.2.2⟩)
    obtain ⟨h3, a, ha, h4, h5, h6⟩ := h2
    by_cases e : a < k
    · exact c.2.1 ⟨h3, a, e, h4, h5, h6⟩
    · obtain rfl : a = k := by omega
      refine no ⟨?_, h6, by rw [h4]; have := c.2.2; omega⟩
      rcases r.at_ _ ht with d | d | d
      · omega
      · omega
      · exact absurd ⟨by omega, by omega⟩ d.1

/-- An arc that leads on. -/
theorem rnd_put {V : Nat} {ls : List Lk} {caps f M R : List Int} {s : Int} {t k m : Nat} (h : IsLv V (Leads ls caps f m) s M) (r : Rnd V ls caps f M R t k) (hk : k < m) (ht : inV V (tailOf ls k)) (hh : inV V (headOf ls k))
    (h1 : lvAt R (tailOf ls k) = t) (h2 : 0 < roomI caps f (k : Int)) (h3 : lvAt R (headOf ls k) < 0) : Rnd V ls caps f M (R.set (headOf ls k).toNat ((t : Int) + 1)) t (k + 1) := by
  have hl : inV R.length (headOf ls k) := by rw [r.len]; exact hh
  have htl : lvAt M (tailOf ls k) = t := by
    rcases r.at_ _ ht with d | d | d
    · omega
    · omega
    · omega
  have hup := h.up _ _ ⟨k, hk, rfl, rfl, h2⟩ (by omega)
  have hm : lvAt M (headOf ls k) = t + 1 := by
    rcases r.at_ _ hh with d | d | d
    · omega
    · omega
    · have := d.1; omega
  refine ⟨by simpa using r.len, fun v hv => ?_⟩
  rw [lv_set hl hv.1]
  by_cases e : v = headOf ls k
  · rw [if_pos e]
    subst e
    exact .inr (.inl ⟨hm, ⟨k, by omega, rfl, htl, h2⟩, rfl⟩)
  · rw [if_neg e]
    rcases r.at_ v hv with c | c | c
    · exact .inl c
    · obtain ⟨c1, ⟨a, ha, c2⟩, c3⟩ := c
      exact .inr (.inl ⟨c1, ⟨a, by omega, c2⟩, c3⟩)
    · refine .inr (.inr ⟨c.1, fun h2 => ?_, c.2.2⟩)
      obtain ⟨h3, a, ha, h4, h5, h6⟩ := h2
      by_cases e2 : a < k
      · exact c.2.1 ⟨h3, a, e2, h4, h5, h6⟩
      · obtain rfl : a = k := by omega
        exact e h4.symm

theorem rnd_len {V : Nat} {ls : List Lk} {caps f M R : List Int} {t k : Nat} (r : Rnd V ls caps f M R t k) : ∀ v, inV V v → -1 ≤ lvAt R v ∧ lvAt R v ≤ t + 1 := by
  intro v hv
  rcases r.at_ v hv with c | c | c <;> omega

/-- The heads of the arcs with room, of those of a row. -/
def hdR (ls : List Lk) (caps f : List Int) (r : List Int) : List Int := (r.filter fun a => decide (0 < roomI caps f a)).map fun a => headOf ls a.toNat
def hdOf (ls : List Lk) (caps f : List Int) (n : Nat) (v : Int) : List Int := hdR ls caps f (rowA ls v (2 * n))

theorem take_nextI {r : List Int} {j : Nat} (hj : j < r.length) : r.take (j + 1) = r.take j ++ [r[j]?.getD 0] := by
  rw [List.take_add_one, List.getElem?_eq_getElem hj]
  rfl

theorem hd_yes {ls : List Lk} {caps f r : List Int} {j : Nat} (hj : j < r.length) (h : 0 < roomI caps f (r[j]?.getD 0)) : hdR ls caps f (r.take (j + 1)) = hdR ls caps f (r.take j) ++ [headOf ls (r[j]?.getD 0).toNat] := by
  rw [take_nextI hj]
  generalize r[j]?.getD 0 = x at *
  unfold hdR
  rw [List.filter_append, List.map_append]
  congr 1
  rw [List.filter_cons_of_pos (by simpa using h)]
  rfl

theorem hd_no {ls : List Lk} {caps f r : List Int} {j : Nat} (hj : j < r.length) (h : ¬ 0 < roomI caps f (r[j]?.getD 0)) : hdR ls caps f (r.take (j + 1)) = hdR ls caps f (r.take j) := by
  rw [take_nextI hj]
  generalize r[j]?.getD 0 = x at *
  unfold hdR
  rw [List.filter_append, List.map_append, List.filter_cons_of_neg (by simpa using h)]
  simp

theorem rowA_mem {ls : List Lk} {v : Int} : ∀ {m : Nat} {x : Int}, x ∈ rowA ls v m ↔ ∃ a : Nat, a < m ∧ x = (a : Int) ∧ tailOf ls a = v
  | 0, x => by simp [rowA]
  | m + 1, x => by
    rw [rowA, List.mem_append, rowA_mem, arcIf]
    constructor
    · rintro (⟨a, h1, h2⟩ | h)
      · exact ⟨a, by omega, h2⟩
      · by_cases k : tailOf ls m = v
        · rw [if_pos k] at h
          exact ⟨m, by omega, by simpa using h, k⟩
        · rw [if_neg k] at h
          cases h
    · rintro ⟨a, h1, h2, h3⟩
      by_cases k : a < m
      · exact .inl ⟨a, k, h2, h3⟩
      · obtain rfl : a = m := by omega
        right
        rw [if_pos h3]
        simpa using h2

theorem hd_mem {ls : List Lk} {caps f : List Int} {n : Nat} {u v : Int} : Leads ls caps f (2 * n) u v ↔ v ∈ hdOf ls caps f n u := by
  unfold hdOf hdR Leads
  rw [List.mem_map]
  constructor
  · rintro ⟨a, h1, h2, h3, h4⟩
    exact ⟨(a : Int), List.mem_filter.2 ⟨rowA_mem.2 ⟨a, h1, rfl, h2⟩, by simpa using h4⟩, by simpa using h3⟩
  · rintro ⟨x, hx, e⟩
    obtain ⟨h1, h2⟩ := List.mem_filter.1 hx
    obtain ⟨a, h3, rfl, h4⟩ := rowA_mem.1 h1
    exact ⟨a, h3, h4, by simpa using e, by simpa using h2⟩

theorem hd_len (ls : List Lk) (caps f r : List Int) : (hdR ls caps f r).length ≤ r.length := by
  unfold hdR
  rw [List.length_map]
  exact List.length_filter_le _ _

theorem leads_in {vn n : Nat} {ls : List Lk} {caps f : List Int} (hm : mayG (vn : Nat) ls = true) (hl : ls.length = n) : ∀ u v, Leads ls caps f (2 * n) u v → inV vn u ∧ inV vn v := by
  rintro u v ⟨a, h1, rfl, rfl, _⟩
  have t := tail_bd hm (a := a) (by omega)
  have h := head_bd hm (a := a) (by omega)
  exact ⟨⟨t.1, t.2⟩, h.1, h.2⟩

def lvB (V : Int) (ls : List Lk) (caps f : List Int) (s : Int) : Bool := fitsF V ls caps f && isV V s
/-- What Levels may tell. -/
def LvIs (V : Int) (ls : List Lk) (caps f : List Int) (s : Int) (M : List Int) (z : Int) : Prop :=
  (lvB V ls caps f s = true ∧ z = 0 ∧ IsLv V.toNat (Leads ls caps f (2 * ls.length)) s M) ∨ (lvB V ls caps f s = false ∧ z = 1000 ∧ M = [])

theorem lev_no {V : Int} {ls : List Lk} {caps f : List Int} {s : Int} (h : lvB V ls caps f s = false) : LvIs V ls caps f s [] 1000 := .inr ⟨h, rfl, rfl⟩
theorem lev_yes {vn n : Nat} {ls : List Lk} {caps f M : List Int} {s : Int} (h : lvB (vn : Nat) ls caps f s = true) (hl : ls.length = n) (k : IsLv vn (Leads ls caps f (2 * n)) s M) : LvIs (vn : Nat) ls caps f s M 0 := .inl ⟨h, rfl, by rw [hl]; simpa using k⟩

theorem lvB_parts {V : Int} {ls : List Lk} {caps f : List Int} {s : Int} (h : lvB V ls caps f s = true) : fitsF V ls caps f = true ∧ isV V s = true := by
  simpa [lvB] using h

theorem lv_okI {V : Nat} {E : Int → Int → Prop} {s : Int} {M : List Int} (h : IsLv V E s M) (hV : V ≤ 8) : ∀ i : Nat, -9223372036854775808 ≤ M[i]?.getD 0 ∧ M[i]?.getD 0 ≤ 9223372036854775807 := by
  intro i
  by_cases hi : i < V
  · have := h.bd (i : Int) ⟨by omega, by omega⟩
    unfold lvAt at this
    rw [Int.toNat_natCast] at this
    omega
  · rw [List.getElem?_eq_none (by have := h.len; omega)]
    simp

theorem lvIs_okI {V : Int} {ls : List Lk} {caps f M : List Int} {s z : Int} (h : LvIs V ls caps f s M z) : (∀ i : Nat, -9223372036854775808 ≤ M[i]?.getD 0 ∧ M[i]?.getD 0 ≤ 9223372036854775807) ∧ M.length ≤ 8 := by
  rcases h with ⟨h1, _, h2⟩ | ⟨_, _, rfl⟩
  · have h3 := may_small (fits_parts (lvB_parts h1).1).1
    exact ⟨lv_okI h2 (by omega), by have := h2.len; omega⟩
  · simp

theorem lvIs_one {V : Int} {ls : List Lk} {caps f M M' : List Int} {s z z' : Int} (h : LvIs V ls caps f s M z) (h' : LvIs V ls caps f s M' z') : M = M' ∧ z = z' := by
  rcases h with ⟨h1, e1, h2⟩ | ⟨h1, e1, h2⟩ <;> rcases h' with ⟨k1, e2, k2⟩ | ⟨k1, e2, k2⟩
  · have hm := (fits_parts (lvB_parts h1).1).1
    have hV := may_small hm
    obtain ⟨vn, rfl⟩ : ∃ vn : Nat, V = (vn : Nat) := ⟨V.toNat, by omega⟩
    rw [Int.toNat_natCast] at h2 k2
    exact ⟨lev_one (leads_in hm rfl) (fun _ _ => Iff.rfl) h2 k2, by omega⟩
  · rw [h1] at k1; cases k1
  · rw [h1] at k1; cases k1
  · exact ⟨by rw [h2, k2], by omega⟩

end Go.Proofs.Ytppcncblmakekaa
