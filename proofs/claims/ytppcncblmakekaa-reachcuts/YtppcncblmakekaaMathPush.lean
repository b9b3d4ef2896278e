/-
  How a blocking flow is pushed vertex by vertex over open arcs, as numbers. No program here.
-/
import Derived.Test.YtppcncblmakekaaMathBlock
set_option maxRecDepth 20000
namespace Go.Proofs.Ytppcncblmakekaa

/-- The arc that goes the other way over the same link. -/
def flipN (a : Nat) : Nat := if a % 2 = 0 then a + 1 else a - 1

theorem flip_even (i : Nat) : flipN (2 * i) = 2 * i + 1 := by unfold flipN; rw [if_pos (by omega)]
theorem flip_odd (i : Nat) : flipN (2 * i + 1) = 2 * i := by unfold flipN; rw [if_neg (by omega)]; rfl
theorem flip_cases (a : Nat) : ∃ i, a / 2 = i ∧ ((a = 2 * i ∧ flipN a = 2 * i + 1) ∨ (a = 2 * i + 1 ∧ flipN a = 2 * i)) := by
  refine ⟨a / 2, rfl, ?_⟩
  rcases Nat.mod_two_eq_zero_or_one a with e | e
  · have h : a = 2 * (a / 2) := by omega
    exact .inl ⟨h, by conv => lhs; rw [h]
                      exact flip_even _⟩
  · have h : a = 2 * (a / 2) + 1 := by omega
    exact .inr ⟨h, by conv => lhs; rw [h]
                      exact flip_odd _⟩
theorem flip_lt {a n : Nat} (h : a < 2 * n) : flipN a < 2 * n := by
  obtain ⟨i, _, ⟨h1, h2⟩ | ⟨h1, h2⟩⟩ := flip_cases a <;> omega
theorem flip_ne (a : Nat) : flipN a ≠ a := by
  obtain ⟨i, _, ⟨h1, h2⟩ | ⟨h1, h2⟩⟩ := flip_cases a <;> omega
theorem flip_flip (a : Nat) : flipN (flipN a) = a := by
  obtain ⟨i, _, ⟨h1, h2⟩ | ⟨h1, h2⟩⟩ := flip_cases a
  · rw [h2, flip_odd, h1]
  · rw [h2, flip_even, h1]
theorem flip_half (a : Nat) : flipN a / 2 = a / 2 := by
  obtain ⟨i, _, ⟨h1, h2⟩ | ⟨h1, h2⟩⟩ := flip_cases a <;> omega
theorem flip_tail (ls : List Lk) (a : Nat) : tailOf ls (flipN a) = headOf ls a := by
  obtain ⟨i, _, ⟨h1, h2⟩ | ⟨h1, h2⟩⟩ := flip_cases a
  · rw [h2, h1, tail_odd, head_even]
  · rw [h2, h1, tail_even, head_odd]
theorem flip_head (ls : List Lk) (a : Nat) : headOf ls (flipN a) = tailOf ls a := by
  obtain ⟨i, _, ⟨h1, h2⟩ | ⟨h1, h2⟩⟩ := flip_cases a
  · rw [h2, h1, tail_even, head_odd]
  · rw [h2, h1, tail_odd, head_even]

def rAt (R : List Int) (a : Nat) : Int := R[a]?.getD 0
def oAt (O : List (List Int)) (u : Int) : List Int := O[u.toNat]?.getD []

structure Net where
  V : Nat
  n : Nat
  ls : List Lk
  caps : List Int
  f : List Int
  M : List Int
  s : Int
  t : Int

structure Net.Ok (N : Net) : Prop where
  hl : N.ls.length = N.n
  flow : flowB (N.V : Nat) N.ls N.caps N.f N.s N.t = true
  lv : IsLv N.V (Leads N.ls N.caps N.f (2 * N.n)) N.s N.M

def Net.stp (N : Net) (a : Nat) : Prop := StepsA N.ls N.caps N.f N.M a
def Net.lev (N : Net) (v : Int) : Int := lvAt N.M v
def Net.tl (N : Net) (a : Nat) : Int := tailOf N.ls a
def Net.hd (N : Net) (a : Nat) : Int := headOf N.ls a

theorem Net.Ok.may {N : Net} (k : N.Ok) : mayG (N.V : Nat) N.ls = true := (fits_parts (flow_parts k.flow).1).1
theorem Net.Ok.tl_in {N : Net} (k : N.Ok) {a : Nat} (h : a < 2 * N.n) : inV N.V (N.tl a) := tail_bd k.may (by rw [k.hl]; exact h)
theorem Net.Ok.hd_in {N : Net} (k : N.Ok) {a : Nat} (h : a < 2 * N.n) : inV N.V (N.hd a) := head_bd k.may (by rw [k.hl]; exact h)
theorem Net.stp_lev {N : Net} {a : Nat} (h : N.stp a) : 0 ≤ N.lev (N.tl a) ∧ N.lev (N.hd a) = N.lev (N.tl a) + 1 := h.2
theorem Net.stp_flip {N : Net} {a : Nat} (h : N.stp a) : ¬ N.stp (flipN a) := by
  intro k
  have h1 := N.stp_lev h
  have h2 := N.stp_lev k
  unfold Net.tl Net.hd at h1 h2
  rw [flip_tail, flip_head] at h2
  omega

/-- There is a way on to t over arcs that p lets by. -/
inductive WTo (ls : List Lk) (p : Nat → Prop) (m : Nat) (t : Int) : Int → Prop
  | here : WTo ls p m t t
  | on (a : Nat) : a < m → p a → WTo ls p m t (headOf ls a) → WTo ls p m t (tailOf ls a)

theorem WTo.mono {ls : List Lk} {p q : Nat → Prop} {m : Nat} {t v : Int} (w : WTo ls p m t v) (h : ∀ a, a < m → p a → q a) : WTo ls q m t v := by
  induction w with
  | here => exact .here
  | on a ha hp _ ih => exact .on a ha (h a ha hp) ih

theorem way_to {ls : List Lk} {p : Nat → Prop} {m : Nat} {s t v : Int} (w : Way ls p m s v) (k : WTo ls p m t v) : WTo ls p m t s := by
  induction w with
  | here => exact k
  | on a ha hp _ ih => exact ih (.on a ha hp k)

/-- From x one can go on to t. -/
def To (N : Net) (R : List Int) (x : Int) : Prop := WTo N.ls (fun a => N.stp a ∧ 0 < rAt R a) (2 * N.n) N.t x

theorem To.less {N : Net} {R R' : List Int} {x : Int} (h : To N R' x) (k : ∀ a, a < 2 * N.n → N.stp a → rAt R' a ≤ rAt R a) : To N R x :=
  WTo.mono h fun a ha hp => ⟨hp.1, by have := k a ha hp.1; have := hp.2; omega⟩

def bOf (R : List Int) (n : Nat) : List Int := (List.range n).map fun i => rAt R (2 * i + 1)

theorem bOf_len (R : List Int) (n : Nat) : (bOf R n).length = n := by simp [bOf]
theorem bOf_at {R : List Int} {n i : Nat} (h : i < n) : (bOf R n)[i]?.getD 0 = rAt R (2 * i + 1) := by simp [bOf, h]
theorem bOf_out {R : List Int} {n i : Nat} (h : n ≤ i) : (bOf R n)[i]?.getD 0 = 0 := by
  rw [List.getElem?_eq_none (by rw [bOf_len]; exact h)]
  rfl

def gR (N : Net) (R : List Int) (x : Int) : Int := gainOf N.ls (bOf R N.n) x

theorem gk_put {L : List Lk} {f f' : List Int} {v d : Int} {i : Nat} (h : ∀ j : Nat, f'[j]?.getD 0 = f[j]?.getD 0 + if j = i then d else 0) :
    ∀ k, gk L f' v k = gk L f v k + if i < k then (if (at3 L i).1 = v then d else 0) - (if (at3 L i).2.1 = v then d else 0) else 0
  | 0 => by simp [gk]
  | k + 1 => by
    rw [gk, gk, gk_put h k, outP, inP, outP, inP, h k]
    by_cases e : k = i
    · subst e
      rw [if_neg (Nat.lt_irrefl _), if_pos (Nat.lt_succ_self _)]
      split <;> split <;> simp <;> omega
    · rw [if_neg e, Int.add_zero]
      by_cases g : i < k
      · rw [if_pos g, if_pos (show i < k + 1 by omega)]; omega
      · rw [if_neg g, if_neg (show ¬ i < k + 1 by omega)]; omega

/-- What holds of rooms and open arcs at any time. -/
structure PI (N : Net) (R : List Int) (O : List (List Int)) : Prop where
  lenR : R.length = 2 * N.n
  lenO : O.length = N.V
  low : ∀ a, a < 2 * N.n → 0 ≤ rAt R a
  pair : ∀ a, a < 2 * N.n → rAt R a + rAt R (flipN a) = N.caps[a / 2]?.getD 0
  mem : ∀ u, inV N.V u → ∀ x ∈ oAt O u, ∃ a : Nat, x = (a : Int) ∧ a < 2 * N.n ∧ N.tl a = u ∧ N.stp a
  shut : ∀ a, a < 2 * N.n → N.stp a → (a : Int) ∉ oAt O (N.tl a) → rAt R a = 0 ∨ ¬ To N R (N.hd a)
  over : ∀ a, a < 2 * N.n → N.stp a → rAt R a ≤ roomI N.caps N.f (a : Int)
  same : ∀ a, a < 2 * N.n → ¬ N.stp a → ¬ N.stp (flipN a) → rAt R a = roomI N.caps N.f (a : Int)

/-- What is done so far, from v on. -/
structure PL (N : Net) (v most : Int) (R : List Int) (O : List (List Int)) (k : Int) (R' : List Int) (O' : List (List Int)) : Prop where
  inv : PI N R' O'
  low : 0 ≤ k
  high : k ≤ most
  gain : ∀ x, gR N R' x = gR N R x + (if x = v then k else 0) - (if x = N.t then k else 0)
  down : ∀ a, a < 2 * N.n → N.stp a → rAt R' a ≤ rAt R a
  keepR : ∀ a, a < 2 * N.n → N.stp a → N.lev (N.tl a) < N.lev v → rAt R' a = rAt R a
  keepO : ∀ u, inV N.V u → N.lev u < N.lev v → oAt O' u = oAt O u

theorem pl_start {N : Net} {v most : Int} {R : List Int} {O : List (List Int)} (h : PI N R O) (hm : 0 ≤ most) : PL N v most R O 0 R O :=
  ⟨h, Int.le_refl _, hm, fun x => by simp, fun _ _ _ => Int.le_refl _, fun _ _ _ _ => rfl, fun _ _ _ => rfl⟩

theorem pl_here {N : Net} {v most : Int} {R : List Int} {O : List (List Int)} (h : PI N R O) (hm : 0 ≤ most) (hv : v = N.t) : PL N v most R O most R O :=
  ⟨h, hm, Int.le_refl _, fun x => by subst hv; omega, fun _ _ _ => Int.le_refl _, fun _ _ _ _ => rfl, fun _ _ _ => rfl⟩

/-- Some goes over an arc. -/
def overA (R : List Int) (a : Nat) (k : Int) : List Int := (R.set a (rAt R a - k)).set (flipN a) (rAt R (flipN a) + k)

theorem over_at {R : List Int} {a n : Nat} (hl : R.length = 2 * n) (ha : a < 2 * n) (k : Int) (b : Nat) : rAt (overA R a k) b = if b = flipN a then rAt R (flipN a) + k else if b = a then rAt R a - k else rAt R b := by
  have hf := flip_lt ha
  unfold overA rAt
  rw [put_get (by rw [List.length_set]; omega), put_get (by omega)]

theorem over_pi {N : Net} (ok : N.Ok) {R : List Int} {O : List (List Int)} {a : Nat} {k : Int} (h : PI N R O) (ha : a < 2 * N.n) (hs : N.stp a) (k0 : 0 ≤ k) (k1 : k ≤ rAt R a) :
    PI N (overA R a k) O ∧ (∀ b, b < 2 * N.n → N.stp b → rAt (overA R a k) b ≤ rAt R b) ∧ (∀ x, gR N (overA R a k) x = gR N R x + (if x = N.tl a then k else 0) - (if x = N.hd a then k else 0)) ∧ rAt (overA R a k) a = rAt R a - k := by
  have hat := over_at h.lenR ha k
  have hf := flip_lt ha
  have hne := flip_ne a
  have hns := N.stp_flip hs
  have hsa : rAt (overA R a k) a = rAt R a - k := by rw [hat, if_neg (fun e => hne e.symm), if_pos rfl]
  have hsf : rAt (overA R a k) (flipN a) = rAt R (flipN a) + k := by rw [hat, if_pos rfl]
  have hso : ∀ b, b ≠ a → b ≠ flipN a → rAt (overA R a k) b = rAt R b := fun b h1 h2 => by rw [hat, if_neg h2, if_neg h1]
  have hdn : ∀ b, b < 2 * N.n → N.stp b → rAt (overA R a k) b ≤ rAt R b := by
    intro b _ hb
    by_cases e1 : b = a
    · subst e1; omega
    · by_cases e2 : b = flipN a
      · subst e2; exact absurd hb hns
      · rw [hso b e1 e2]; exact Int.le_refl _
  refine ⟨⟨by simp [overA, h.lenR], h.lenO, fun b hb => ?_, fun b hb => ?_, h.mem, fun b hb hp hn => ?_, fun b hb hp => ?_, fun b hb hp hq => ?_⟩, hdn, fun x => ?_, hsa⟩
  · have h0 := h.low b hb
    by_cases e1 : b = a
    · subst e1; omega
    · by_cases e2 : b = flipN a
      · subst e2; omega
      · rw [hso b e1 e2]; exact h0
  · have h0 := h.pair b hb
    by_cases e1 : b = a
    · subst e1; rw [hsa, hsf]; omega
    · by_cases e2 : b = flipN a
      · subst e2
        rw [flip_flip] at h0 ⊢
        rw [hsa, hsf]; omega
      · rw [hso b e1 e2, hso (flipN b) (fun e => e2 (by rw [← e, flip_flip])) (fun e => e1 (by rw [← flip_flip b, e, flip_flip]))]
        exact h0
  · have h0 := h.low b hb
    have d := hdn b hb hp
    rcases h.shut b hb hp hn with e | e
    · left
      by_cases e1 : b = a
      · subst e1; omega
      · rw [hso b e1 (fun e2 => hns (e2 ▸ hp))]; exact e
    · exact .inr fun q => e (q.less hdn)
  · have := h.over b hb hp
    have := hdn b hb hp
    omega
  · rw [hso b (fun e => hp (e ▸ hs)) (fun e => hq (by rw [e, flip_flip]; exact hs))]
    exact h.same b hb hp hq
  · obtain ⟨i, _, ⟨h1, h2⟩ | ⟨h1, h2⟩⟩ := flip_cases a
    · have hi : i < N.n := by omega
      have e := gk_put (L := N.ls) (f := bOf R N.n) (f' := bOf (overA R a k) N.n) (v := x) (d := k) (i := i) (fun j => by
        by_cases hj : j < N.n
        · rw [bOf_at hj, bOf_at hj]
          by_cases e : j = i
          · subst e; rw [if_pos rfl, ← h2, hsf]
          · rw [if_neg e, hso _ (by omega) (by omega), Int.add_zero]
        · rw [bOf_out (by omega), bOf_out (by omega), if_neg (by omega)]; rfl) N.ls.length
      rw [if_pos (by rw [ok.hl]; exact hi)] at e
      unfold gR gainOf Net.tl Net.hd
      rw [e, h1, tail_even, head_even]
      simp only [eq_comm (a := x)]
      omega
    · have hi : i < N.n := by omega
      have e := gk_put (L := N.ls) (f := bOf R N.n) (f' := bOf (overA R a k) N.n) (v := x) (d := -k) (i := i) (fun j => by
        by_cases hj : j < N.n
        · rw [bOf_at hj, bOf_at hj]
          by_cases e : j = i
          · subst e; rw [if_pos rfl, ← h1, hsa]; omega
          · rw [if_neg e, hso _ (by omega) (by omega), Int.add_zero]
        · rw [bOf_out (by omega), bOf_out (by omega), if_neg (by omega)]; rfl) N.ls.length
      rw [if_pos (by rw [ok.hl]; exact hi)] at e
      unfold gR gainOf Net.tl Net.hd
      rw [e, h1, tail_odd, head_odd]
      simp only [eq_comm (a := x)]
      split <;> split <;> omega

theorem oset {O : List (List Int)} {v u : Int} (hv : inV O.length v) (hu : 0 ≤ u) (r : List Int) : oAt (O.set v.toNat r) u = if u = v then r else oAt O u := by
  obtain ⟨h0, h1⟩ := hv
  unfold oAt
  by_cases e : u = v
  · subst e
    rw [if_pos rfl, List.getElem?_set_self (by omega)]
    rfl
  · rw [if_neg e, List.getElem?_set_ne (by omega)]

/-- The first open arc is dropped: it is full, or leads nowhere. -/
theorem drop_pi {N : Net} (ok : N.Ok) {R : List Int} {O : List (List Int)} {a : Nat} {rest : List Int} (h : PI N R O) (ha : a < 2 * N.n) (ho : oAt O (N.tl a) = (a : Int) :: rest) (hd : rAt R a = 0 ∨ ¬ To N R (N.hd a)) :
    PI N R (O.set (N.tl a).toNat rest) := by
  have hin := ok.tl_in ha
  have hin' : inV O.length (N.tl a) := by rw [h.lenO]; exact hin
  refine ⟨h.lenR, by simp [h.lenO], h.low, h.pair, fun u hu x hx => ?_, fun b hb hp hn => ?_, h.over, h.same⟩
  · rw [oset hin' hu.1] at hx
    by_cases e : u = N.tl a
    · rw [if_pos e] at hx
      subst e
      exact h.mem _ hu x (by rw [ho]; exact List.mem_cons_of_mem _ hx)
    · rw [if_neg e] at hx
      exact h.mem u hu x hx
  · rw [oset hin' (ok.tl_in hb).1] at hn
    by_cases e : N.tl b = N.tl a
    · rw [if_pos e] at hn
      by_cases e2 : b = a
      · subst e2; exact hd
      · refine h.shut b hb hp ?_
        rw [e, ho]
        intro hm
        rcases List.mem_cons.1 hm with q | q
        · exact e2 (by omega)
        · exact hn q
    · rw [if_neg e] at hn
      exact h.shut b hb hp hn

/-- One round from v on: some goes over the first open arc. -/
theorem pl_step {N : Net} (ok : N.Ok) {v most m k k' : Int} {R0 R R1 : List Int} {O0 O O1 : List (List Int)} {a : Nat} {rest : List Int} (p : PL N v most R0 O0 k R O) (hv : inV N.V v)
    (ha : a < 2 * N.n) (ht : N.tl a = v) (hs : N.stp a) (ho : oAt O v = (a : Int) :: rest) (m0 : m ≤ most - k) (m1 : m ≤ rAt R a) (m2 : m = most - k ∨ m = rAt R a)
    (q : PL N (N.hd a) m R O k' R1 O1) (qe : k' = m ∨ ¬ To N R1 (N.hd a)) :
    oAt O1 v = (a : Int) :: rest ∧ 0 ≤ k' ∧ k' ≤ rAt R1 a ∧ PL N v most R0 O0 (k + k') (overA R1 a k') O1 ∧ (k + k' < most → PL N v most R0 O0 (k + k') (overA R1 a k') (O1.set v.toNat rest)) := by
  subst ht
  have hlv := N.stp_lev hs
  have e1 := q.keepR a ha hs (by omega)
  have e2 := q.keepO (N.tl a) hv (by omega)
  rw [ho] at e2
  have hk := q.high
  obtain ⟨g1, g2, g3, g4⟩ := over_pi ok q.inv ha hs q.low (by omega)
  have hq0 := q.low
  have hp0 := p.low
  have base : ∀ O', PI N (overA R1 a k') O' → (∀ u, inV N.V u → N.lev u < N.lev (N.tl a) → oAt O' u = oAt O1 u) → PL N (N.tl a) most R0 O0 (k + k') (overA R1 a k') O' := by
    intro O' hi hk'
    refine ⟨hi, by omega, by omega, fun x => ?_, fun b hb hp => ?_, fun b hb hp hlt => ?_, fun u hu hlt => ?_⟩
    · have x1 := p.gain x
      have x2 := q.gain x
      have x3 := g3 x
      rw [x3, x2, x1]
      split <;> split <;> split <;> omega
    · have x1 := p.down b hb hp
      have x2 := q.down b hb hp
      have x3 := g2 b hb hp
      omega
    · have x1 := p.keepR b hb hp hlt
      have x2 := q.keepR b hb hp (by omega)
      have hba : b ≠ a := fun e => by subst e; omega
      have hbf : b ≠ flipN a := fun e => (N.stp_flip hs) (e ▸ hp)
      rw [over_at q.inv.lenR ha, if_neg hbf, if_neg hba, x2, x1]
    · rw [hk' u hu hlt, q.keepO u hu (by omega), p.keepO u hu hlt]
  refine ⟨e2, hq0, by omega, base O1 g1 (fun _ _ _ => rfl), fun hlt => ?_⟩
  refine base _ (drop_pi ok g1 ha e2 ?_) (fun u hu hl => ?_)
  · rcases qe with e | e
    · rcases m2 with f | f
      · omega
      · left; rw [g4]; omega
    · exact .inr fun z => e (z.less g2)
  · rw [oset (by rw [q.inv.lenO]; exact hv) hu.1, if_neg (fun e => by subst e; omega)]

/-- No open arc is left: nothing goes on. -/
theorem pl_end {N : Net} {v : Int} {R : List Int} {O : List (List Int)} (h : PI N R O) (ho : oAt O v = []) (hv : v ≠ N.t) : ¬ To N R v := by
  intro w
  unfold To at w
  cases w with
  | here => exact hv rfl
  | on a ha hp w =>
    rcases h.shut a ha hp.1 (by unfold Net.tl; rw [ho]; simp) with e | e
    · have := hp.2; omega
    · exact e w

theorem room_of {N : Net} {R : List Int} {O : List (List Int)} (h : PI N R O) {a : Nat} (ha : a < 2 * N.n) : roomI N.caps (bOf R N.n) (a : Int) = rAt R a := by
  have hp := h.pair a ha
  obtain ⟨i, hi, ⟨h1, h2⟩ | ⟨h1, h2⟩⟩ := flip_cases a
  · rw [h2, hi] at hp
    rw [h1, roomE2, bOf_at (by omega)]
    rw [h1] at hp
    omega
  · rw [h1, roomO2, bOf_at (by omega)]

/-- What is pushed from the source on is a blocking flow. -/
theorem blk_of {N : Net} (ok : N.Ok) {most k : Int} {R0 R : List Int} {O0 O : List (List Int)} (hb : bOf R0 N.n = N.f) (p : PL N N.s most R0 O0 k R O) (e : k = most ∨ ¬ To N R N.s) :
    BlkIs N.V N.ls N.caps N.f N.s N.t most (bOf R N.n) k N.M := by
  obtain ⟨h1, h2, h3, h4, h5, h6⟩ := flow_parts ok.flow
  obtain ⟨f1, f2, f3, f4⟩ := fits_parts h1
  have hcl : N.caps.length = N.n := by rw [(capsB_parts f2).1, ok.hl]
  have hr : ratesB N.caps (bOf R N.n) = true := ratesB_mk (by rw [bOf_len, hcl]) fun i hi => by
    rw [hcl] at hi
    unfold capI
    rw [bOf_at hi]
    have a1 := p.inv.low (2 * i) (by omega)
    have a2 := p.inv.low (2 * i + 1) (by omega)
    have a3 := p.inv.pair (2 * i) (by omega)
    rw [flip_even, Nat.mul_div_cancel_left _ (by omega)] at a3
    omega
  have hg : ∀ x, gainOf N.ls (bOf R N.n) x = gainOf N.ls N.f x + (if x = N.s then k else 0) - (if x = N.t then k else 0) := by
    intro x
    have := p.gain x
    unfold gR at this
    rw [hb] at this
    exact this
  have hgs : gainOf N.ls (bOf R N.n) N.s = gainOf N.ls N.f N.s + k := by
    rw [hg, if_pos rfl, if_neg h4]; omega
  have hlow := p.low
  refine ⟨?_, hgs, p.low, p.high, ⟨fun i hi hlt => ?_, fun i hi hlt => ?_⟩, ?_⟩
  · simp only [flowB, fitsF, f1, f2, hr, Bool.and_eq_true, Bool.not_eq_true', beq_eq_false_iff_ne, decide_eq_true_eq, isV, List.all_eq_true, List.mem_range, Int.toNat_natCast]
    refine ⟨⟨⟨⟨⟨⟨trivial, trivial⟩, trivial⟩, ⟨h2.1, h2.2⟩, h3.1, h3.2⟩, h4⟩, by rw [hgs]; omega⟩, fun v hv => ?_⟩
    simp only [restB, Bool.or_eq_true, beq_iff_eq]
    by_cases e1 : (v : Int) = N.s
    · exact .inl (.inl e1)
    · by_cases e2 : (v : Int) = N.t
      · exact .inl (.inr e2)
      · right
        rw [hg, if_neg e1, if_neg e2, h6 v hv e1 e2]
        rfl
  · rw [ok.hl] at hi
    rw [bOf_at hi] at hlt
    have a0 : 2 * i + 1 < 2 * N.n := by omega
    by_cases s1 : N.stp (2 * i)
    · exact s1
    · by_cases s2 : N.stp (2 * i + 1)
      · have := p.inv.over _ a0 s2
        rw [roomO2] at this
        omega
      · have := p.inv.same _ a0 s2 (by rw [flip_odd]; exact s1)
        rw [roomO2] at this
        omega
  · rw [ok.hl] at hi
    rw [bOf_at hi] at hlt
    have a0 : 2 * i + 1 < 2 * N.n := by omega
    by_cases s1 : N.stp (2 * i + 1)
    · exact s1
    · by_cases s2 : N.stp (2 * i)
      · have x1 := p.inv.over _ (by omega) s2
        have x2 := p.inv.pair (2 * i) (by omega)
        rw [roomE2] at x1
        rw [flip_even, Nat.mul_div_cancel_left _ (by omega)] at x2
        omega
      · have := p.inv.same _ a0 s1 (by rw [flip_odd]; exact s2)
        rw [roomO2] at this
        omega
  · rcases e with e | e
    · exact .inl e
    · refine .inr fun w => e ?_
      rw [ok.hl] at w
      refine WTo.mono (way_to w .here) fun a ha hp => ⟨hp.1, ?_⟩
      rw [← room_of p.inv ha]
      exact hp.2

/-- The rooms of the first m arcs. -/
def roomsA (caps f : List Int) (m : Nat) : List Int := (List.range m).map fun a : Nat => roomI caps f (a : Int)
instance stepDec (ls : List Lk) (caps f M : List Int) (a : Nat) : Decidable (StepsA ls caps f M a) := by unfold StepsA; infer_instance
/-- Of the first m arcs those that step from u. -/
def opnA (N : Net) (m : Nat) (u : Int) : List Int := ((List.range m).filter fun a => decide (N.tl a = u ∧ StepsA N.ls N.caps N.f N.M a)).map fun a : Nat => (a : Int)
def opnsA (N : Net) (m : Nat) : List (List Int) := (List.range N.V).map fun u : Nat => opnA N m (u : Int)

theorem rooms_next (caps f : List Int) (m : Nat) : roomsA caps f (m + 1) = roomsA caps f m ++ [roomI caps f (m : Int)] := by simp [roomsA, List.range_succ]
theorem rooms_len (caps f : List Int) (m : Nat) : (roomsA caps f m).length = m := by simp [roomsA]
theorem rooms_at {caps f : List Int} {m a : Nat} (h : a < m) : rAt (roomsA caps f m) a = roomI caps f (a : Int) := by simp [rAt, roomsA, h]
theorem opn_yes {N : Net} {m : Nat} (h : N.stp m) : opnA N (m + 1) (N.tl m) = opnA N m (N.tl m) ++ [(m : Int)] := by
  unfold Net.stp at h
  simp [opnA, List.range_succ, h]
theorem opn_no {N : Net} {m : Nat} {u : Int} (h : ¬ (N.tl m = u ∧ N.stp m)) : opnA N (m + 1) u = opnA N m u := by
  unfold Net.stp at h
  rw [opnA, List.range_succ, List.filter_append]
  simp [h, opnA]
theorem opns_len (N : Net) (m : Nat) : (opnsA N m).length = N.V := by simp [opnsA]
theorem opns_at {N : Net} {m u : Nat} (h : u < N.V) : (opnsA N m)[u]?.getD [] = opnA N m (u : Int) := by simp [opnsA, h]
theorem opns_no {N : Net} {m : Nat} (h : ¬ N.stp m) : opnsA N (m + 1) = opnsA N m := by
  unfold opnsA
  refine List.map_congr_left fun u _ => opn_no fun k => h k.2
theorem opns_yes {N : Net} {m : Nat} (ht : inV N.V (N.tl m)) (h : N.stp m) : opnsA N (m + 1) = (opnsA N m).set (N.tl m).toNat (opnA N m (N.tl m) ++ [(m : Int)]) := by
  obtain ⟨h0, h1⟩ := ht
  refine List.ext_getElem (by simp [opnsA]) fun i i1 i2 => ?_
  have hi : i < N.V := by simpa [opnsA] using i1
  rw [List.getElem_set]
  by_cases e : (N.tl m).toNat = i
  · rw [if_pos e]
    have e2 : (i : Int) = N.tl m := by omega
    simp only [opnsA, List.getElem_map, List.getElem_range]
    rw [e2]
    exact opn_yes h
  · rw [if_neg e]
    simp only [opnsA, List.getElem_map, List.getElem_range]
    exact opn_no fun k => e (by omega)
theorem opn_mem {N : Net} {m : Nat} {u x : Int} : x ∈ opnA N m u ↔ ∃ a : Nat, x = (a : Int) ∧ a < m ∧ N.tl a = u ∧ N.stp a := by
  simp only [opnA, List.mem_map, List.mem_filter, List.mem_range, decide_eq_true_eq]
  constructor
  · rintro ⟨a, ⟨h1, h2, h3⟩, rfl⟩
    exact ⟨a, rfl, h1, h2, h3⟩
  · rintro ⟨a, rfl, h1, h2, h3⟩
    exact ⟨a, ⟨h1, h2, h3⟩, rfl⟩
theorem opn_len (N : Net) (m : Nat) (u : Int) : (opnA N m u).length ≤ m := by
  unfold opnA
  rw [List.length_map]
  exact Nat.le_trans (List.length_filter_le _ _) (by simp)

/-- So it begins. -/
theorem pi_first {N : Net} (ok : N.Ok) : PI N (roomsA N.caps N.f (2 * N.n)) (opnsA N (2 * N.n)) ∧ bOf (roomsA N.caps N.f (2 * N.n)) N.n = N.f := by
  obtain ⟨h1, _⟩ := flow_parts ok.flow
  obtain ⟨f1, f2, f3, f4⟩ := fits_parts h1
  have hcl : N.caps.length = N.n := by rw [(capsB_parts f2).1, ok.hl]
  have hfl : N.f.length = N.n := by rw [(ratesB_parts f3).1, hcl]
  have hrt : ∀ i, i < N.n → 0 ≤ N.f[i]?.getD 0 ∧ N.f[i]?.getD 0 ≤ N.caps[i]?.getD 0 := fun i hi => rates_at f3 (by omega)
  refine ⟨⟨rooms_len _ _ _, opns_len _ _, fun a ha => ?_, fun a ha => ?_, fun u hu x hx => ?_, fun a ha hp hn => ?_, fun a ha _ => ?_, fun a ha _ _ => ?_⟩, ?_⟩
  · rw [rooms_at ha]
    obtain ⟨i, _, ⟨h1, h2⟩ | ⟨h1, h2⟩⟩ := flip_cases a
    · have := hrt i (by omega)
      rw [h1, roomE2]; omega
    · have := hrt i (by omega)
      rw [h1, roomO2]; omega
  · rw [rooms_at ha, rooms_at (flip_lt ha)]
    obtain ⟨i, hi, ⟨h1, h2⟩ | ⟨h1, h2⟩⟩ := flip_cases a
    · rw [h2, hi, h1, roomE2, roomO2]; omega
    · rw [h2, hi, h1, roomE2, roomO2]; omega
  · unfold oAt at hx
    have := hu.1
    have := hu.2
    rw [opns_at (by omega), show ((u.toNat : Nat) : Int) = u by omega] at hx
    exact opn_mem.1 hx
  · refine absurd ?_ hn
    have hu := ok.tl_in ha
    have := hu.1
    have := hu.2
    unfold oAt
    rw [opns_at (by omega), show (((N.tl a).toNat : Nat) : Int) = N.tl a by omega]
    exact opn_mem.2 ⟨a, rfl, ha, rfl, hp⟩
  · rw [rooms_at ha]; exact Int.le_refl _
  · rw [rooms_at ha]
  · refine List.ext_getElem (by rw [bOf_len, hfl]) fun i i1 i2 => ?_
    have hi : i < N.n := by omega
    have e1 := bOf_at (R := roomsA N.caps N.f (2 * N.n)) hi
    rw [List.getElem?_eq_getElem i1, rooms_at (by omega), roomO2, List.getElem?_eq_getElem i2] at e1
    exact e1

end Go.Proofs.Ytppcncblmakekaa
