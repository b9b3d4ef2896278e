/-
  Spans, as tests on two instants. No program. Trees of spans: what hangs where, as the reference goes through them, and as trees of places. No program. Trees that may be, as trees of places; how high they stand; their items in a row, with one more and with one less. No program. Trees of spans: items put in one by one, in whatever row; many that rise or fall. No program. A tree that may be, gone through in its row: what a walk that holds each item against the last one finds. No program. A tree with links turned: settled, raised, evened. No program. An item hung below a tree, one dropped from it. No program. An item dropped from a tree. No program. Trees that may be, with one item more and with one less; what meets, all of it. No program.
-/
import Derived.Test.YtgfehlmiejnonaaJB

set_option maxRecDepth 20000
namespace Go.Proofs.Ytgfehlmiejnonaa

def spanMay (a b : Int) : Bool := decide (0 ≤ a) && (decide (a < b) && decide (b ≤ 4096))

def meets (a b c d : Int) : Bool := spanMay a b && (spanMay c d && (decide (a < d) && decide (c < b)))

def has (a b t : Int) : Bool := spanMay a b && (decide (a ≤ t) && decide (t < b))

theorem span_may {a b : Int} : spanMay a b = true ↔ 0 ≤ a ∧ a < b ∧ b ≤ 4096 := by simp [spanMay]
theorem meets_may {a b c d : Int} : meets a b c d = true ↔ (0 ≤ a ∧ a < b ∧ b ≤ 4096) ∧ (0 ≤ c ∧ c < d ∧ d ≤ 4096) ∧ a < d ∧ c < b := by simp [meets, span_may]
theorem has_may {a b t : Int} : has a b t = true ↔ (0 ≤ a ∧ a < b ∧ b ≤ 4096) ∧ a ≤ t ∧ t < b := by simp [has, span_may]

end Go.Proofs.Ytgfehlmiejnonaa

set_option maxRecDepth 20000
namespace Go.Proofs.Ytgfehlmiejnonaa

abbrev It := Int × Int × Int
abbrev Nd := It × Int × Int × Int × Int
abbrev Hg := List It × Int × Int

def itB (x : It) : Bool := spanMay x.1 x.2.1 && (decide (0 ≤ x.2.2) && decide (x.2.2 ≤ 4611686018427387904))
def lessB (a b : It) : Bool := if a.1 ≠ b.1 then decide (a.1 < b.1) else if a.2.1 ≠ b.2.1 then decide (a.2.1 < b.2.1) else decide (a.2.2 < b.2.2)
def it0 : It := (0, 0, 0)
def nd0 : Nd := (it0, 0, 0, 0, 0)
def nd (ns : List Nd) (k : Nat) : Nd := ns[k]?.getD nd0
def it (xs : List It) (k : Nat) : It := xs[k]?.getD it0
def marked (s : List Bool) (k : Nat) : Bool := s[k]?.getD true
def unseen (s : List Bool) : Nat := s.countP (fun b => !b)

def topH (x : Nd) (a b : Hg) : Hg := (a.1 ++ x.1 :: b.1, max a.2.1 b.2.1 + 1, max (max a.2.2 b.2.2) x.1.2.1)
def hangs (x : Nd) (a b : Hg) : Bool := itB x.1 && (decide (a.2.1 - b.2.1 ≤ 1) && (decide (b.2.1 - a.2.1 ≤ 1) && (decide (x.2.2.2.1 = max a.2.1 b.2.1 + 1) && decide (x.2.2.2.2 = max (max a.2.2 b.2.2) x.1.2.1))))
def joinH (x : Nd) : Option Hg → Option Hg → Option Hg
  | some a, some b => if hangs x a b = true then some (topH x a b) else none
  | _, _ => none

/-- What hangs at a place, with marks of the places come to. -/
def hungF (ns : List Nd) : Nat → Int → List Bool → List Bool × Option Hg
  | 0, _, s => (s, none)
  | f + 1, p, s =>
    if p = -1 then (s, some ([], 0, 0))
    else if p < 0 ∨ (ns.length : Int) ≤ p ∨ marked s p.toNat = true then (s, none)
    else
      ((hungF ns f (nd ns p.toNat).2.2.1 (hungF ns f (nd ns p.toNat).2.1 (s.set p.toNat true)).1).1,
        joinH (nd ns p.toNat) (hungF ns f (nd ns p.toNat).2.1 (s.set p.toNat true)).2 (hungF ns f (nd ns p.toNat).2.2.1 (hungF ns f (nd ns p.toNat).2.1 (s.set p.toNat true)).1).2)

def freeF (ns : List Nd) : List Int → List Bool → Option (List Bool)
  | [], s => some s
  | k :: r, s => if 0 ≤ k ∧ k < ns.length ∧ marked s k.toNat = false ∧ nd ns k.toNat = nd0 then freeF ns r (s.set k.toNat true) else none

def risesFrom (a : It) : List It → Bool
  | [] => true
  | b :: r => lessB a b && risesFrom b r
def rises : List It → Bool
  | [] => true
  | a :: r => risesFrom a r

def lastF (ns : List Nd) (free : List Int) : List Bool × Option Hg → Option (List It)
  | (s, some g) => match freeF ns free s with
    | some t => if t.all id && rises g.1 then some g.1 else none
    | none => none
  | (_, none) => none

/-- The items of a tree in their row; none: it may not be. -/
def allF (ns : List Nd) (root : Int) (free : List Int) : Option (List It) :=
  if 32 < ns.length ∨ ns.length < free.length then none else lastF ns free (hungF ns (ns.length + 1) root (List.replicate ns.length false))

theorem marked_set {s : List Bool} {k i : Nat} (hi : i < s.length) : marked (s.set k true) i = (marked s i || decide (i = k)) := by
  unfold marked
  rw [List.getElem?_set]
  by_cases h : k = i
  · subst h
    rw [if_pos rfl, if_pos hi]
    simp
  · rw [if_neg h]
    have : ¬ i = k := fun e => h e.symm
    simp [this]

theorem unseen_set : ∀ {s : List Bool} {k : Nat}, marked s k = false → unseen (s.set k true) + 1 = unseen s
  | [], k, h => by simp [marked] at h
  | b :: r, 0, h => by
    have hb : b = false := by simpa [marked] using h
    subst hb
    simp [unseen]
  | b :: r, k + 1, h => by
    have := unseen_set (s := r) (k := k) (by simpa [marked] using h)
    unfold unseen at *
    rw [List.set_cons_succ, List.countP_cons, List.countP_cons]
    omega

theorem unseen_rep (n : Nat) : unseen (List.replicate n false) = n := by simp [unseen, List.countP_replicate]

theorem hung_less (ns : List Nd) : ∀ (f : Nat) (p : Int) (s : List Bool), (hungF ns f p s).1.length = s.length ∧ unseen (hungF ns f p s).1 ≤ unseen s
  | 0, _, _ => ⟨rfl, Nat.le_refl _⟩
  | f + 1, p, s => by
    rw [hungF]
    by_cases h : p = -1
    · rw [if_pos h]
      exact ⟨rfl, Nat.le_refl _⟩
    rw [if_neg h]
    by_cases k : p < 0 ∨ (ns.length : Int) ≤ p ∨ marked s p.toNat = true
    · rw [if_pos k]
      exact ⟨rfl, Nat.le_refl _⟩
    rw [if_neg k]
    have a := hung_less ns f (nd ns p.toNat).2.1 (s.set p.toNat true)
    have b := hung_less ns f (nd ns p.toNat).2.2.1 (hungF ns f (nd ns p.toNat).2.1 (s.set p.toNat true)).1
    have c := unseen_set (s := s) (k := p.toNat) (by
      cases q : marked s p.toNat
      · rfl
      · exact absurd (.inr (.inr q)) k)
    refine ⟨?_, ?_⟩
    · show (hungF _ _ _ _).1.length = _
      rw [b.1, a.1, List.length_set]
    · show unseen (hungF _ _ _ _).1 ≤ _
      omega

/-- A tree of places. -/
inductive Tr where
  | nil : Tr
  | node : Nat → Tr → Tr → Tr

def Tr.top : Tr → Int
  | .nil => -1
  | .node k _ _ => (k : Int)
def Tr.places : Tr → List Nat
  | .nil => []
  | .node k l r => k :: (l.places ++ r.places)
def Tr.deep : Tr → Nat
  | .nil => 0
  | .node _ l r => max l.deep r.deep + 1
def Tr.sum (ns : List Nd) : Tr → Hg
  | .nil => ([], 0, 0)
  | .node k l r => topH (nd ns k) (l.sum ns) (r.sum ns)
def Tr.ok (ns : List Nd) : Tr → Prop
  | .nil => True
  | .node k l r => k < ns.length ∧ (nd ns k).2.1 = l.top ∧ (nd ns k).2.2.1 = r.top ∧ hangs (nd ns k) (l.sum ns) (r.sum ns) = true ∧ l.ok ns ∧ r.ok ns

def Marks (s : List Bool) (ps : List Nat) (t : List Bool) : Prop := t.length = s.length ∧ ∀ k, k < s.length → marked t k = (marked s k || decide (k ∈ ps))

theorem Tr.deep_le : ∀ T : Tr, T.deep ≤ T.places.length
  | .nil => Nat.le_refl _
  | .node k l r => by
    have a := l.deep_le
    have b := r.deep_le
    simp only [Tr.deep, Tr.places, List.length_cons, List.length_append]
    omega

theorem hung_of {ns : List Nd} : ∀ (T : Tr) (f : Nat) (s : List Bool), T.ok ns → s.length = ns.length → T.places.Nodup → (∀ k ∈ T.places, marked s k = false) → T.deep < f →
    ∃ t, hungF ns f T.top s = (t, some (T.sum ns)) ∧ Marks s T.places t
  | .nil, f, s, _, _, _, _, hf => by
    obtain ⟨f, rfl⟩ : ∃ g, f = g + 1 := ⟨f - 1, by simp [Tr.deep] at hf; omega⟩
    refine ⟨s, ?_, rfl, fun k _ => by simp [Tr.places]⟩
    rw [hungF, Tr.top, if_pos rfl]
    rfl
  | .node k l r, f, s, hT, hl, hnd, hm, hf => by
    obtain ⟨hk, h1, h2, h3, okl, okr⟩ := hT
    simp only [Tr.deep] at hf
    obtain ⟨f, rfl⟩ : ∃ g, f = g + 1 := ⟨f - 1, by omega⟩
    simp only [Tr.places, List.nodup_cons, List.mem_append, List.nodup_append] at hnd
    obtain ⟨hkn, hln, hrn, hlr⟩ := hnd
    have hmk : marked s k = false := hm k (by simp [Tr.places])
    have hml : ∀ j ∈ l.places, marked (s.set k true) j = false := by
      intro j hj
      have h := hm j (by simp [Tr.places, hj])
      have hj8 : j < s.length := by
        by_cases q : j < s.length
        · exact q
        · rw [marked, List.getElem?_eq_none (by omega)] at h
          cases h
      rw [marked_set hj8, h]
      simp
      rintro rfl
      exact hkn (.inl hj)
    obtain ⟨t, et, mt⟩ := hung_of l f (s.set k true) okl (by simpa using hl) hln hml (by omega)
    have hmr : ∀ j ∈ r.places, marked t j = false := by
      intro j hj
      have h := hm j (by simp [Tr.places, hj])
      have hj8 : j < s.length := by
        by_cases q : j < s.length
        · exact q
        · rw [marked, List.getElem?_eq_none (by omega)] at h
          cases h
      rw [mt.2 j (by simpa using hj8), marked_set hj8, h]
      have q1 : ¬ j = k := by
        rintro rfl
        exact hkn (.inr hj)
      have q2 : ¬ j ∈ l.places := fun q => hlr j q j hj rfl
      simp [q1, q2]
    obtain ⟨u, eu, mu⟩ := hung_of r f t okr (by rw [mt.1]; simpa using hl) hrn hmr (by omega)
    have e1 : ((k : Nat) : Int).toNat = k := by omega
    refine ⟨u, ?_, ?_, ?_⟩
    · rw [Tr.top, hungF, if_neg (by omega), if_neg (by rw [e1, hmk]; simp; omega)]
      simp only [e1, h1, h2, et, eu]
      rw [Tr.sum, joinH, if_pos h3]
    · rw [mu.1, mt.1]
      simp
    · intro j hj
      rw [mu.2 j (by rw [mt.1]; simpa using hj), mt.2 j (by simpa using hj), marked_set hj]
      simp only [Tr.places, List.mem_cons, List.mem_append]
      cases marked s j <;> simp [Bool.or_assoc]

theorem of_hung {ns : List Nd} : ∀ (f : Nat) (p : Int) (s t : List Bool) (g : Hg), s.length = ns.length → hungF ns f p s = (t, some g) →
    ∃ T : Tr, T.top = p ∧ T.ok ns ∧ T.sum ns = g ∧ T.places.Nodup ∧ (∀ k ∈ T.places, k < ns.length ∧ marked s k = false) ∧ Marks s T.places t
  | 0, p, s, t, g, _, h => by simp [hungF] at h
  | f + 1, p, s, t, g, hl, h => by
    rw [hungF] at h
    by_cases hp : p = -1
    · rw [if_pos hp] at h
      simp only [Prod.mk.injEq, Option.some.injEq] at h
      obtain ⟨rfl, rfl⟩ := h
      exact ⟨.nil, hp.symm, trivial, rfl, by simp [Tr.places], by simp [Tr.places], rfl, fun k _ => by simp [Tr.places]⟩
    rw [if_neg hp] at h
    by_cases hq : p < 0 ∨ (ns.length : Int) ≤ p ∨ marked s p.toNat = true
    · rw [if_pos hq] at h
      simp at h
    rw [if_neg hq] at h
    obtain ⟨k, rfl⟩ : ∃ k : Nat, p = (k : Nat) := ⟨p.toNat, by omega⟩
    have e1 : ((k : Nat) : Int).toNat = k := by omega
    rw [e1] at h hq
    have hk : k < ns.length := by omega
    have hmk : marked s k = false := by
      cases q : marked s k
      · rfl
      · exact absurd (.inr (.inr q)) hq
    obtain ⟨t1, a, ea⟩ : ∃ t1 a, hungF ns f (nd ns k).2.1 (s.set k true) = (t1, a) := ⟨_, _, rfl⟩
    rw [ea] at h
    obtain ⟨t2, b, eb⟩ : ∃ t2 b, hungF ns f (nd ns k).2.2.1 t1 = (t2, b) := ⟨_, _, rfl⟩
    simp only [eb, Prod.mk.injEq] at h
    obtain ⟨rfl, h⟩ := h
    cases a with
    | none => simp [joinH] at h
    | some a =>
      cases b with
      | none => simp [joinH] at h
      | some b =>
        rw [joinH] at h
        by_cases hh : hangs (nd ns k) a b = true
        · rw [if_pos hh] at h
          simp only [Option.some.injEq] at h
          obtain ⟨L, l1, l2, l3, l4, l5, l6⟩ := of_hung f _ _ _ _ (by simpa using hl) ea
          obtain ⟨R, r1, r2, r3, r4, r5, r6⟩ := of_hung f _ _ _ _ (by rw [l6.1]; simpa using hl) eb
          subst l3 r3
          refine ⟨.node k L R, rfl, ⟨hk, l1.symm, r1.symm, hh, l2, r2⟩, h, ?_, ?_, ?_, ?_⟩
          · simp only [Tr.places, List.nodup_cons, List.mem_append, List.nodup_append]
            refine ⟨?_, l4, r4, ?_⟩
            · rintro (q | q)
              · have := (l5 k q).2
                rw [marked_set (by omega)] at this
                simp at this
              · have := (r5 k q).2
                rw [l6.2 k (by simp; omega), marked_set (by omega)] at this
                simp at this
            · rintro i hi j hj rfl
              have := (r5 i hj).2
              rw [l6.2 i (by have := (l5 i hi).1; simp; omega)] at this
              simp [hi] at this
          · intro j hj
            simp only [Tr.places, List.mem_cons, List.mem_append] at hj
            rcases hj with rfl | hj | hj
            · exact ⟨hk, hmk⟩
            · have q := l5 j hj
              refine ⟨q.1, ?_⟩
              have q2 := q.2
              rw [marked_set (by omega)] at q2
              simp at q2
              exact q2.1
            · have q := r5 j hj
              refine ⟨q.1, ?_⟩
              have q2 := q.2
              rw [l6.2 j (by simp; omega), marked_set (by omega)] at q2
              simp at q2
              exact q2.1.1
          · rw [r6.1, l6.1]
            simp
          · intro j hj
            rw [r6.2 j (by rw [l6.1]; simpa using hj), l6.2 j (by simpa using hj), marked_set hj]
            simp only [Tr.places, List.mem_cons, List.mem_append]
            cases marked s j <;> simp [Bool.or_assoc]
        · rw [if_neg hh] at h
          cases h

end Go.Proofs.Ytgfehlmiejnonaa

set_option maxRecDepth 20000
namespace Go.Proofs.Ytgfehlmiejnonaa

theorem marks_less : ∀ {ps : List Nat} {s t : List Bool}, ps.Nodup → (∀ p ∈ ps, p < s.length ∧ marked s p = false) → Marks s ps t → unseen t + ps.length = unseen s
  | [], s, t, _, _, h => by
    have e : t = s := by
      refine List.ext_getElem h.1 fun i h1 h2 => ?_
      have := h.2 i h2
      simpa [marked, h1, h2] using this
    simp [e]
  | k :: r, s, t, hn, hm, h => by
    obtain ⟨h1, h2⟩ := List.nodup_cons.1 hn
    have hk := hm k (by simp)
    have hs := unseen_set hk.2
    have := marks_less (ps := r) (s := s.set k true) (t := t) h2 (fun p hp => by
      have q := hm p (by simp [hp])
      refine ⟨by simpa using q.1, ?_⟩
      rw [marked_set q.1, q.2]
      simp
      rintro rfl
      exact h1 hp) ⟨by simpa using h.1, fun i hi => by
        have hi' : i < s.length := by simpa using hi
        rw [marked_set hi', h.2 i hi']
        simp only [List.mem_cons]
        cases marked s i <;> simp⟩
    simp only [List.length_cons]
    omega

theorem all_seen {t : List Bool} : t.all id = true ↔ unseen t = 0 := by
  simp [unseen, List.countP_eq_zero]

theorem free_of {ns : List Nd} : ∀ (free : List Int) (s : List Bool), s.length = ns.length → free.Nodup → (∀ k ∈ free, 0 ≤ k ∧ k < ns.length ∧ marked s k.toNat = false ∧ nd ns k.toNat = nd0) →
    ∃ t, freeF ns free s = some t ∧ Marks s (free.map Int.toNat) t
  | [], s, _, _, _ => ⟨s, rfl, rfl, fun k _ => by simp⟩
  | k :: r, s, hl, hn, h => by
    obtain ⟨h1, h2⟩ := List.nodup_cons.1 hn
    obtain ⟨a, b, c, d⟩ := h k (by simp)
    obtain ⟨t, ht, m⟩ := free_of r (s.set k.toNat true) (by simpa using hl) h2 (fun j hj => by
      obtain ⟨a', b', c', d'⟩ := h j (by simp [hj])
      refine ⟨a', b', ?_, d'⟩
      rw [marked_set (by omega), c']
      simp
      intro e
      have : j = k := by omega
      exact h1 (this ▸ hj))
    refine ⟨t, by rw [freeF, if_pos ⟨a, b, c, d⟩, ht], by rw [m.1]; simp, fun i hi => ?_⟩
    rw [m.2 i (by simpa using hi), marked_set hi]
    simp only [List.map_cons, List.mem_cons]
    cases marked s i <;> simp

theorem of_free {ns : List Nd} : ∀ (free : List Int) (s t : List Bool), s.length = ns.length → freeF ns free s = some t →
    (free.Nodup ∧ ∀ k ∈ free, 0 ≤ k ∧ k < ns.length ∧ marked s k.toNat = false ∧ nd ns k.toNat = nd0) ∧ Marks s (free.map Int.toNat) t
  | [], s, t, _, h => by
    simp only [freeF, Option.some.injEq] at h
    subst h
    exact ⟨⟨List.nodup_nil, by simp⟩, rfl, fun k _ => by simp⟩
  | k :: r, s, t, hl, h => by
    rw [freeF] at h
    by_cases q : 0 ≤ k ∧ k < ns.length ∧ marked s k.toNat = false ∧ nd ns k.toNat = nd0
    · rw [if_pos q] at h
      obtain ⟨⟨h1, h2⟩, m⟩ := of_free r (s.set k.toNat true) t (by simpa using hl) h
      refine ⟨⟨List.nodup_cons.2 ⟨fun hk => ?_, h1⟩, fun j hj => ?_⟩, by rw [m.1]; simp, fun i hi => ?_⟩
      · have := (h2 k hk).2.2.1
        rw [marked_set (by omega)] at this
        simp at this
      · rcases List.mem_cons.1 hj with rfl | hj
        · exact q
        · obtain ⟨a, b, c, d⟩ := h2 j hj
          rw [marked_set (by omega)] at c
          simp at c
          exact ⟨a, b, c.1, d⟩
      · rw [m.2 i (by simpa using hi), marked_set hi]
        simp only [List.map_cons, List.mem_cons]
        cases marked s i <;> simp
    · rw [if_neg q] at h
      cases h

/-- A tree that may be: what hangs below its root, and what is free. -/
structure TreeOk (ns : List Nd) (root : Int) (free : List Int) (T : Tr) : Prop where
  few : ns.length ≤ 32
  top : T.top = root
  ok : T.ok ns
  once : T.places.Nodup
  bare : free.Nodup
  spare : ∀ k ∈ free, 0 ≤ k ∧ k < ns.length ∧ k.toNat ∉ T.places ∧ nd ns k.toNat = nd0
  all : T.places.length + free.length = ns.length
  row : rises (T.sum ns).1 = true

theorem Tr.ok_in {ns : List Nd} : ∀ {T : Tr}, T.ok ns → ∀ k ∈ T.places, k < ns.length
  | .nil, _, k, h => by simp [Tr.places] at h
  | .node i l r, ⟨hk, _, _, _, okl, okr⟩, k, h => by
    simp only [Tr.places, List.mem_cons, List.mem_append] at h
    rcases h with rfl | h | h
    · exact hk
    · exact Tr.ok_in okl k h
    · exact Tr.ok_in okr k h

theorem Tr.sum_len (ns : List Nd) : ∀ T : Tr, (T.sum ns).1.length = T.places.length
  | .nil => rfl
  | .node k l r => by
    simp only [Tr.sum, topH, Tr.places, List.length_append, List.length_cons, l.sum_len ns, r.sum_len ns]
    omega

theorem Tr.sum_it {ns : List Nd} : ∀ {T : Tr}, T.ok ns → ∀ x ∈ (T.sum ns).1, itB x = true
  | .nil, _, x, h => by simp [Tr.sum] at h
  | .node i l r, ⟨hk, _, _, hh, okl, okr⟩, x, h => by
    simp only [Tr.sum, topH, List.mem_append, List.mem_cons] at h
    rcases h with h | rfl | h
    · exact Tr.sum_it okl x h
    · simp only [hangs, Bool.and_eq_true] at hh
      exact hh.1
    · exact Tr.sum_it okr x h

theorem marked_rep {n k : Nat} (h : k < n) : marked (List.replicate n false) k = false := by simp [marked, h]

theorem all_of {ns : List Nd} {root : Int} {free : List Int} {T : Tr} (h : TreeOk ns root free T) : allF ns root free = some (T.sum ns).1 := by
  have hd := T.deep_le
  have hall := h.all
  obtain ⟨s, es, ms⟩ := hung_of T (ns.length + 1) (List.replicate ns.length false) h.ok (by simp) h.once (fun k hk => marked_rep (Tr.ok_in h.ok k hk)) (by omega)
  have hsl : s.length = ns.length := by rw [ms.1]; simp
  have us := marks_less h.once (fun p hp => ⟨by simpa using Tr.ok_in h.ok p hp, marked_rep (Tr.ok_in h.ok p hp)⟩) ms
  rw [unseen_rep] at us
  have hfr : ∀ k ∈ free, 0 ≤ k ∧ k < ns.length ∧ marked s k.toNat = false ∧ nd ns k.toNat = nd0 := by
    intro k hk
    obtain ⟨a, b, c, d⟩ := h.spare k hk
    refine ⟨a, b, ?_, d⟩
    rw [ms.2 k.toNat (by simp; omega), marked_rep (by omega)]
    simp [c]
  obtain ⟨t, et, mt⟩ := free_of free s hsl h.bare hfr
  have hnd : (free.map Int.toNat).Nodup := by
    rw [List.Nodup, List.pairwise_map]
    refine List.Pairwise.imp_of_mem ?_ h.bare
    intro a b ha hb hab e
    have := (h.spare a ha).1
    have := (h.spare b hb).1
    exact hab (by omega)
  have ut := marks_less hnd (fun p hp => by
    obtain ⟨k, hk, rfl⟩ := List.mem_map.1 hp
    have := hfr k hk
    exact ⟨by omega, this.2.2.1⟩) mt
  rw [List.length_map] at ut
  have h0 : t.all id = true := all_seen.2 (by omega)
  rw [allF, if_neg (by have := h.few; omega), ← h.top, es, lastF, et]
  simp only [h0, h.row, Bool.and_self, if_true]

theorem of_all {ns : List Nd} {root : Int} {free : List Int} {xs : List It} (h : allF ns root free = some xs) : ∃ T, TreeOk ns root free T ∧ (T.sum ns).1 = xs := by
  rw [allF] at h
  by_cases q : 32 < ns.length ∨ ns.length < free.length
  · rw [if_pos q] at h
    cases h
  rw [if_neg q] at h
  obtain ⟨s, g, es⟩ : ∃ s g, hungF ns (ns.length + 1) root (List.replicate ns.length false) = (s, g) := ⟨_, _, rfl⟩
  rw [es] at h
  cases g with
  | none => simp [lastF] at h
  | some g =>
    obtain ⟨T, h1, h2, h3, h4, h5, ms⟩ := of_hung _ _ _ _ _ (by simp) es
    rw [lastF] at h
    cases et : freeF ns free s with
    | none => rw [et] at h; cases h
    | some t =>
      rw [et] at h
      have hsl : s.length = ns.length := by rw [ms.1]; simp
      obtain ⟨⟨f1, f2⟩, mt⟩ := of_free free s t hsl et
      by_cases hb : (t.all id && rises g.1) = true
      · simp only [hb, if_true, Option.some.injEq] at h
        rw [Bool.and_eq_true] at hb
        have us := marks_less h4 (fun p hp => ⟨by simpa using (h5 p hp).1, (h5 p hp).2⟩) ms
        rw [unseen_rep] at us
        have hnd : (free.map Int.toNat).Nodup := by
          rw [List.Nodup, List.pairwise_map]
          refine List.Pairwise.imp_of_mem ?_ f1
          intro a b ha hb hab e
          have := (f2 a ha).1
          have := (f2 b hb).1
          exact hab (by omega)
        have ut := marks_less hnd (fun p hp => by
          obtain ⟨k, hk, rfl⟩ := List.mem_map.1 hp
          have := f2 k hk
          exact ⟨by omega, this.2.2.1⟩) mt
        rw [List.length_map] at ut
        have h0 := all_seen.1 hb.1
        refine ⟨T, ⟨by omega, h1, h2, h4, f1, fun k hk => ?_, by omega, by rw [h3]; exact hb.2⟩, by rw [h3]; exact h⟩
        obtain ⟨a, b, c, d⟩ := f2 k hk
        refine ⟨a, b, ?_, d⟩
        rw [ms.2 k.toNat (by simp; omega), marked_rep (by omega)] at c
        simpa using c
      · simp only [hb] at h
        cases h

/-- How few items stand so high. -/
def lo : Nat → Nat
  | 0 => 0
  | 1 => 1
  | n + 2 => lo (n + 1) + lo n + 1

theorem lo_up : ∀ n : Nat, lo n ≤ lo (n + 1)
  | 0 => by decide
  | 1 => by decide
  | n + 2 => by
    have h : lo (n + 2 + 1) = lo (n + 2) + lo (n + 1) + 1 := rfl
    omega

theorem lo_mono {m n : Nat} (h : m ≤ n) : lo m ≤ lo n := by
  induction n with
  | zero => rw [Nat.le_zero.1 h]; exact Nat.le_refl _
  | succ n ih =>
    rcases Nat.lt_or_ge n m with k | k
    · rw [show m = n + 1 by omega]; exact Nat.le_refl _
    · exact Nat.le_trans (ih k) (lo_up n)

theorem Tr.high {ns : List Nd} : ∀ {T : Tr}, T.ok ns → ∃ h : Nat, (T.sum ns).2.1 = (h : Int) ∧ lo h ≤ (T.sum ns).1.length
  | .nil, _ => ⟨0, rfl, Nat.zero_le _⟩
  | .node i l r, ⟨_, _, _, hh, okl, okr⟩ => by
    obtain ⟨a, ea, la⟩ := Tr.high okl
    obtain ⟨b, eb, lb⟩ := Tr.high okr
    simp only [hangs, Bool.and_eq_true, decide_eq_true_eq] at hh
    obtain ⟨_, h1, h2, _, _⟩ := hh
    rw [ea, eb] at h1 h2
    refine ⟨max a b + 1, ?_, ?_⟩
    · simp only [Tr.sum, topH, ea, eb]
      omega
    · simp only [Tr.sum, topH, List.length_append, List.length_cons]
      rcases Nat.lt_or_ge a b with k | k
      · have e : max a b + 1 = a + 2 := by omega
        have e2 : b = a + 1 := by omega
        subst e2
        rw [e, lo]
        omega
      · rcases Nat.lt_or_ge b a with k2 | k2
        · have e : max a b + 1 = b + 2 := by omega
          have e2 : a = b + 1 := by omega
          subst e2
          rw [e, lo]
          omega
        · have e : a = b := by omega
          subst e
          have : max a a + 1 = a + 1 := by omega
          rw [this]
          cases a with
          | zero =>
            have e1 : lo (0 + 1) = 1 := rfl
            omega
          | succ a =>
            rw [lo]
            have := lo_up a
            omega

theorem Tr.low {ns : List Nd} {T : Tr} (h : T.ok ns) (k : (T.sum ns).1.length ≤ 32) : (T.sum ns).2.1 ≤ 6 := by
  obtain ⟨n, e, l⟩ := Tr.high h
  rw [e]
  rcases Nat.lt_or_ge n 7 with q | q
  · omega
  · have := lo_mono q
    have e7 : lo 7 = 33 := by decide
    omega

theorem less_iff {a b : It} : lessB a b = true ↔ a.1 < b.1 ∨ (a.1 = b.1 ∧ (a.2.1 < b.2.1 ∨ (a.2.1 = b.2.1 ∧ a.2.2 < b.2.2))) := by
  unfold lessB
  by_cases h : a.1 = b.1
  · by_cases k : a.2.1 = b.2.1
    · simp [h, k]
    · simp [h, k]
  · simp [h]

theorem less_trans {a b c : It} (h : lessB a b = true) (k : lessB b c = true) : lessB a c = true := by
  rw [less_iff] at *
  omega
theorem less_irr (a : It) : lessB a a = false := by
  cases h : lessB a a
  · rfl
  · rw [less_iff] at h; omega
theorem it_eq {a b : It} (h1 : a.1 = b.1) (h2 : a.2.1 = b.2.1) (h3 : a.2.2 = b.2.2) : a = b := by
  obtain ⟨_, _, _⟩ := a
  obtain ⟨_, _, _⟩ := b
  simp only at h1 h2 h3
  subst h1 h2 h3
  rfl
theorem less_tri (a b : It) (h : lessB a b = false) (k : a ≠ b) : lessB b a = true := by
  rw [less_iff]
  have q : ¬ lessB a b = true := by simp [h]
  rw [less_iff] at q
  rcases Int.lt_trichotomy a.1 b.1 with x | x | x
  · omega
  · rcases Int.lt_trichotomy a.2.1 b.2.1 with y | y | y
    · omega
    · rcases Int.lt_trichotomy a.2.2 b.2.2 with z | z | z
      · omega
      · exact absurd (it_eq x y z) k
      · omega
    · omega
  · omega

theorem rises_from : ∀ {a : It} {xs : List It}, risesFrom a xs = true ↔ List.Pairwise (fun x y => lessB x y = true) (a :: xs)
  | a, [] => by simp [risesFrom]
  | a, b :: r => by
    rw [risesFrom, Bool.and_eq_true, rises_from, List.pairwise_cons (a := a)]
    constructor
    · rintro ⟨h, k⟩
      refine ⟨fun x hx => ?_, k⟩
      rcases List.mem_cons.1 hx with rfl | hx
      · exact h
      · exact less_trans h ((List.pairwise_cons.1 k).1 x hx)
    · rintro ⟨h, k⟩
      exact ⟨h b (by simp), k⟩
theorem rises_pair : ∀ {xs : List It}, rises xs = true ↔ List.Pairwise (fun x y => lessB x y = true) xs
  | [] => by simp [rises]
  | a :: r => by rw [rises, rises_from]

def withF (x : It) : List It → List It
  | [] => [x]
  | a :: r => if lessB x a = true then x :: a :: r else a :: withF x r
def withoutF (x : It) (xs : List It) : List It := xs.filter fun a => decide (a ≠ x)
def meetsF (a b : Int) (xs : List It) : List It := xs.filter fun x => meets x.1 x.2.1 a b
def hitB (xs : List It) (t : Int) : Bool := xs.any fun x => decide (x.1 = t) || decide (x.2.1 = t)
def pointsF (a b : Int) (xs : List It) : List Int := ((List.range (b - (a + 1)).toNat).map fun i : Nat => a + 1 + (i : Int)).filter (hitB xs)
def insE (V : Option (List It)) (x : It) : Int :=
  match V with
  | none => 1700
  | some xs => if itB x = false then 1700 else if x ∈ xs then 1701 else if xs.length = 32 then 1703 else 0

theorem with_mem {x y : It} : ∀ {xs : List It}, y ∈ withF x xs ↔ y = x ∨ y ∈ xs
  | [] => by simp [withF]
  | a :: r => by
    rw [withF]
    split
    · simp
    · rw [List.mem_cons, with_mem, List.mem_cons]
      constructor
      · rintro (h | h | h)
        · exact .inr (.inl h)
        · exact .inl h
        · exact .inr (.inr h)
      · rintro (h | h | h)
        · exact .inr (.inl h)
        · exact .inl h
        · exact .inr (.inr h)

theorem with_len (x : It) : ∀ xs : List It, (withF x xs).length = xs.length + 1
  | [] => rfl
  | a :: r => by
    rw [withF]
    split
    · rfl
    · rw [List.length_cons, with_len, List.length_cons]

theorem with_rises {x : It} : ∀ {xs : List It}, rises xs = true → x ∉ xs → rises (withF x xs) = true := by
  intro xs h hx
  rw [rises_pair] at *
  induction xs with
  | nil => simp [withF]
  | cons a r ih =>
    obtain ⟨h1, h2⟩ := List.pairwise_cons.1 h
    rw [withF]
    by_cases q : lessB x a = true
    · rw [if_pos q]
      refine List.pairwise_cons.2 ⟨fun y hy => ?_, h⟩
      rcases List.mem_cons.1 hy with rfl | hy
      · exact q
      · exact less_trans q (h1 y hy)
    · rw [if_neg q]
      have hxa : x ≠ a := fun e => hx (by simp [e])
      have := less_tri x a (by simpa using q) hxa
      refine List.pairwise_cons.2 ⟨fun y hy => ?_, ih h2 (fun e => hx (by simp [e]))⟩
      rcases with_mem.1 hy with rfl | hy
      · exact this
      · exact h1 y hy

theorem without_rises {x : It} {xs : List It} (h : rises xs = true) : rises (withoutF x xs) = true := by
  rw [rises_pair] at *
  exact h.filter _

theorem rises_one {xs ys : List It} (h : rises xs = true) (k : rises ys = true) (e : ∀ x, x ∈ xs ↔ x ∈ ys) : xs = ys := by
  rw [rises_pair] at h k
  induction xs generalizing ys with
  | nil =>
    cases ys with
    | nil => rfl
    | cons b r => exact absurd ((e b).2 (by simp)) (by simp)
  | cons a r ih =>
    cases ys with
    | nil => exact absurd ((e a).1 (by simp)) (by simp)
    | cons b q =>
      obtain ⟨h1, h2⟩ := List.pairwise_cons.1 h
      obtain ⟨k1, k2⟩ := List.pairwise_cons.1 k
      have hab : a = b := by
        rcases List.mem_cons.1 ((e a).1 (by simp)) with x | x
        · exact x
        rcases List.mem_cons.1 ((e b).2 (by simp)) with y | y
        · exact y.symm
        have z := less_trans (k1 a x) (h1 b y)
        rw [less_irr] at z
        cases z
      subst hab
      congr 1
      refine ih h2 k2 fun x => ⟨fun hx => ?_, fun hx => ?_⟩
      · rcases List.mem_cons.1 ((e x).1 (by simp [hx])) with y | y
        · subst y
          have z := h1 x hx
          rw [less_irr] at z
          cases z
        · exact y
      · rcases List.mem_cons.1 ((e x).2 (by simp [hx])) with y | y
        · subst y
          have z := k1 x hx
          rw [less_irr] at z
          cases z
        · exact y

end Go.Proofs.Ytgfehlmiejnonaa

set_option maxRecDepth 20000
namespace Go.Proofs.Ytgfehlmiejnonaa

theorem ins_ok {xs : List It} {x : It} (h1 : itB x = true) (h2 : x ∉ xs) (h3 : xs.length < 32) : insE (some xs) x = 0 := by
  rw [insE, if_neg (by simp [h1]), if_neg h2, if_neg (by omega)]

/-- Many that rise, or fall. -/
def highAt (falls : Bool) (i : Nat) : Int := if falls = true then 100 - (i : Int) else (i : Int)
def highIt (falls : Bool) (i : Nat) : It := (highAt falls i, highAt falls i + 1, 0)
def HighInv (falls : Bool) (i : Nat) (xs : List It) : Prop := xs.length = i ∧ ∀ y ∈ xs, ∃ j : Nat, j < i ∧ y = highIt falls j

theorem high_it {falls : Bool} {i : Nat} (h : i ≤ 31) : itB (highIt falls i) = true := by
  simp only [itB, highIt, highAt, Bool.and_eq_true, span_may]
  cases falls <;> simp <;> omega

theorem high_new {falls : Bool} {i : Nat} {xs : List It} (h : HighInv falls i xs) : highIt falls i ∉ xs := by
  intro hx
  obtain ⟨j, hj, e⟩ := h.2 _ hx
  have e1 : highAt falls i = highAt falls j := congrArg (fun p : It => p.1) e
  unfold highAt at e1
  cases falls <;> simp at e1 <;> omega

theorem high_next {falls : Bool} {i : Nat} {xs : List It} (h : HighInv falls i xs) : HighInv falls (i + 1) (withF (highIt falls i) xs) := by
  refine ⟨by rw [with_len, h.1], fun y hy => ?_⟩
  rcases with_mem.1 hy with rfl | hy
  · exact ⟨i, by omega, rfl⟩
  · obtain ⟨j, hj, e⟩ := h.2 y hy
    exact ⟨j, by omega, e⟩

theorem high_last {falls : Bool} {k : Nat} {xs : List It} (hk : k ≤ 31) (h : HighInv falls (k + 1) xs) : insE (some xs) (200, 201, 0) = if k = 31 then 1703 else 0 := by
  have hn : ((200, 201, 0) : It) ∉ xs := by
    intro hx
    obtain ⟨j, hj, e⟩ := h.2 _ hx
    have e1 : (200 : Int) = highAt falls j := congrArg (fun p : It => p.1) e
    unfold highAt at e1
    cases falls <;> simp at e1 <;> omega
  have hi : itB (200, 201, 0) = true := by decide
  rw [insE, if_neg (by simp [hi]), if_neg hn, h.1]
  by_cases q : k = 31
  · rw [if_pos (by omega), if_pos q]
  · rw [if_neg (by omega), if_neg q]

/-- Where a tree with items hangs, and how high. -/
theorem top_in {ns : List Nd} {root : Int} {free : List Int} {xs : List It} (h : allF ns root free = some xs) (hx : 0 < xs.length) : 0 ≤ root ∧ root < ns.length ∧ (nd ns root.toNat).2.2.2.1 ≤ 6 := by
  obtain ⟨T, t, e⟩ := of_all h
  have hs := T.sum_len ns
  have ha := t.all
  have hf := t.few
  have hl : (T.sum ns).1.length ≤ 32 := by omega
  have low := Tr.low t.ok hl
  have ht := t.top
  have hok := t.ok
  cases T with
  | nil =>
    rw [← e] at hx
    simp [Tr.sum] at hx
  | node k l r =>
    obtain ⟨hk, _, _, hh, _, _⟩ := hok
    simp only [hangs, Bool.and_eq_true, decide_eq_true_eq] at hh
    simp only [Tr.top] at ht
    subst ht
    have e1 : ((k : Nat) : Int).toNat = k := by omega
    rw [e1]
    simp only [Tr.sum, topH] at low
    exact ⟨by omega, by omega, by omega⟩

/-- Items put in one by one: those that go in. -/
def putIn (xs : List It) (x : It) : List It := if insE (some xs) x = 0 then withF x xs else xs

theorem putIn_rises {xs : List It} {x : It} (h : rises xs = true) : rises (putIn xs x) = true := by
  unfold putIn
  by_cases q : insE (some xs) x = 0
  · rw [if_pos q]
    refine with_rises h fun hx => ?_
    rw [insE] at q
    by_cases h1 : itB x = false
    · rw [if_pos h1] at q; cases q
    · rw [if_neg h1, if_pos hx] at q; cases q
  · rw [if_neg q]; exact h

theorem putIn_len (xs : List It) (x : It) : (putIn xs x).length ≤ xs.length + 1 := by
  unfold putIn
  split
  · rw [with_len]; exact Nat.le_refl _
  · omega

theorem putIn_mem {xs : List It} {x y : It} (hl : xs.length < 32) : y ∈ putIn xs x ↔ y ∈ xs ∨ (y = x ∧ itB x = true) := by
  unfold putIn
  by_cases h1 : itB x = true
  · by_cases h2 : x ∈ xs
    · have e : insE (some xs) x = 1701 := by rw [insE, if_neg (by simp [h1]), if_pos h2]
      rw [e, if_neg (by decide)]
      constructor
      · exact .inl
      · rintro (h | ⟨rfl, _⟩)
        · exact h
        · exact h2
    · rw [ins_ok h1 h2 hl, if_pos rfl, with_mem]
      constructor
      · rintro (h | h)
        · exact .inr ⟨h, h1⟩
        · exact .inl h
      · rintro (h | ⟨h, _⟩)
        · exact .inr h
        · exact .inl h
  · have e : insE (some xs) x = 1700 := by rw [insE, if_pos (by simpa using h1)]
    rw [e, if_neg (by decide)]
    constructor
    · exact .inl
    · rintro (h | ⟨_, h⟩)
      · exact h
      · exact absurd h h1

def putAll (its : List It) : List It := its.foldl putIn []

theorem putAll_from : ∀ (its xs : List It), xs.length + its.length ≤ 32 → rises xs = true →
    rises (its.foldl putIn xs) = true ∧ (∀ y, y ∈ its.foldl putIn xs ↔ y ∈ xs ∨ (y ∈ its ∧ itB y = true))
  | [], xs, _, h => ⟨h, fun y => by simp⟩
  | x :: r, xs, hl, h => by
    simp only [List.length_cons] at hl
    have hlen := putIn_len xs x
    obtain ⟨h1, h2⟩ := putAll_from r (putIn xs x) (by omega) (putIn_rises h)
    refine ⟨h1, fun y => ?_⟩
    rw [List.foldl_cons, h2, putIn_mem (by omega), List.mem_cons]
    constructor
    · rintro ((h | ⟨rfl, h⟩) | ⟨h, k⟩)
      · exact .inl h
      · exact .inr ⟨.inl rfl, h⟩
      · exact .inr ⟨.inr h, k⟩
    · rintro (h | ⟨rfl | h, k⟩)
      · exact .inl (.inl h)
      · exact .inl (.inr ⟨rfl, k⟩)
      · exact .inr ⟨h, k⟩

/-- In whatever row they are put in, the same items are told. -/
theorem putAll_row {xs ys : List It} (h : (xs ++ ys).length ≤ 32) : putAll (ys ++ xs) = putAll (xs ++ ys) := by
  simp only [List.length_append] at h
  obtain ⟨a1, a2⟩ := putAll_from (ys ++ xs) [] (by simp; omega) rfl
  obtain ⟨b1, b2⟩ := putAll_from (xs ++ ys) [] (by simp; omega) rfl
  refine rises_one a1 b1 fun x => ?_
  rw [show putAll (ys ++ xs) = (ys ++ xs).foldl putIn [] from rfl, show putAll (xs ++ ys) = (xs ++ ys).foldl putIn [] from rfl] at *
  rw [a2, b2, List.mem_append, List.mem_append]
  constructor
  · rintro (h | ⟨h | h, k⟩)
    · exact .inl h
    · exact .inr ⟨.inr h, k⟩
    · exact .inr ⟨.inl h, k⟩
  · rintro (h | ⟨h | h, k⟩)
    · exact .inl h
    · exact .inr ⟨.inr h, k⟩
    · exact .inr ⟨.inl h, k⟩

end Go.Proofs.Ytgfehlmiejnonaa

set_option maxRecDepth 20000
namespace Go.Proofs.Ytgfehlmiejnonaa

theorem Tr.one {ns : List Nd} : ∀ {T U : Tr}, T.ok ns → U.ok ns → T.top = U.top → T = U
  | .nil, .nil, _, _, _ => rfl
  | .nil, .node k l r, _, _, h => by simp only [Tr.top] at h; omega
  | .node k l r, .nil, _, _, h => by simp only [Tr.top] at h; omega
  | .node k l r, .node j a b, ⟨_, t1, t2, _, okl, okr⟩, ⟨_, u1, u2, _, oka, okb⟩, h => by
    simp only [Tr.top] at h
    have e : k = j := by omega
    subst e
    rw [Tr.one okl oka (t1.symm.trans u1), Tr.one okr okb (t2.symm.trans u2)]

def hOf (ns : List Nd) (p : Int) : Int := if p = -1 then 0 else (nd ns p.toNat).2.2.2.1
def mOf (ns : List Nd) (p : Int) : Int := if p = -1 then 0 else (nd ns p.toNat).2.2.2.2
def dueH (ns : List Nd) (l r : Int) : Int := 1 + (if hOf ns l < hOf ns r then hOf ns r else hOf ns l)
def dueM (ns : List Nd) (q l r : Int) : Int := if (if q < mOf ns l then mOf ns l else q) < mOf ns r then mOf ns r else (if q < mOf ns l then mOf ns l else q)

theorem Tr.hm {ns : List Nd} : ∀ {T : Tr}, T.ok ns → hOf ns T.top = (T.sum ns).2.1 ∧ mOf ns T.top = (T.sum ns).2.2
  | .nil, _ => ⟨rfl, rfl⟩
  | .node k l r, ⟨_, _, _, hh, _, _⟩ => by
    simp only [hangs, Bool.and_eq_true, decide_eq_true_eq] at hh
    have e : ((k : Nat) : Int).toNat = k := by omega
    constructor
    · rw [hOf, Tr.top, if_neg (by omega), e]
      exact hh.2.2.2.1
    · rw [mOf, Tr.top, if_neg (by omega), e]
      exact hh.2.2.2.2

theorem Tr.top_in {ns : List Nd} : ∀ {T : Tr}, T.ok ns → -1 ≤ T.top ∧ T.top < ns.length
  | .nil, _ => by simp only [Tr.top]; omega
  | .node k l r, ⟨hk, _⟩ => by simp only [Tr.top]; omega

theorem Tr.h_bd {ns : List Nd} {T : Tr} (h : T.ok ns) : 0 ≤ (T.sum ns).2.1 ∧ (T.sum ns).2.1 ≤ (T.sum ns).1.length := by
  obtain ⟨a, ea, la⟩ := Tr.high h
  have : ∀ n : Nat, n ≤ lo n := by
    intro n
    induction n using lo.induct with
    | case1 => simp
    | case2 => simp [lo]
    | case3 n ih1 ih2 => rw [lo]; omega
  have := this a
  omega

theorem due_is (ns : List Nd) {l r : Tr} (hl : l.ok ns) (hr : r.ok ns) (q : Int) : dueH ns l.top r.top = max (l.sum ns).2.1 (r.sum ns).2.1 + 1 ∧ dueM ns q l.top r.top = max (max (l.sum ns).2.2 (r.sum ns).2.2) q := by
  obtain ⟨a1, a2⟩ := Tr.hm hl
  obtain ⟨b1, b2⟩ := Tr.hm hr
  unfold dueH dueM
  rw [a1, a2, b1, b2]
  constructor
  · split <;> omega
  · split <;> split <;> omega

/-- Whether a Node stands right above two trees, told by what it holds. -/
def standB (ns : List Nd) (x : Nd) : Bool := decide (-1 ≤ hOf ns x.2.1 - hOf ns x.2.2.1) && (decide (hOf ns x.2.1 - hOf ns x.2.2.1 ≤ 1) && (decide (x.2.2.2.1 = dueH ns x.2.1 x.2.2.1) && decide (x.2.2.2.2 = dueM ns x.1.2.1 x.2.1 x.2.2.1)))

theorem stand_is {ns : List Nd} {x : Nd} {l r : Tr} (hl : l.ok ns) (hr : r.ok ns) (e1 : x.2.1 = l.top) (e2 : x.2.2.1 = r.top) : hangs x (l.sum ns) (r.sum ns) = (itB x.1 && standB ns x) := by
  obtain ⟨d1, d2⟩ := due_is ns hl hr x.1.2.1
  obtain ⟨a1, _⟩ := Tr.hm hl
  obtain ⟨b1, _⟩ := Tr.hm hr
  rw [hangs, standB, e1, e2, d1, d2, a1, b1]
  congr 1
  rw [Bool.eq_iff_iff]
  simp only [Bool.and_eq_true, decide_eq_true_eq]
  omega

def lastOf (a : It) (xs : List It) : It := xs.getLast?.getD a

theorem lastOf_nil (a : It) : lastOf a [] = a := rfl
theorem lastOf_app (a b : It) (xs ys : List It) : lastOf a (xs ++ b :: ys) = lastOf b ys := by
  unfold lastOf
  rw [List.getLast?_append]
  cases ys with
  | nil => simp
  | cons c r => simp [List.getLast?_cons]
theorem lastOf_cons (a b : It) (ys : List It) : lastOf a (b :: ys) = lastOf b ys := lastOf_app a b [] ys

theorem from_app : ∀ (a b : It) (xs ys : List It), risesFrom a (xs ++ b :: ys) = (risesFrom a xs && (lessB (lastOf a xs) b && risesFrom b ys))
  | a, b, [], ys => by simp [risesFrom, lastOf]
  | a, b, c :: r, ys => by
    rw [List.cons_append, risesFrom, from_app, risesFrom, lastOf_cons, Bool.and_assoc]

/-- A tree that hangs at a place and goes on behind an item. -/
structure Good (ns : List Nd) (p : Int) (s : List Bool) (a : It) (T : Tr) : Prop where
  top : T.top = p
  ok : T.ok ns
  once : T.places.Nodup
  new : ∀ k ∈ T.places, marked s k = false
  row : risesFrom a (T.sum ns).1 = true

theorem Good.left {ns : List Nd} {k : Nat} {s : List Bool} {a : It} {l r : Tr} (h : Good ns (k : Nat) s a (.node k l r)) (hs : s.length = ns.length) : Good ns (nd ns k).2.1 (s.set k true) a l := by
  obtain ⟨_, ⟨hk, e1, e2, hh, okl, okr⟩, on, nw, rw_⟩ := h
  simp only [Tr.places, List.nodup_cons, List.mem_append, List.nodup_append] at on
  refine ⟨e1.symm, okl, on.2.1, fun j hj => ?_, ?_⟩
  · have h := nw j (by simp [Tr.places, hj])
    have := Tr.ok_in okl j hj
    rw [marked_set (by omega), h]
    simp
    rintro rfl
    exact on.1 (.inl hj)
  · simp only [Tr.sum, topH, from_app, Bool.and_eq_true] at rw_
    exact rw_.1

theorem Good.mid {ns : List Nd} {k : Nat} {s : List Bool} {a : It} {l r : Tr} (h : Good ns (k : Nat) s a (.node k l r)) : itB (nd ns k).1 = true ∧ lessB (lastOf a (l.sum ns).1) (nd ns k).1 = true ∧ standB ns (nd ns k) = true := by
  obtain ⟨_, ⟨hk, e1, e2, hh, okl, okr⟩, on, nw, rw_⟩ := h
  rw [stand_is okl okr e1 e2, Bool.and_eq_true] at hh
  simp only [Tr.sum, topH, from_app, Bool.and_eq_true] at rw_
  exact ⟨hh.1, rw_.2.1, hh.2⟩

theorem Good.right {ns : List Nd} {k : Nat} {s t : List Bool} {a : It} {l r : Tr} (h : Good ns (k : Nat) s a (.node k l r)) (hs : s.length = ns.length) (ht : Marks (s.set k true) l.places t) : Good ns (nd ns k).2.2.1 t (nd ns k).1 r := by
  obtain ⟨_, ⟨hk, e1, e2, hh, okl, okr⟩, on, nw, rw_⟩ := h
  simp only [Tr.places, List.nodup_cons, List.mem_append, List.nodup_append] at on
  refine ⟨e2.symm, okr, on.2.2.1, fun j hj => ?_, ?_⟩
  · have h := nw j (by simp [Tr.places, hj])
    have := Tr.ok_in okr j hj
    rw [ht.2 j (by simp; omega), marked_set (by omega), h]
    have q1 : ¬ j = k := by
      rintro rfl
      exact on.1 (.inr hj)
    have q2 : ¬ j ∈ l.places := fun q => on.2.2.2 j q j hj rfl
    simp [q1, q2]
  · simp only [Tr.sum, topH, from_app, Bool.and_eq_true] at rw_
    exact rw_.2.2

theorem Good.node {ns : List Nd} {k : Nat} {s t u : List Bool} {a : It} {l r : Tr} (hk : k < ns.length) (hs : s.length = ns.length) (hm : marked s k = false) (h : Good ns (nd ns k).2.1 (s.set k true) a l) (ht : Marks (s.set k true) l.places t) (h1 : itB (nd ns k).1 = true) (h2 : lessB (lastOf a (l.sum ns).1) (nd ns k).1 = true)
    (g : Good ns (nd ns k).2.2.1 t (nd ns k).1 r) (hu : Marks t r.places u) (h3 : standB ns (nd ns k) = true) :
    Good ns (k : Nat) s a (.node k l r) ∧ Marks s (Tr.node k l r).places u ∧ lastOf a ((Tr.node k l r).sum ns).1 = lastOf (nd ns k).1 (r.sum ns).1 := by
  refine ⟨⟨rfl, ⟨hk, h.top.symm, g.top.symm, ?_, h.ok, g.ok⟩, ?_, ?_, ?_⟩, ⟨?_, ?_⟩, ?_⟩
  · rw [stand_is h.ok g.ok h.top.symm g.top.symm, h1, h3]
    rfl
  · simp only [Tr.places, List.nodup_cons, List.mem_append, List.nodup_append]
    refine ⟨?_, h.once, g.once, ?_⟩
    · rintro (q | q)
      · have := h.new k q
        rw [marked_set (by omega)] at this
        simp at this
      · have := g.new k q
        rw [ht.2 k (by simp; omega), marked_set (by omega)] at this
        simp at this
    · rintro i hi j hj rfl
      have := g.new i hj
      have hin := Tr.ok_in h.ok i hi
      rw [ht.2 i (by simp; omega)] at this
      simp [hi] at this
  · intro j hj
    simp only [Tr.places, List.mem_cons, List.mem_append] at hj
    rcases hj with rfl | hj | hj
    · exact hm
    · have q := h.new j hj
      have hin := Tr.ok_in h.ok j hj
      rw [marked_set (by omega)] at q
      simp at q
      exact q.1
    · have q := g.new j hj
      have hin := Tr.ok_in g.ok j hj
      rw [ht.2 j (by simp; omega), marked_set (by omega)] at q
      simp at q
      exact q.1.1
  · simp only [Tr.sum, topH, from_app, h.row, h2, g.row, Bool.and_self]
  · rw [hu.1, ht.1]
    simp
  · intro j hj
    rw [hu.2 j (by rw [ht.1]; simpa using hj), ht.2 j (by simpa using hj), marked_set hj]
    simp only [Tr.places, List.mem_cons, List.mem_append]
    cases marked s j <;> simp [Bool.or_assoc]
  · simp only [Tr.sum, topH]
    rw [lastOf_app]

theorem Good.is {ns : List Nd} {k : Nat} {s : List Bool} {a : It} {T : Tr} (h : Good ns (k : Nat) s a T) : ∃ l r, T = .node k l r := by
  cases T with
  | nil =>
    have := h.top
    simp only [Tr.top] at this
    omega
  | node j l r =>
    have := h.top
    simp only [Tr.top] at this
    have e : j = k := by omega
    subst e
    exact ⟨l, r, rfl⟩

end Go.Proofs.Ytgfehlmiejnonaa

set_option maxRecDepth 20000
namespace Go.Proofs.Ytgfehlmiejnonaa

/-- The same nodes but at some places. -/
structure SameN (ns ns' : List Nd) (S : Nat → Prop) : Prop where
  len : ns'.length = ns.length
  at_ : ∀ i, ¬ S i → nd ns' i = nd ns i

theorem SameN.refl (ns : List Nd) (S : Nat → Prop) : SameN ns ns S := ⟨rfl, fun _ _ => rfl⟩
theorem SameN.trans {a b c : List Nd} {S : Nat → Prop} (h : SameN a b S) (k : SameN b c S) : SameN a c S := ⟨k.len.trans h.len, fun i hi => (k.at_ i hi).trans (h.at_ i hi)⟩
theorem SameN.wide {a b : List Nd} {S T : Nat → Prop} (h : SameN a b S) (k : ∀ i, S i → T i) : SameN a b T := ⟨h.len, fun i hi => h.at_ i (fun e => hi (k i e))⟩

theorem nd_set {ns : List Nd} {k : Nat} (hk : k < ns.length) (x : Nd) (i : Nat) : nd (ns.set k x) i = if i = k then x else nd ns i := by
  unfold nd
  rw [List.getElem?_set]
  by_cases h : k = i
  · subst h
    simp [hk]
  · have : ¬ i = k := fun e => h e.symm
    simp [h, this]
theorem nd_here {ns : List Nd} {k : Nat} (hk : k < ns.length) (x : Nd) : nd (ns.set k x) k = x := by rw [nd_set hk, if_pos rfl]
theorem nd_else {ns : List Nd} {k i : Nat} (h : i ≠ k) (x : Nd) : nd (ns.set k x) i = nd ns i := by
  unfold nd
  rw [List.getElem?_set, if_neg (fun e => h e.symm)]
theorem SameN.set {ns : List Nd} {k : Nat} {x : Nd} {S : Nat → Prop} (h : S k) : SameN ns (ns.set k x) S := ⟨List.length_set, fun i hi => nd_else (fun e => hi (by rw [e]; exact h)) x⟩

theorem Tr.same {ns ns' : List Nd} (hl : ns'.length = ns.length) : ∀ {T : Tr}, T.ok ns → (∀ i ∈ T.places, nd ns' i = nd ns i) → T.ok ns' ∧ T.sum ns' = T.sum ns
  | .nil, _, _ => ⟨trivial, rfl⟩
  | .node k l r, ⟨hk, e1, e2, hh, okl, okr⟩, h => by
    have hk' := h k (by simp [Tr.places])
    obtain ⟨a1, a2⟩ := Tr.same hl okl (fun i hi => h i (by simp [Tr.places, hi]))
    obtain ⟨b1, b2⟩ := Tr.same hl okr (fun i hi => h i (by simp [Tr.places, hi]))
    refine ⟨⟨by omega, by rw [hk']; exact e1, by rw [hk']; exact e2, by rw [hk', a2, b2]; exact hh, a1, b1⟩, ?_⟩
    rw [Tr.sum, Tr.sum, hk', a2, b2]

theorem Tr.off {ns ns' : List Nd} {S : Nat → Prop} (h : SameN ns ns' S) {T : Tr} (ok : T.ok ns) (hs : ∀ i ∈ T.places, ¬ S i) : T.ok ns' ∧ T.sum ns' = T.sum ns := Tr.same h.len ok fun i hi => h.at_ i (hs i hi)

theorem due_max (ns : List Nd) (q a b : Int) : dueH ns a b = max (hOf ns a) (hOf ns b) + 1 ∧ dueM ns q a b = max (max (mOf ns a) (mOf ns b)) q := by
  unfold dueH dueM
  constructor
  · split <;> omega
  · split <;> split <;> omega

/-- A Node right above what hangs at two places. -/
def dueN (x : It) (a b : Int) (g h : Hg) : Nd := (x, a, b, max g.2.1 h.2.1 + 1, max (max g.2.2 h.2.2) x.2.1)
def sumN (x : It) (g h : Hg) : Hg := (g.1 ++ x :: h.1, max g.2.1 h.2.1 + 1, max (max g.2.2 h.2.2) x.2.1)

def settleF (ns : List Nd) (k : Nat) : List Nd := ns.set k ((nd ns k).1, (nd ns k).2.1, (nd ns k).2.2.1, dueH ns (nd ns k).2.1 (nd ns k).2.2.1, dueM ns (nd ns k).1.2.1 (nd ns k).2.1 (nd ns k).2.2.1)
def setL (ns : List Nd) (k : Nat) (a : Int) : List Nd := ns.set k ((nd ns k).1, a, (nd ns k).2.2)
def setR (ns : List Nd) (k : Nat) (b : Int) : List Nd := ns.set k ((nd ns k).1, (nd ns k).2.1, b, (nd ns k).2.2.2)
def raiseLF (ns : List Nd) (k t : Nat) : List Nd := settleF (settleF (setR (setL ns k (nd ns t).2.2.1) t k) k) t
def raiseRF (ns : List Nd) (k t : Nat) : List Nd := settleF (settleF (setL (setR ns k (nd ns t).2.1) t k) k) t

theorem settle_len (ns : List Nd) (k : Nat) : (settleF ns k).length = ns.length := List.length_set
theorem setL_len (ns : List Nd) (k : Nat) (a : Int) : (setL ns k a).length = ns.length := List.length_set
theorem setR_len (ns : List Nd) (k : Nat) (a : Int) : (setR ns k a).length = ns.length := List.length_set

theorem settle_by {ns : List Nd} {k : Nat} {a b : Int} {g h : Hg} (ea : (nd ns k).2.1 = a) (eb : (nd ns k).2.2.1 = b) (ha : hOf ns a = g.2.1 ∧ mOf ns a = g.2.2) (hb : hOf ns b = h.2.1 ∧ mOf ns b = h.2.2) : settleF ns k = ns.set k (dueN (nd ns k).1 a b g h) := by
  obtain ⟨d1, d2⟩ := due_max ns (nd ns k).1.2.1 a b
  rw [settleF, ea, eb, d1, d2, ha.1, ha.2, hb.1, hb.2]
  rfl

theorem hm_here {ns : List Nd} {k : Nat} {x : It} {a b : Int} {g h : Hg} (e : nd ns k = dueN x a b g h) : hOf ns (k : Nat) = (sumN x g h).2.1 ∧ mOf ns (k : Nat) = (sumN x g h).2.2 := by
  unfold hOf mOf
  rw [if_neg (by omega), if_neg (by omega), Int.toNat_natCast, e]
  exact ⟨rfl, rfl⟩

/-- Two Nodes, one of them raised on top of the other one. -/
structure RaiseIs (ns : List Nd) (k t : Nat) (kn tn : Nd) (ns' : List Nd) : Prop where
  same : SameN ns ns' (fun i => i = k ∨ i = t)
  atK : nd ns' k = kn
  atT : nd ns' t = tn

structure RaisePre (ns : List Nd) (k t : Nat) (A B C : Tr) : Prop where
  hk : k < ns.length
  ht : t < ns.length
  ne : k ≠ t
  okA : A.ok ns
  okB : B.ok ns
  okC : C.ok ns
  offK : k ∉ A.places ∧ k ∉ B.places ∧ k ∉ C.places
  offT : t ∉ A.places ∧ t ∉ B.places ∧ t ∉ C.places

theorem RaisePre.keep {ns ns' : List Nd} {k t : Nat} {A B C : Tr} (h : RaisePre ns k t A B C) (s : SameN ns ns' (fun i => i = k ∨ i = t)) :
    (A.ok ns' ∧ A.sum ns' = A.sum ns) ∧ (B.ok ns' ∧ B.sum ns' = B.sum ns) ∧ (C.ok ns' ∧ C.sum ns' = C.sum ns) := by
  refine ⟨Tr.off s h.okA ?_, Tr.off s h.okB ?_, Tr.off s h.okC ?_⟩
  · rintro i hi (rfl | rfl)
    · exact h.offK.1 hi
    · exact h.offT.1 hi
  · rintro i hi (rfl | rfl)
    · exact h.offK.2.1 hi
    · exact h.offT.2.1 hi
  · rintro i hi (rfl | rfl)
    · exact h.offK.2.2 hi
    · exact h.offT.2.2 hi

theorem hm_of {ns ns' : List Nd} {T : Tr} (h : T.ok ns' ∧ T.sum ns' = T.sum ns) : hOf ns' T.top = (T.sum ns).2.1 ∧ mOf ns' T.top = (T.sum ns).2.2 := by
  obtain ⟨a, b⟩ := Tr.hm h.1
  rw [h.2] at a b
  exact ⟨a, b⟩

/-- What one settled Node asks, and the other one. -/
def MidIs (n1 n2 : List Nd) (k t : Nat) (a b c d : Int) (A B C D : Int) : Prop :=
  ((nd n1 k).2.1 = a ∧ (nd n1 k).2.2.1 = b ∧ hOf n1 a = A ∧ hOf n1 b = B) ∧ ((nd n2 t).2.1 = c ∧ (nd n2 t).2.2.1 = d ∧ hOf n2 c = C ∧ hOf n2 d = D)

theorem raiseL_is {ns : List Nd} {k t : Nat} {A B C : Tr} (h : RaisePre ns k t A B C) (r1 : (nd ns k).2.2.1 = C.top) (l2 : (nd ns t).2.1 = A.top) (r2 : (nd ns t).2.2.1 = B.top) :
    RaiseIs ns k t (dueN (nd ns k).1 B.top C.top (B.sum ns) (C.sum ns)) (dueN (nd ns t).1 A.top k (A.sum ns) (sumN (nd ns k).1 (B.sum ns) (C.sum ns))) (raiseLF ns k t) ∧
    MidIs (setR (setL ns k (nd ns t).2.2.1) t k) (settleF (setR (setL ns k (nd ns t).2.2.1) t k) k) k t B.top C.top A.top k (B.sum ns).2.1 (C.sum ns).2.1 (A.sum ns).2.1 (max (B.sum ns).2.1 (C.sum ns).2.1 + 1) := by
  have hk := h.hk
  have ht := h.ht
  have ne := h.ne
  have ne' : t ≠ k := fun e => ne e.symm
  obtain ⟨n1, e1⟩ : ∃ n1, setR (setL ns k (nd ns t).2.2.1) t k = n1 := ⟨_, rfl⟩
  have s1 : SameN ns n1 (fun i => i = k ∨ i = t) := by rw [← e1]; exact (SameN.set (.inl rfl)).trans (SameN.set (.inr rfl))
  have k1 : nd n1 k = ((nd ns k).1, B.top, C.top, (nd ns k).2.2.2) := by
    rw [← e1, setR, nd_else ne, setL, nd_here hk, r2]
    have : (nd ns k).2.2 = (C.top, (nd ns k).2.2.2) := by rw [← r1]
    rw [this]
  have t1 : nd n1 t = ((nd ns t).1, A.top, (k : Int), (nd ns t).2.2.2) := by
    rw [← e1, setR, nd_here (by rw [setL_len]; exact ht), setL, nd_else ne', l2]
  obtain ⟨qa, qb, qc⟩ := h.keep s1
  have e2 := settle_by (ns := n1) (k := k) (a := B.top) (b := C.top) (g := B.sum ns) (h := C.sum ns) (by rw [k1]) (by rw [k1]) (hm_of qb) (hm_of qc)
  rw [k1] at e2
  obtain ⟨n2, e3⟩ : ∃ n2, settleF n1 k = n2 := ⟨_, rfl⟩
  have s2 : SameN ns n2 (fun i => i = k ∨ i = t) := by rw [← e3]; exact s1.trans (SameN.set (.inl rfl))
  have k2 : nd n2 k = dueN (nd ns k).1 B.top C.top (B.sum ns) (C.sum ns) := by rw [← e3, e2, nd_here (by rw [s1.len]; exact hk)]
  have t2 : nd n2 t = ((nd ns t).1, A.top, (k : Int), (nd ns t).2.2.2) := by rw [← e3, e2, nd_else ne', t1]
  obtain ⟨pa, pb, pc⟩ := h.keep s2
  have e4 := settle_by (ns := n2) (k := t) (a := A.top) (b := k) (g := A.sum ns) (h := sumN (nd ns k).1 (B.sum ns) (C.sum ns)) (by rw [t2]) (by rw [t2]) (hm_of pa) (hm_here k2)
  rw [t2] at e4
  have e5 : raiseLF ns k t = settleF n2 t := by rw [raiseLF, e1, e3]
  rw [e5, e1, e3]
  refine ⟨⟨s2.trans (SameN.set (.inr rfl)), ?_, ?_⟩, ⟨by rw [k1], by rw [k1], (hm_of qb).1, (hm_of qc).1⟩, by rw [t2], by rw [t2], (hm_of pa).1, (hm_here k2).1⟩
  · rw [e4, nd_else ne, k2]
  · rw [e4, nd_here (by rw [s2.len]; exact ht)]

theorem raiseR_is {ns : List Nd} {k t : Nat} {A B C : Tr} (h : RaisePre ns k t A B C) (l1 : (nd ns k).2.1 = A.top) (l2 : (nd ns t).2.1 = B.top) (r2 : (nd ns t).2.2.1 = C.top) :
    RaiseIs ns k t (dueN (nd ns k).1 A.top B.top (A.sum ns) (B.sum ns)) (dueN (nd ns t).1 k C.top (sumN (nd ns k).1 (A.sum ns) (B.sum ns)) (C.sum ns)) (raiseRF ns k t) ∧
    MidIs (setL (setR ns k (nd ns t).2.1) t k) (settleF (setL (setR ns k (nd ns t).2.1) t k) k) k t A.top B.top k C.top (A.sum ns).2.1 (B.sum ns).2.1 (max (A.sum ns).2.1 (B.sum ns).2.1 + 1) (C.sum ns).2.1 := by
  have hk := h.hk
  have ht := h.ht
  have ne := h.ne
  have ne' : t ≠ k := fun e => ne e.symm
  obtain ⟨n1, e1⟩ : ∃ n1, setL (setR ns k (nd ns t).2.1) t k = n1 := ⟨_, rfl⟩
  have s1 : SameN ns n1 (fun i => i = k ∨ i = t) := by rw [← e1]; exact (SameN.set (.inl rfl)).trans (SameN.set (.inr rfl))
  have k1 : nd n1 k = ((nd ns k).1, A.top, B.top, (nd ns k).2.2.2) := by
    rw [← e1, setL, nd_else ne, setR, nd_here hk, l2, l1]
  have t1 : nd n1 t = ((nd ns t).1, (k : Int), C.top, (nd ns t).2.2.2) := by
    rw [← e1, setL, nd_here (by rw [setR_len]; exact ht), setR, nd_else ne']
    have : (nd ns t).2.2 = (C.top, (nd ns t).2.2.2) := by rw [← r2]
    rw [this]
  obtain ⟨qa, qb, qc⟩ := h.keep s1
  have e2 := settle_by (ns := n1) (k := k) (a := A.top) (b := B.top) (g := A.sum ns) (h := B.sum ns) (by rw [k1]) (by rw [k1]) (hm_of qa) (hm_of qb)
  rw [k1] at e2
  obtain ⟨n2, e3⟩ : ∃ n2, settleF n1 k = n2 := ⟨_, rfl⟩
  have s2 : SameN ns n2 (fun i => i = k ∨ i = t) := by rw [← e3]; exact s1.trans (SameN.set (.inl rfl))
  have k2 : nd n2 k = dueN (nd ns k).1 A.top B.top (A.sum ns) (B.sum ns) := by rw [← e3, e2, nd_here (by rw [s1.len]; exact hk)]
  have t2 : nd n2 t = ((nd ns t).1, (k : Int), C.top, (nd ns t).2.2.2) := by rw [← e3, e2, nd_else ne', t1]
  obtain ⟨pa, pb, pc⟩ := h.keep s2
  have e4 := settle_by (ns := n2) (k := t) (a := k) (b := C.top) (g := sumN (nd ns k).1 (A.sum ns) (B.sum ns)) (h := C.sum ns) (by rw [t2]) (by rw [t2]) (hm_here k2) (hm_of pc)
  rw [t2] at e4
  have e5 : raiseRF ns k t = settleF n2 t := by rw [raiseRF, e1, e3]
  rw [e5, e1, e3]
  refine ⟨⟨s2.trans (SameN.set (.inr rfl)), ?_, ?_⟩, ⟨by rw [k1], by rw [k1], (hm_of qa).1, (hm_of qb).1⟩, by rw [t2], by rw [t2], (hm_here k2).1, (hm_of pc).1⟩
  · rw [e4, nd_else ne, k2]
  · rw [e4, nd_here (by rw [s2.len]; exact ht)]

theorem node_ok {ns : List Nd} {k : Nat} {x : It} {l r : Tr} {g h : Hg} (hk : k < ns.length) (e : nd ns k = dueN x l.top r.top g h) (hl : l.ok ns ∧ l.sum ns = g) (hr : r.ok ns ∧ r.sum ns = h) (hx : itB x = true) (b1 : g.2.1 - h.2.1 ≤ 1) (b2 : h.2.1 - g.2.1 ≤ 1) :
    (Tr.node k l r).ok ns ∧ (Tr.node k l r).sum ns = sumN x g h := by
  obtain ⟨hl, rfl⟩ := hl
  obtain ⟨hr, rfl⟩ := hr
  refine ⟨⟨hk, by rw [e]; rfl, by rw [e]; rfl, ?_, hl, hr⟩, ?_⟩
  · rw [e, hangs]
    simp only [dueN, Bool.and_eq_true, decide_eq_true_eq]
    refine ⟨hx, b1, b2, ?_⟩
    simp
  · rw [Tr.sum, e]
    rfl

/-- What even asks. -/
structure EvenPre (ns : List Nd) (k : Nat) (l r : Tr) : Prop where
  few : ns.length ≤ 32
  hk : k < ns.length
  left : (nd ns k).2.1 = l.top
  right : (nd ns k).2.2.1 = r.top
  okl : l.ok ns
  okr : r.ok ns
  once : (k :: (l.places ++ r.places)).Nodup
  it : itB (nd ns k).1 = true
  lean1 : (l.sum ns).2.1 - (r.sum ns).2.1 ≤ 2
  lean2 : (r.sum ns).2.1 - (l.sum ns).2.1 ≤ 2

/-- What even leaves. -/
structure EvenIs (ns : List Nd) (k : Nat) (l r : Tr) (ns' : List Nd) (T : Tr) : Prop where
  ok : T.ok ns'
  perm : T.places.Perm (k :: (l.places ++ r.places))
  same : SameN ns ns' (fun i => i ∈ k :: (l.places ++ r.places))
  row : (T.sum ns').1 = (l.sum ns).1 ++ (nd ns k).1 :: (r.sum ns).1
  low : (l.sum ns).2.1 ≤ (T.sum ns').2.1 ∧ (r.sum ns).2.1 ≤ (T.sum ns').2.1
  high : (T.sum ns').2.1 ≤ max (l.sum ns).2.1 (r.sum ns).2.1 + 1
  flat : (l.sum ns).2.1 - (r.sum ns).2.1 ≤ 1 → (r.sum ns).2.1 - (l.sum ns).2.1 ≤ 1 → (T.sum ns').2.1 = max (l.sum ns).2.1 (r.sum ns).2.1 + 1

theorem EvenPre.offs {ns : List Nd} {k : Nat} {l r : Tr} (h : EvenPre ns k l r) : k ∉ l.places ∧ k ∉ r.places ∧ l.places.Nodup ∧ r.places.Nodup ∧ ∀ i ∈ l.places, i ∉ r.places := by
  have := h.once
  simp only [List.nodup_cons, List.mem_append, List.nodup_append] at this
  exact ⟨fun e => this.1 (.inl e), fun e => this.1 (.inr e), this.2.1, this.2.2.1, fun i hi hj => this.2.2.2 i hi i hj rfl⟩

/-- Nothing is to be raised. -/
theorem even_flat {ns : List Nd} {k : Nat} {l r : Tr} (h : EvenPre ns k l r) (b1 : (l.sum ns).2.1 - (r.sum ns).2.1 ≤ 1) (b2 : (r.sum ns).2.1 - (l.sum ns).2.1 ≤ 1) : EvenIs ns k l r (settleF ns k) (.node k l r) := by
  obtain ⟨o1, o2, _⟩ := h.offs
  have e := settle_by (ns := ns) (k := k) h.left h.right (Tr.hm h.okl) (Tr.hm h.okr)
  have s : SameN ns (settleF ns k) (fun i => i = k) := SameN.set rfl
  have ql := Tr.off s h.okl (fun i hi e => o1 (e ▸ hi))
  have qr := Tr.off s h.okr (fun i hi e => o2 (e ▸ hi))
  obtain ⟨n1, n2⟩ := node_ok (ns := settleF ns k) (k := k) (x := (nd ns k).1) (l := l) (r := r) (by rw [settle_len]; exact h.hk) (by rw [e, nd_here h.hk]) ql qr h.it b1 b2
  refine ⟨n1, List.Perm.refl _, s.wide (by rintro i rfl; simp), by rw [n2]; rfl, ?_, ?_, ?_⟩
  · rw [n2]
    simp only [sumN]
    omega
  · rw [n2]
    exact Int.le_refl _
  · rw [n2]
    intro _ _
    rfl

theorem hang_parts {ns : List Nd} {t : Nat} {A B : Tr} (h : (Tr.node t A B).ok ns) : itB (nd ns t).1 = true ∧ (A.sum ns).2.1 - (B.sum ns).2.1 ≤ 1 ∧ (B.sum ns).2.1 - (A.sum ns).2.1 ≤ 1 ∧ ((Tr.node t A B).sum ns).2.1 = max (A.sum ns).2.1 (B.sum ns).2.1 + 1 ∧ t < ns.length ∧ (nd ns t).2.1 = A.top ∧ (nd ns t).2.2.1 = B.top ∧ A.ok ns ∧ B.ok ns := by
  obtain ⟨hk, h1, h2, hh, a, b⟩ := h
  simp only [hangs, Bool.and_eq_true, decide_eq_true_eq] at hh
  exact ⟨hh.1, hh.2.1, hh.2.2.1, rfl, hk, h1, h2, a, b⟩

theorem perm_of {xs ys : List Nat} (h : ∀ a, List.count a xs = List.count a ys) : xs.Perm ys := List.perm_iff_count.2 h

/-- The Left is raised. -/
theorem even_ll {ns : List Nd} {k t : Nat} {A B r : Tr} (h : EvenPre ns k (.node t A B) r) (b : (r.sum ns).2.1 + 1 < ((Tr.node t A B).sum ns).2.1) (c : (B.sum ns).2.1 ≤ (A.sum ns).2.1) :
    RaisePre ns k t A B r ∧ EvenIs ns k (.node t A B) r (raiseLF ns k t) (.node t A (.node k B r)) := by
  obtain ⟨o1, o2, o3, o4, o5⟩ := h.offs
  obtain ⟨p1, p2, p3, p4, p5, p6, p7, p8, p9⟩ := hang_parts h.okl
  have hle := h.lean1
  have hli := h.left
  have hri := h.right
  simp only [Tr.places, List.mem_cons, List.mem_append, List.nodup_cons, List.nodup_append] at o1 o3 o5
  simp only [Tr.top] at hli
  have q : RaisePre ns k t A B r := ⟨h.hk, p5, fun e => o1 (.inl e), p8, p9, h.okr, ⟨fun e => o1 (.inr (.inl e)), fun e => o1 (.inr (.inr e)), o2⟩, ⟨fun e => o3.1 (.inl e), fun e => o3.1 (.inr e), fun e => o5 t (.inl rfl) e⟩⟩
  obtain ⟨⟨s, ek, et⟩, _⟩ := raiseL_is q hri p6 p7
  obtain ⟨qa, qb, qc⟩ := q.keep s
  obtain ⟨k1, k2⟩ := node_ok (ns := raiseLF ns k t) (k := k) (x := (nd ns k).1) (l := B) (r := r) (by rw [s.len]; exact h.hk) ek qb qc h.it (by omega) (by omega)
  obtain ⟨t1, t2⟩ := node_ok (ns := raiseLF ns k t) (k := t) (x := (nd ns t).1) (l := A) (r := .node k B r) (by rw [s.len]; exact p5) et qa ⟨k1, k2⟩ p1 (by simp only [sumN]; omega) (by simp only [sumN]; omega)
  refine ⟨q, t1, perm_of fun a => ?_, s.wide ?_, ?_, ?_, ?_, ?_⟩
  · simp only [Tr.places, List.count_cons, List.count_append, List.cons_append]
    omega
  · rintro i (rfl | rfl) <;> simp [Tr.places]
  · rw [t2]
    simp [sumN, Tr.sum, topH]
  · rw [t2]
    simp only [sumN]
    omega
  · rw [t2]
    simp only [sumN]
    omega
  · intro h1
    omega

/-- The Right is raised. -/
theorem even_rr {ns : List Nd} {k t : Nat} {A B l : Tr} (h : EvenPre ns k l (.node t A B)) (b : (l.sum ns).2.1 + 1 < ((Tr.node t A B).sum ns).2.1) (c : (A.sum ns).2.1 ≤ (B.sum ns).2.1) :
    RaisePre ns k t l A B ∧ EvenIs ns k l (.node t A B) (raiseRF ns k t) (.node t (.node k l A) B) := by
  obtain ⟨o1, o2, o3, o4, o5⟩ := h.offs
  obtain ⟨p1, p2, p3, p4, p5, p6, p7, p8, p9⟩ := hang_parts h.okr
  have hle := h.lean2
  have hli := h.left
  have hri := h.right
  simp only [Tr.places, List.mem_cons, List.mem_append, List.nodup_cons, List.nodup_append] at o2 o4 o5
  simp only [Tr.top] at hri
  have q : RaisePre ns k t l A B := ⟨h.hk, p5, fun e => o2 (.inl e), h.okl, p8, p9, ⟨o1, fun e => o2 (.inr (.inl e)), fun e => o2 (.inr (.inr e))⟩, ⟨fun e => o5 t e (.inl rfl), fun e => o4.1 (.inl e), fun e => o4.1 (.inr e)⟩⟩
  obtain ⟨⟨s, ek, et⟩, _⟩ := raiseR_is q hli p6 p7
  obtain ⟨qa, qb, qc⟩ := q.keep s
  obtain ⟨k1, k2⟩ := node_ok (ns := raiseRF ns k t) (k := k) (x := (nd ns k).1) (l := l) (r := A) (by rw [s.len]; exact h.hk) ek qa qb h.it (by omega) (by omega)
  obtain ⟨t1, t2⟩ := node_ok (ns := raiseRF ns k t) (k := t) (x := (nd ns t).1) (l := .node k l A) (r := B) (by rw [s.len]; exact p5) et ⟨k1, k2⟩ qc p1 (by simp only [sumN]; omega) (by simp only [sumN]; omega)
  refine ⟨q, t1, perm_of fun a => ?_, s.wide ?_, ?_, ?_, ?_, ?_⟩
  · simp only [Tr.places, List.count_cons, List.count_append, List.cons_append]
    omega
  · rintro i (rfl | rfl) <;> simp [Tr.places]
  · rw [t2]
    simp [sumN, Tr.sum, topH]
  · rw [t2]
    simp only [sumN]
    omega
  · rw [t2]
    simp only [sumN]
    omega
  · intro _ h1
    omega

/-- What is midst on the Left is raised twice. -/
theorem even_lr {ns : List Nd} {k t m : Nat} {A B D r : Tr} (h : EvenPre ns k (.node t A (.node m B D)) r) (b : (r.sum ns).2.1 + 1 < ((Tr.node t A (.node m B D)).sum ns).2.1) (c : (A.sum ns).2.1 < ((Tr.node m B D).sum ns).2.1) :
    RaisePre ns t m A B D ∧ RaisePre (setL (raiseRF ns t m) k m) k m (.node t A B) D r ∧ EvenIs ns k (.node t A (.node m B D)) r (raiseLF (setL (raiseRF ns t m) k m) k m) (.node m (.node t A B) (.node k D r)) := by
  obtain ⟨o1, o2, o3, o4, o5⟩ := h.offs
  obtain ⟨p1, p2, p3, p4, p5, p6, p7, p8, p9⟩ := hang_parts h.okl
  obtain ⟨m1, m2, m3, m4, m5, m6, m7, m8, m9⟩ := hang_parts p9
  have hle := h.lean1
  have hli := h.left
  have hri := h.right
  have hk := h.hk
  simp only [Tr.places, List.mem_cons, List.mem_append, List.nodup_cons, List.nodup_append] at o1 o3 o5
  simp only [Tr.top] at hli p7
  have ekt : k ≠ t := fun e => o1 (.inl e)
  have ekm : k ≠ m := fun e => o1 (.inr (.inr (.inl e)))
  have etm : t ≠ m := fun e => o3.1 (.inr (.inl e))
  have q : RaisePre ns t m A B D := ⟨p5, m5, etm, p8, m8, m9, ⟨fun e => o3.1 (.inl e), fun e => o3.1 (.inr (.inr (.inl e))), fun e => o3.1 (.inr (.inr (.inr e)))⟩, ⟨fun e => o3.2.2.2 m e m (.inl rfl) rfl, fun e => o3.2.2.1.1 (.inl e), fun e => o3.2.2.1.1 (.inr e)⟩⟩
  obtain ⟨⟨s, et, em⟩, _⟩ := raiseR_is q p6 m6 m7
  obtain ⟨n1, e1⟩ : ∃ n1, raiseRF ns t m = n1 := ⟨_, rfl⟩
  rw [e1] at s et em ⊢
  have ek : nd n1 k = nd ns k := s.at_ k (by rintro (e | e); exact ekt e; exact ekm e)
  have l1 : n1.length = ns.length := s.len
  obtain ⟨n2, e2⟩ : ∃ n2, setL n1 k m = n2 := ⟨_, rfl⟩
  have s2 : SameN n1 n2 (fun i => i = k) := by rw [← e2]; exact SameN.set rfl
  have ek2 : nd n2 k = ((nd ns k).1, (m : Int), (nd ns k).2.2) := by rw [← e2, setL, nd_here (by omega), ek]
  have em2 : nd n2 m = nd n1 m := s2.at_ m (fun e => ekm e.symm)
  have et2 : nd n2 t = nd n1 t := s2.at_ t (fun e => ekt e.symm)
  rw [e2]
  have s3 : SameN ns n2 (fun i => i = k ∨ i = t ∨ i = m) := (s.wide (by rintro i (e | e); exact .inr (.inl e); exact .inr (.inr e))).trans (s2.wide (fun i e => .inl e))
  have qA := Tr.off s3 p8 (by rintro i hi (rfl | rfl | rfl); exact o1 (.inr (.inl hi)); exact o3.1 (.inl hi); exact o3.2.2.2 _ hi _ (.inl rfl) rfl)
  have qB := Tr.off s3 m8 (by rintro i hi (rfl | rfl | rfl); exact o1 (.inr (.inr (.inr (.inl hi)))); exact o3.1 (.inr (.inr (.inl hi))); exact o3.2.2.1.1 (.inl hi))
  have qD := Tr.off s3 m9 (by rintro i hi (rfl | rfl | rfl); exact o1 (.inr (.inr (.inr (.inr hi)))); exact o3.1 (.inr (.inr (.inr hi))); exact o3.2.2.1.1 (.inr hi))
  have qr := Tr.off s3 h.okr (by rintro i hi (rfl | rfl | rfl); exact o2 hi; exact o5 _ (.inl rfl) hi; exact o5 _ (.inr (.inr (.inl rfl))) hi)
  obtain ⟨t1, t2⟩ := node_ok (ns := n2) (k := t) (x := (nd ns t).1) (l := A) (r := B) (by rw [s2.len]; omega) (by rw [et2, et]) qA qB p1 (by omega) (by omega)
  have q2 : RaisePre n2 k m (.node t A B) D r := ⟨by rw [s2.len]; omega, by rw [s2.len]; omega, ekm, t1, qD.1, qr.1,
    ⟨by simp only [Tr.places, List.mem_cons, List.mem_append]; rintro (e | e | e); exact ekt e; exact o1 (.inr (.inl e)); exact o1 (.inr (.inr (.inr (.inl e)))), fun e => o1 (.inr (.inr (.inr (.inr e)))), o2⟩,
    ⟨by simp only [Tr.places, List.mem_cons, List.mem_append]; rintro (e | e | e); exact etm e.symm; exact o3.2.2.2 _ e _ (.inl rfl) rfl; exact o3.2.2.1.1 (.inl e), fun e => o3.2.2.1.1 (.inr e), fun e => o5 m (.inr (.inr (.inl rfl))) e⟩⟩
  obtain ⟨⟨s4, fk, fm⟩, _⟩ := raiseL_is q2 (by rw [ek2]; exact hri) (by rw [em2, em]; rfl) (by rw [em2, em]; rfl)
  obtain ⟨n4, e4⟩ : ∃ n4, raiseLF n2 k m = n4 := ⟨_, rfl⟩
  rw [e4] at s4 fk fm ⊢
  obtain ⟨rt, rD, rr⟩ := q2.keep s4
  rw [qD.2] at rD fk fm
  rw [qr.2] at rr fk fm
  rw [t2] at rt fm
  rw [ek2] at fk fm
  have x2 : (nd n2 m).1 = (nd ns m).1 := by rw [em2, em]; rfl
  rw [x2] at fm
  have ln : n4.length = ns.length := by rw [s4.len, s2.len, l1]
  obtain ⟨k1, k2⟩ := node_ok (ns := n4) (k := k) (x := (nd ns k).1) (l := D) (r := r) (by omega) fk rD rr h.it (by omega) (by omega)
  obtain ⟨z1, z2⟩ := node_ok (ns := n4) (k := m) (x := (nd ns m).1) (l := .node t A B) (r := .node k D r) (by omega) fm rt ⟨k1, k2⟩ m1 (by simp only [sumN]; omega) (by simp only [sumN]; omega)
  refine ⟨q, q2, z1, perm_of fun a => ?_, (s3.wide ?_).trans (s4.wide ?_), ?_, ?_, ?_, ?_⟩
  · simp only [Tr.places, List.count_cons, List.count_append, List.cons_append]
    omega
  · rintro i (rfl | rfl | rfl) <;> simp [Tr.places]
  · rintro i (rfl | rfl) <;> simp [Tr.places]
  · rw [z2]
    simp [sumN, Tr.sum, topH]
  · rw [z2]
    simp only [sumN]
    omega
  · rw [z2]
    simp only [sumN]
    omega
  · intro h1
    omega

/-- What is midst on the Right is raised twice. -/
theorem even_rl {ns : List Nd} {k t m : Nat} {B D E l : Tr} (h : EvenPre ns k l (.node t (.node m B D) E)) (b : (l.sum ns).2.1 + 1 < ((Tr.node t (.node m B D) E).sum ns).2.1) (c : (E.sum ns).2.1 < ((Tr.node m B D).sum ns).2.1) :
    RaisePre ns t m B D E ∧ RaisePre (setR (raiseLF ns t m) k m) k m l B (.node t D E) ∧ EvenIs ns k l (.node t (.node m B D) E) (raiseRF (setR (raiseLF ns t m) k m) k m) (.node m (.node k l B) (.node t D E)) := by
  obtain ⟨o1, o2, o3, o4, o5⟩ := h.offs
  obtain ⟨p1, p2, p3, p4, p5, p6, p7, p8, p9⟩ := hang_parts h.okr
  obtain ⟨m1, m2, m3, m4, m5, m6, m7, m8, m9⟩ := hang_parts p8
  have hle := h.lean2
  have hli := h.left
  have hri := h.right
  have hk := h.hk
  simp only [Tr.places, List.mem_cons, List.mem_append, List.nodup_cons, List.nodup_append] at o2 o4 o5
  simp only [Tr.top] at hri p6
  have ekt : k ≠ t := fun e => o2 (.inl e)
  have ekm : k ≠ m := fun e => o2 (.inr (.inl (.inl e)))
  have etm : t ≠ m := fun e => o4.1 (.inl (.inl e))
  have q : RaisePre ns t m B D E := ⟨p5, m5, etm, m8, m9, p9, ⟨fun e => o4.1 (.inl (.inr (.inl e))), fun e => o4.1 (.inl (.inr (.inr e))), fun e => o4.1 (.inr e)⟩, ⟨fun e => o4.2.1.1 (.inl e), fun e => o4.2.1.1 (.inr e), fun e => o4.2.2.2 m (.inl rfl) m e rfl⟩⟩
  obtain ⟨⟨s, et, em⟩, _⟩ := raiseL_is q p7 m6 m7
  obtain ⟨n1, e1⟩ : ∃ n1, raiseLF ns t m = n1 := ⟨_, rfl⟩
  rw [e1] at s et em ⊢
  have ek : nd n1 k = nd ns k := s.at_ k (by rintro (e | e); exact ekt e; exact ekm e)
  have l1 : n1.length = ns.length := s.len
  obtain ⟨n2, e2⟩ : ∃ n2, setR n1 k m = n2 := ⟨_, rfl⟩
  have s2 : SameN n1 n2 (fun i => i = k) := by rw [← e2]; exact SameN.set rfl
  have ek2 : nd n2 k = ((nd ns k).1, (nd ns k).2.1, (m : Int), (nd ns k).2.2.2) := by rw [← e2, setR, nd_here (by omega), ek]
  have em2 : nd n2 m = nd n1 m := s2.at_ m (fun e => ekm e.symm)
  have et2 : nd n2 t = nd n1 t := s2.at_ t (fun e => ekt e.symm)
  rw [e2]
  have s3 : SameN ns n2 (fun i => i = k ∨ i = t ∨ i = m) := (s.wide (by rintro i (e | e); exact .inr (.inl e); exact .inr (.inr e))).trans (s2.wide (fun i e => .inl e))
  have qE := Tr.off s3 p9 (by rintro i hi (rfl | rfl | rfl); exact o2 (.inr (.inr hi)); exact o4.1 (.inr hi); exact o4.2.2.2 _ (.inl rfl) _ hi rfl)
  have qB := Tr.off s3 m8 (by rintro i hi (rfl | rfl | rfl); exact o2 (.inr (.inl (.inr (.inl hi)))); exact o4.1 (.inl (.inr (.inl hi))); exact o4.2.1.1 (.inl hi))
  have qD := Tr.off s3 m9 (by rintro i hi (rfl | rfl | rfl); exact o2 (.inr (.inl (.inr (.inr hi)))); exact o4.1 (.inl (.inr (.inr hi))); exact o4.2.1.1 (.inr hi))
  have ql := Tr.off s3 h.okl (by rintro i hi (rfl | rfl | rfl); exact o1 hi; exact o5 _ hi (.inl rfl); exact o5 _ hi (.inr (.inl (.inl rfl))))
  obtain ⟨t1, t2⟩ := node_ok (ns := n2) (k := t) (x := (nd ns t).1) (l := D) (r := E) (by rw [s2.len]; omega) (by rw [et2, et]) qD qE p1 (by omega) (by omega)
  have q2 : RaisePre n2 k m l B (.node t D E) := ⟨by rw [s2.len]; omega, by rw [s2.len]; omega, ekm, ql.1, qB.1, t1,
    ⟨o1, fun e => o2 (.inr (.inl (.inr (.inl e)))), by simp only [Tr.places, List.mem_cons, List.mem_append]; rintro (e | e | e); exact ekt e; exact o2 (.inr (.inl (.inr (.inr e)))); exact o2 (.inr (.inr e))⟩,
    ⟨fun e => o5 m e (.inr (.inl (.inl rfl))), fun e => o4.2.1.1 (.inl e), by simp only [Tr.places, List.mem_cons, List.mem_append]; rintro (e | e | e); exact etm e.symm; exact o4.2.1.1 (.inr e); exact o4.2.2.2 _ (.inl rfl) _ e rfl⟩⟩
  obtain ⟨⟨s4, fk, fm⟩, _⟩ := raiseR_is q2 (by rw [ek2]; exact hli) (by rw [em2, em]; rfl) (by rw [em2, em]; rfl)
  obtain ⟨n4, e4⟩ : ∃ n4, raiseRF n2 k m = n4 := ⟨_, rfl⟩
  rw [e4] at s4 fk fm ⊢
  obtain ⟨rl, rB, rt⟩ := q2.keep s4
  rw [qB.2] at rB fk fm
  rw [ql.2] at rl fk fm
  rw [t2] at rt fm
  rw [ek2] at fk fm
  have x2 : (nd n2 m).1 = (nd ns m).1 := by rw [em2, em]; rfl
  rw [x2] at fm
  have ln : n4.length = ns.length := by rw [s4.len, s2.len, l1]
  obtain ⟨k1, k2⟩ := node_ok (ns := n4) (k := k) (x := (nd ns k).1) (l := l) (r := B) (by omega) fk rl rB h.it (by omega) (by omega)
  obtain ⟨z1, z2⟩ := node_ok (ns := n4) (k := m) (x := (nd ns m).1) (l := .node k l B) (r := .node t D E) (by omega) fm ⟨k1, k2⟩ rt m1 (by simp only [sumN]; omega) (by simp only [sumN]; omega)
  refine ⟨q, q2, z1, perm_of fun a => ?_, (s3.wide ?_).trans (s4.wide ?_), ?_, ?_, ?_, ?_⟩
  · simp only [Tr.places, List.count_cons, List.count_append, List.cons_append]
    omega
  · rintro i (rfl | rfl | rfl) <;> simp [Tr.places]
  · rintro i (rfl | rfl) <;> simp [Tr.places]
  · rw [z2]
    simp [sumN, Tr.sum, topH]
  · rw [z2]
    simp only [sumN]
    omega
  · rw [z2]
    simp only [sumN]
    omega
  · intro _ h1
    omega

end Go.Proofs.Ytgfehlmiejnonaa

set_option maxRecDepth 20000
namespace Go.Proofs.Ytgfehlmiejnonaa

/-- A Node with what is below it, whatever its Height and Most. -/
structure Parts (ns : List Nd) (k : Nat) (l r : Tr) : Prop where
  hk : k < ns.length
  left : (nd ns k).2.1 = l.top
  right : (nd ns k).2.2.1 = r.top
  okl : l.ok ns
  okr : r.ok ns
  it : itB (nd ns k).1 = true
  b1 : (l.sum ns).2.1 - (r.sum ns).2.1 ≤ 1
  b2 : (r.sum ns).2.1 - (l.sum ns).2.1 ≤ 1

theorem parts_of {ns : List Nd} {k : Nat} {l r : Tr} (h : (Tr.node k l r).ok ns) : Parts ns k l r := by
  obtain ⟨p1, p2, p3, p4, p5, p6, p7, p8, p9⟩ := hang_parts h
  exact ⟨p5, p6, p7, p8, p9, p1, p2, p3⟩

structure Relinked (ns n2 : List Nd) (k : Nat) (l r L R : Tr) (gl gr : Hg) (P : Nat → Prop) : Prop where
  pre : EvenPre n2 k L R
  sl : L.sum n2 = gl
  sr : R.sum n2 = gr
  it : (nd n2 k).1 = (nd ns k).1
  same : SameN ns n2 (fun i => i = k ∨ P i)

theorem relink_l {ns n1 : List Nd} {k : Nat} {l r L : Tr} {P : Nat → Prop} (h : Parts ns k l r) (few : ns.length ≤ 32) (okL : L.ok n1) (sm : SameN ns n1 P) (hk : ¬ P k) (hr : ∀ i ∈ r.places, ¬ P i) (once : (k :: (L.places ++ r.places)).Nodup)
    (h1 : (L.sum n1).2.1 - (l.sum ns).2.1 ≤ 1) (h2 : (l.sum ns).2.1 - (L.sum n1).2.1 ≤ 1) : Relinked ns (setL n1 k L.top) k l r L r (L.sum n1) (r.sum ns) P := by
  have ek : nd n1 k = nd ns k := sm.at_ k hk
  have hk1 : k < n1.length := by rw [sm.len]; exact h.hk
  obtain ⟨n2, e2⟩ : ∃ n2, setL n1 k L.top = n2 := ⟨_, rfl⟩
  have s2 : SameN n1 n2 (fun i => i = k) := by rw [← e2]; exact SameN.set rfl
  have ek2 : nd n2 k = ((nd ns k).1, L.top, (nd ns k).2.2) := by rw [← e2, setL, nd_here hk1, ek]
  have o := once
  simp only [List.nodup_cons, List.mem_append] at o
  have qL := Tr.off s2 okL (by rintro i hi rfl; exact o.1 (.inl hi))
  have qr1 := Tr.off sm h.okr hr
  have qr := Tr.off s2 qr1.1 (by rintro i hi rfl; exact o.1 (.inr hi))
  have b1 := h.b1
  have b2 := h.b2
  have q3 : (r.sum n2) = r.sum ns := qr.2.trans qr1.2
  rw [e2]
  refine ⟨⟨by rw [s2.len, sm.len]; exact few, by rw [s2.len]; exact hk1, by rw [ek2], by rw [ek2]; exact h.right, qL.1, qr.1, once, by rw [ek2]; exact h.it, by rw [qL.2, q3]; omega, by rw [qL.2, q3]; omega⟩, qL.2, q3, by rw [ek2], ?_⟩
  exact (sm.wide (fun i e => .inr e)).trans (s2.wide (fun i e => .inl e))

theorem relink_r {ns n1 : List Nd} {k : Nat} {l r R : Tr} {P : Nat → Prop} (h : Parts ns k l r) (few : ns.length ≤ 32) (okR : R.ok n1) (sm : SameN ns n1 P) (hk : ¬ P k) (hl : ∀ i ∈ l.places, ¬ P i) (once : (k :: (l.places ++ R.places)).Nodup)
    (h1 : (R.sum n1).2.1 - (r.sum ns).2.1 ≤ 1) (h2 : (r.sum ns).2.1 - (R.sum n1).2.1 ≤ 1) : Relinked ns (setR n1 k R.top) k l r l R (l.sum ns) (R.sum n1) P := by
  have ek : nd n1 k = nd ns k := sm.at_ k hk
  have hk1 : k < n1.length := by rw [sm.len]; exact h.hk
  obtain ⟨n2, e2⟩ : ∃ n2, setR n1 k R.top = n2 := ⟨_, rfl⟩
  have s2 : SameN n1 n2 (fun i => i = k) := by rw [← e2]; exact SameN.set rfl
  have ek2 : nd n2 k = ((nd ns k).1, (nd ns k).2.1, R.top, (nd ns k).2.2.2) := by rw [← e2, setR, nd_here hk1, ek]
  have o := once
  simp only [List.nodup_cons, List.mem_append] at o
  have qR := Tr.off s2 okR (by rintro i hi rfl; exact o.1 (.inr hi))
  have ql1 := Tr.off sm h.okl hl
  have ql := Tr.off s2 ql1.1 (by rintro i hi rfl; exact o.1 (.inl hi))
  have b1 := h.b1
  have b2 := h.b2
  have q3 : (l.sum n2) = l.sum ns := ql.2.trans ql1.2
  rw [e2]
  refine ⟨⟨by rw [s2.len, sm.len]; exact few, by rw [s2.len]; exact hk1, by rw [ek2]; exact h.left, by rw [ek2], ql.1, qR.1, once, by rw [ek2]; exact h.it, by rw [qR.2, q3]; omega, by rw [qR.2, q3]; omega⟩, q3, qR.2, by rw [ek2], ?_⟩
  exact (sm.wide (fun i e => .inr e)).trans (s2.wide (fun i e => .inl e))

theorem nodup_node {k : Nat} {l r : Tr} (h : (Tr.node k l r).places.Nodup) : k ∉ l.places ∧ k ∉ r.places ∧ l.places.Nodup ∧ r.places.Nodup ∧ ∀ i ∈ l.places, i ∉ r.places := by
  simp only [Tr.places, List.nodup_cons, List.mem_append, List.nodup_append] at h
  exact ⟨fun e => h.1 (.inl e), fun e => h.1 (.inr e), h.2.1, h.2.2.1, fun i hi hj => h.2.2.2 i hi i hj rfl⟩

/-- What hang asks. -/
structure HangPre (ns : List Nd) (a : Nat) (x : It) (T : Tr) : Prop where
  few : ns.length ≤ 32
  ok : T.ok ns
  once : T.places.Nodup
  ha : a < ns.length
  new : a ∉ T.places
  leaf : nd ns a = (x, -1, -1, 1, x.2.1)
  it : itB x = true
  none : x ∉ (T.sum ns).1
  row : rises (T.sum ns).1 = true

/-- What hang leaves. -/
structure HangIs (ns : List Nd) (a : Nat) (x : It) (T : Tr) (ns' : List Nd) (T' : Tr) : Prop where
  ok : T'.ok ns'
  perm : T'.places.Perm (a :: T.places)
  same : SameN ns ns' (fun i => i ∈ a :: T.places)
  row : (T'.sum ns').1 = withF x (T.sum ns).1
  low : (T.sum ns).2.1 ≤ (T'.sum ns').2.1
  high : (T'.sum ns').2.1 ≤ (T.sum ns).2.1 + 1

theorem it_to {x : It} (h : itB x = true) : 0 ≤ x.2.1 := by
  simp only [itB, Bool.and_eq_true, span_may] at h
  omega

theorem hang_nil {ns : List Nd} {a : Nat} {x : It} (h : HangPre ns a x .nil) : HangIs ns a x .nil ns (.node a .nil .nil) := by
  have h0 := it_to h.it
  have e : nd ns a = dueN x Tr.nil.top Tr.nil.top (Tr.nil.sum ns) (Tr.nil.sum ns) := by
    rw [h.leaf]
    simp only [dueN, Tr.top, Tr.sum]
    have : max (max 0 0) x.2.1 = x.2.1 := by omega
    rw [this]
    rfl
  obtain ⟨n1, n2⟩ := node_ok h.ha e ⟨trivial, rfl⟩ ⟨trivial, rfl⟩ h.it (by simp [Tr.sum]) (by simp [Tr.sum])
  refine ⟨n1, List.Perm.refl _, SameN.refl _ _, by rw [n2]; rfl, ?_, ?_⟩
  · rw [n2]
    simp [sumN, Tr.sum]
  · rw [n2]
    simp [sumN, Tr.sum]

theorem less_not {a b : It} (h : lessB a b = true) : lessB b a = false := by
  cases k : lessB b a
  · rfl
  · have := less_trans h k
    rw [less_irr] at this
    cases this

theorem with_left {x y : It} (h : lessB x y = true) : ∀ (L R : List It), withF x (L ++ y :: R) = withF x L ++ y :: R
  | [], R => by simp [withF, h]
  | a :: L, R => by
    rw [List.cons_append, withF, withF, with_left h L R]
    split <;> rfl

theorem with_right {x y : It} (h : lessB x y = false) : ∀ (L R : List It), (∀ a ∈ L, lessB x a = false) → withF x (L ++ y :: R) = L ++ y :: withF x R
  | [], R, _ => by simp [withF, h]
  | a :: L, R, q => by
    rw [List.cons_append, withF, if_neg (by simp [q a (by simp)]), with_right h L R (fun b hb => q b (by simp [hb]))]
    rfl

theorem row_node {ns : List Nd} {k : Nat} {l r : Tr} (h : rises ((Tr.node k l r).sum ns).1 = true) : rises (l.sum ns).1 = true ∧ rises (r.sum ns).1 = true ∧ (∀ a ∈ (l.sum ns).1, lessB a (nd ns k).1 = true) ∧ (∀ b ∈ (r.sum ns).1, lessB (nd ns k).1 b = true) := by
  simp only [Tr.sum, topH] at h
  rw [rises_pair, List.pairwise_append] at h
  obtain ⟨a, b, c⟩ := h
  rw [List.pairwise_cons] at b
  exact ⟨rises_pair.2 a, rises_pair.2 b.2, fun x hx => c x hx _ (by simp), b.1⟩

theorem HangPre.left {ns : List Nd} {a k : Nat} {x : It} {l r : Tr} (h : HangPre ns a x (.node k l r)) : HangPre ns a x l := by
  have hn := h.new
  have hx := h.none
  simp only [Tr.places, List.mem_cons, List.mem_append, Tr.sum, topH] at hn hx
  exact ⟨h.few, (hang_parts h.ok).2.2.2.2.2.2.2.1, (nodup_node h.once).2.2.1, h.ha, fun e => hn (.inr (.inl e)), h.leaf, h.it, fun e => hx (.inl e), (row_node h.row).1⟩

theorem HangPre.right {ns : List Nd} {a k : Nat} {x : It} {l r : Tr} (h : HangPre ns a x (.node k l r)) : HangPre ns a x r := by
  have hn := h.new
  have hx := h.none
  simp only [Tr.places, List.mem_cons, List.mem_append, Tr.sum, topH] at hn hx
  exact ⟨h.few, (hang_parts h.ok).2.2.2.2.2.2.2.2, (nodup_node h.once).2.2.2.1, h.ha, fun e => hn (.inr (.inr e)), h.leaf, h.it, fun e => hx (.inr (.inr e)), (row_node h.row).2.1⟩

theorem hang_left {ns n1 : List Nd} {a k : Nat} {x : It} {l r L : Tr} (h : HangPre ns a x (.node k l r)) (hx : lessB x (nd ns k).1 = true) (i : HangIs ns a x l n1 L) :
    EvenPre (setL n1 k L.top) k L r ∧ ∀ n3 T, EvenIs (setL n1 k L.top) k L r n3 T → HangIs ns a x (.node k l r) n3 T := by
  obtain ⟨o1, o2, o3, o4, o5⟩ := nodup_node h.once
  have hn := h.new
  simp only [Tr.places, List.mem_cons, List.mem_append] at hn
  have p := parts_of h.ok
  have once : (k :: (L.places ++ r.places)).Nodup := by
    have q : (k :: (L.places ++ r.places)).Perm (k :: ((a :: l.places) ++ r.places)) := (i.perm.append_right _).cons _
    rw [q.nodup_iff]
    simp only [List.cons_append, List.nodup_cons, List.mem_cons, List.mem_append, List.nodup_append]
    exact ⟨by rintro (e | e | e); exact hn (.inl e.symm); exact o1 e; exact o2 e, fun e => hn (.inr e), o3, o4, fun u hu v hv e => o5 u hu (e ▸ hv)⟩
  have low := i.low
  have high := i.high
  have b1 := p.b1
  have b2 := p.b2
  obtain ⟨pre, sl, sr, it, same⟩ := relink_l p h.few i.ok i.same (by simp only [List.mem_cons]; rintro (e | e); exact hn (.inl e.symm); exact o1 e) (fun u hu => by simp only [List.mem_cons]; rintro (e | e); exact hn (.inr (.inr (e ▸ hu))); exact o5 u e hu) once (by omega) (by omega)
  refine ⟨pre, fun n3 T e => ⟨e.ok, ?_, ?_, ?_, ?_, ?_⟩⟩
  · have q : (k :: (L.places ++ r.places)).Perm (k :: ((a :: l.places) ++ r.places)) := (i.perm.append_right _).cons _
    refine (e.perm.trans q).trans (perm_of fun u => ?_)
    simp only [Tr.places, List.count_cons, List.count_append, List.cons_append]
    omega
  · refine (same.wide ?_).trans (e.same.wide ?_)
    · rintro u (rfl | hu)
      · simp [Tr.places]
      · simp only [Tr.places, List.mem_cons, List.mem_append] at hu ⊢
        rcases hu with hu | hu
        · exact .inl hu
        · exact .inr (.inr (.inl hu))
    · intro u hu
      simp only [List.mem_cons, List.mem_append] at hu
      simp only [Tr.places, List.mem_cons, List.mem_append]
      rcases hu with hu | hu | hu
      · exact .inr (.inl hu)
      · rcases List.mem_cons.1 (i.perm.mem_iff.1 hu) with hu | hu
        · exact .inl hu
        · exact .inr (.inr (.inl hu))
      · exact .inr (.inr (.inr hu))
  · rw [e.row, sl, sr, it, i.row]
    simp only [Tr.sum, topH]
    rw [with_left hx]
  · have e1 := e.low
    have e2 := e.flat
    rw [sl, sr] at e1 e2
    simp only [Tr.sum, topH]
    omega
  · have e1 := e.high
    have e2 := e.flat
    rw [sl, sr] at e1 e2
    simp only [Tr.sum, topH]
    omega

theorem hang_right {ns n1 : List Nd} {a k : Nat} {x : It} {l r R : Tr} (h : HangPre ns a x (.node k l r)) (hx : lessB x (nd ns k).1 = false) (i : HangIs ns a x r n1 R) :
    EvenPre (setR n1 k R.top) k l R ∧ ∀ n3 T, EvenIs (setR n1 k R.top) k l R n3 T → HangIs ns a x (.node k l r) n3 T := by
  obtain ⟨o1, o2, o3, o4, o5⟩ := nodup_node h.once
  have hn := h.new
  simp only [Tr.places, List.mem_cons, List.mem_append] at hn
  have p := parts_of h.ok
  have q : (k :: (l.places ++ R.places)).Perm (k :: (l.places ++ (a :: r.places))) := (i.perm.append_left _).cons _
  have once : (k :: (l.places ++ R.places)).Nodup := by
    rw [q.nodup_iff]
    simp only [List.nodup_cons, List.mem_cons, List.mem_append, List.nodup_append]
    exact ⟨by rintro (e | e | e); exact o1 e; exact hn (.inl e.symm); exact o2 e, o3, ⟨fun e => hn (.inr (.inr e)), o4⟩, fun u hu v hv e => by
      subst e
      rcases hv with hv | hv
      · exact hn (.inr (.inl (hv ▸ hu)))
      · exact o5 u hu hv⟩
  have low := i.low
  have high := i.high
  have b1 := p.b1
  have b2 := p.b2
  obtain ⟨pre, sl, sr, it, same⟩ := relink_r p h.few i.ok i.same (by simp only [List.mem_cons]; rintro (e | e); exact hn (.inl e.symm); exact o2 e) (fun u hu => by simp only [List.mem_cons]; rintro (e | e); exact hn (.inr (.inl (e ▸ hu))); exact o5 u hu e) once (by omega) (by omega)
  refine ⟨pre, fun n3 T e => ⟨e.ok, ?_, ?_, ?_, ?_, ?_⟩⟩
  · refine (e.perm.trans q).trans (perm_of fun u => ?_)
    simp only [Tr.places, List.count_cons, List.count_append]
    omega
  · refine (same.wide ?_).trans (e.same.wide ?_)
    · rintro u (rfl | hu)
      · simp [Tr.places]
      · simp only [Tr.places, List.mem_cons, List.mem_append] at hu ⊢
        rcases hu with hu | hu
        · exact .inl hu
        · exact .inr (.inr (.inr hu))
    · intro u hu
      simp only [List.mem_cons, List.mem_append] at hu
      simp only [Tr.places, List.mem_cons, List.mem_append]
      rcases hu with hu | hu | hu
      · exact .inr (.inl hu)
      · exact .inr (.inr (.inl hu))
      · rcases List.mem_cons.1 (i.perm.mem_iff.1 hu) with hu | hu
        · exact .inl hu
        · exact .inr (.inr (.inr hu))
  · rw [e.row, sl, sr, it, i.row]
    have hxy : x ≠ (nd ns k).1 := by
      intro e
      have := h.none
      simp [Tr.sum, topH, e] at this
    have hlt := less_tri x _ hx hxy
    simp only [Tr.sum, topH]
    rw [with_right hx]
    intro b hb
    exact less_not (less_trans ((row_node h.row).2.2.1 b hb) hlt)
  · have e1 := e.low
    have e2 := e.flat
    rw [sl, sr] at e1 e2
    simp only [Tr.sum, topH]
    omega
  · have e1 := e.high
    have e2 := e.flat
    rw [sl, sr] at e1 e2
    simp only [Tr.sum, topH]
    omega

end Go.Proofs.Ytgfehlmiejnonaa

set_option maxRecDepth 20000
namespace Go.Proofs.Ytgfehlmiejnonaa

/-- What drop asks. -/
structure DropPre (ns : List Nd) (x : It) (T : Tr) : Prop where
  few : ns.length ≤ 32
  ok : T.ok ns
  once : T.places.Nodup
  there : x ∈ (T.sum ns).1
  row : rises (T.sum ns).1 = true

/-- What drop leaves. -/
structure DropIs (ns : List Nd) (x : It) (T : Tr) (f : Nat) (ns' : List Nd) (T' : Tr) : Prop where
  ok : T'.ok ns'
  perm : (f :: T'.places).Perm T.places
  zero : nd ns' f = nd0
  same : SameN ns ns' (fun i => i ∈ T.places)
  row : (T'.sum ns').1 = withoutF x (T.sum ns).1
  low : (T.sum ns).2.1 ≤ (T'.sum ns').2.1 + 1
  high : (T'.sum ns').2.1 ≤ (T.sum ns).2.1

theorem wo_none {x : It} {xs : List It} (h : x ∉ xs) : withoutF x xs = xs := by
  unfold withoutF
  rw [List.filter_eq_self]
  intro a ha
  simp only [decide_eq_true_eq]
  rintro rfl
  exact h ha

theorem wo_app (x : It) (xs ys : List It) : withoutF x (xs ++ ys) = withoutF x xs ++ withoutF x ys := List.filter_append ..

theorem wo_same (x : It) (xs : List It) : withoutF x (x :: xs) = withoutF x xs := by simp [withoutF]
theorem wo_diff {x y : It} (h : y ≠ x) (xs : List It) : withoutF x (y :: xs) = y :: withoutF x xs := by simp [withoutF, h]

theorem less_ne {a b : It} (h : lessB a b = true) : a ≠ b := by
  rintro rfl
  rw [less_irr] at h
  cases h

theorem DropPre.left {ns : List Nd} {k : Nat} {x : It} {l r : Tr} (h : DropPre ns x (.node k l r)) (hx : lessB x (nd ns k).1 = true) : DropPre ns x l := by
  obtain ⟨q1, q2, q3, q4⟩ := row_node h.row
  refine ⟨h.few, (parts_of h.ok).okl, (nodup_node h.once).2.2.1, ?_, q1⟩
  have ht := h.there
  simp only [Tr.sum, topH, List.mem_append, List.mem_cons] at ht
  rcases ht with ht | ht | ht
  · exact ht
  · exact absurd ht (less_ne hx)
  · have := less_not (q4 x ht)
    rw [hx] at this
    cases this

theorem DropPre.right {ns : List Nd} {k : Nat} {x : It} {l r : Tr} (h : DropPre ns x (.node k l r)) (hx : lessB (nd ns k).1 x = true) : DropPre ns x r := by
  obtain ⟨q1, q2, q3, q4⟩ := row_node h.row
  refine ⟨h.few, (parts_of h.ok).okr, (nodup_node h.once).2.2.2.1, ?_, q2⟩
  have ht := h.there
  simp only [Tr.sum, topH, List.mem_append, List.mem_cons] at ht
  rcases ht with ht | ht | ht
  · have := less_not (q3 x ht)
    rw [hx] at this
    cases this
  · exact absurd ht.symm (less_ne hx)
  · exact ht

theorem drop_left {ns n1 : List Nd} {k f : Nat} {x : It} {l r L : Tr} (h : DropPre ns x (.node k l r)) (hx : lessB x (nd ns k).1 = true) (i : DropIs ns x l f n1 L) :
    EvenPre (setL n1 k L.top) k L r ∧ ∀ n3 T, EvenIs (setL n1 k L.top) k L r n3 T → DropIs ns x (.node k l r) f n3 T := by
  obtain ⟨o1, o2, o3, o4, o5⟩ := nodup_node h.once
  obtain ⟨w1, w2, w3, w4⟩ := row_node h.row
  have p := parts_of h.ok
  have q : (f :: k :: (L.places ++ r.places)).Perm (k :: (l.places ++ r.places)) := by
    refine (List.Perm.swap k f _).trans (List.Perm.cons _ ?_)
    rw [← List.cons_append]
    exact i.perm.append_right _
  have once0 : (f :: k :: (L.places ++ r.places)).Nodup := by
    rw [q.nodup_iff]
    exact h.once
  have once := (List.nodup_cons.1 once0).2
  have hf := (List.nodup_cons.1 once0).1
  have low := i.low
  have high := i.high
  have b1 := p.b1
  have b2 := p.b2
  obtain ⟨pre, sl, sr, it, same⟩ := relink_l p h.few i.ok i.same o1 (fun u hu e => o5 u e hu) once (by omega) (by omega)
  refine ⟨pre, fun n3 T e => ⟨e.ok, ?_, ?_, ?_, ?_, ?_, ?_⟩⟩
  · exact (e.perm.cons _).trans q
  · rw [e.same.at_ f hf]
    have hfk : f ≠ k := fun e => hf (by simp [e])
    rw [setL, nd_else hfk]
    exact i.zero
  · refine (same.wide ?_).trans (e.same.wide ?_)
    · rintro u (rfl | hu)
      · simp [Tr.places]
      · simp [Tr.places, hu]
    · intro u hu
      exact q.mem_iff.1 (List.mem_cons_of_mem _ hu)
  · rw [e.row, sl, sr, it, i.row]
    simp only [Tr.sum, topH]
    rw [wo_app, wo_diff (fun e => less_ne hx e.symm), wo_none (xs := (r.sum ns).1)]
    intro hr
    have := less_not (w4 x hr)
    rw [hx] at this
    cases this
  · have e1 := e.low
    have e2 := e.flat
    rw [sl, sr] at e1 e2
    simp only [Tr.sum, topH]
    omega
  · have e1 := e.high
    have e2 := e.flat
    rw [sl, sr] at e1 e2
    simp only [Tr.sum, topH]
    omega

/-- The Right relinked behind a drop there. -/
theorem drop_right' {ns n1 : List Nd} {k f : Nat} {x : It} {l r R : Tr} (p : Parts ns k l r) (few : ns.length ≤ 32) (hon : (Tr.node k l r).places.Nodup) (i : DropIs ns x r f n1 R) :
    EvenPre (setR n1 k R.top) k l R ∧ ∀ n3 T, EvenIs (setR n1 k R.top) k l R n3 T → T.ok n3 ∧ (f :: T.places).Perm (Tr.node k l r).places ∧ nd n3 f = nd0 ∧ SameN ns n3 (fun i => i ∈ (Tr.node k l r).places) ∧
      (T.sum n3).1 = (l.sum ns).1 ++ (nd ns k).1 :: withoutF x (r.sum ns).1 ∧ max (l.sum ns).2.1 (r.sum ns).2.1 ≤ (T.sum n3).2.1 ∧ (T.sum n3).2.1 ≤ max (l.sum ns).2.1 (r.sum ns).2.1 + 1 := by
  obtain ⟨o1, o2, o3, o4, o5⟩ := nodup_node hon
  have q : (f :: k :: (l.places ++ R.places)).Perm (k :: (l.places ++ r.places)) := by
    have hp := i.perm
    refine perm_of fun u => ?_
    have := hp.count_eq u
    simp only [List.count_cons, List.count_append] at this ⊢
    omega
  have once0 : (f :: k :: (l.places ++ R.places)).Nodup := by
    rw [q.nodup_iff]
    exact hon
  have once := (List.nodup_cons.1 once0).2
  have hf := (List.nodup_cons.1 once0).1
  have low := i.low
  have high := i.high
  have b1 := p.b1
  have b2 := p.b2
  obtain ⟨pre, sl, sr, it, same⟩ := relink_r p few i.ok i.same o2 (fun u hu e => o5 u hu e) once (by omega) (by omega)
  refine ⟨pre, fun n3 T e => ⟨e.ok, ?_, ?_, ?_, ?_, ?_, ?_⟩⟩
  · exact (e.perm.cons _).trans q
  · rw [e.same.at_ f hf]
    have hfk : f ≠ k := fun e => hf (by simp [e])
    rw [setR, nd_else hfk]
    exact i.zero
  · refine (same.wide ?_).trans (e.same.wide ?_)
    · rintro u (rfl | hu)
      · simp [Tr.places]
      · simp [Tr.places, hu]
    · intro u hu
      exact q.mem_iff.1 (List.mem_cons_of_mem _ hu)
  · rw [e.row, sl, sr, it, i.row]
  · have e1 := e.low
    have e2 := e.flat
    rw [sl, sr] at e1 e2
    omega
  · have e1 := e.high
    have e2 := e.flat
    rw [sl, sr] at e1 e2
    omega

theorem drop_right {ns n1 : List Nd} {k f : Nat} {x : It} {l r R : Tr} (h : DropPre ns x (.node k l r)) (hx : lessB (nd ns k).1 x = true) (i : DropIs ns x r f n1 R) :
    EvenPre (setR n1 k R.top) k l R ∧ ∀ n3 T, EvenIs (setR n1 k R.top) k l R n3 T → DropIs ns x (.node k l r) f n3 T := by
  obtain ⟨w1, w2, w3, w4⟩ := row_node h.row
  obtain ⟨pre, hh⟩ := drop_right' (parts_of h.ok) h.few h.once i
  refine ⟨pre, fun n3 T e => ?_⟩
  obtain ⟨a, b, c, d, e1, e2, e3⟩ := hh n3 T e
  refine ⟨a, b, c, d, ?_, ?_, ?_⟩
  · rw [e1]
    simp only [Tr.sum, topH]
    rw [wo_app, wo_diff (less_ne hx), wo_none (xs := (l.sum ns).1)]
    intro hl
    have := less_not (w3 x hl)
    rw [hx] at this
    cases this
  · simp only [Tr.sum, topH]
    omega
  · simp only [Tr.sum, topH]
    omega

/-- The Node of the item has at most one below it. -/
theorem drop_last {ns : List Nd} {k : Nat} {l r T : Tr} (h : DropPre ns (nd ns k).1 (.node k l r)) (ht : (l = .nil ∧ T = r) ∨ (r = .nil ∧ T = l)) : DropIs ns (nd ns k).1 (.node k l r) k (ns.set k nd0) T := by
  obtain ⟨o1, o2, o3, o4, o5⟩ := nodup_node h.once
  obtain ⟨w1, w2, w3, w4⟩ := row_node h.row
  have p := parts_of h.ok
  have s : SameN ns (ns.set k nd0) (fun i => i = k) := SameN.set rfl
  have hl : (nd ns k).1 ∉ (l.sum ns).1 := fun e => less_ne (w3 _ e) rfl
  have hr : (nd ns k).1 ∉ (r.sum ns).1 := fun e => less_ne (w4 _ e) rfl
  have b1 := p.b1
  have b2 := p.b2
  have ql := Tr.off s p.okl (by rintro i hi rfl; exact o1 hi)
  have qr := Tr.off s p.okr (by rintro i hi rfl; exact o2 hi)
  have g1 := (Tr.h_bd p.okl).1
  have g2 := (Tr.h_bd p.okr).1
  have e : withoutF (nd ns k).1 ((Tr.node k l r).sum ns).1 = (l.sum ns).1 ++ (r.sum ns).1 := by
    simp only [Tr.sum, topH]
    rw [wo_app, wo_same, wo_none hl, wo_none hr]
  rcases ht with ⟨rfl, rfl⟩ | ⟨rfl, rfl⟩
  · refine ⟨qr.1, by simp [Tr.places], nd_here p.hk _, s.wide (by rintro i rfl; simp [Tr.places]), ?_, ?_, ?_⟩
    · rw [qr.2, e]
      rfl
    · rw [qr.2]
      simp only [Tr.sum, topH] at *
      omega
    · rw [qr.2]
      simp only [Tr.sum, topH] at *
      omega
  · refine ⟨ql.1, by simp [Tr.places], nd_here p.hk _, s.wide (by rintro i rfl; simp [Tr.places]), ?_, ?_, ?_⟩
    · rw [ql.2, e]
      simp [Tr.sum]
    · rw [ql.2]
      simp only [Tr.sum, topH] at *
      omega
    · rw [ql.2]
      simp only [Tr.sum, topH] at *
      omega

def putIt (ns : List Nd) (k : Nat) (y : It) : List Nd := ns.set k (y, (nd ns k).2)

/-- The Node of the item takes the next item, which is dropped below it. -/
theorem drop_next {ns : List Nd} {k : Nat} {y : It} {ys : List It} {l r : Tr} (h : DropPre ns (nd ns k).1 (.node k l r)) (hy : (r.sum ns).1 = y :: ys) :
    DropPre (putIt ns k y) y r ∧ ∀ f n1 R, DropIs (putIt ns k y) y r f n1 R → EvenPre (setR n1 k R.top) k l R ∧ ∀ n3 T, EvenIs (setR n1 k R.top) k l R n3 T → DropIs ns (nd ns k).1 (.node k l r) f n3 T := by
  obtain ⟨o1, o2, o3, o4, o5⟩ := nodup_node h.once
  obtain ⟨w1, w2, w3, w4⟩ := row_node h.row
  have p := parts_of h.ok
  have s : SameN ns (putIt ns k y) (fun i => i = k) := SameN.set rfl
  have hl : (nd ns k).1 ∉ (l.sum ns).1 := fun e => less_ne (w3 _ e) rfl
  have hr : (nd ns k).1 ∉ (r.sum ns).1 := fun e => less_ne (w4 _ e) rfl
  have ql := Tr.off s p.okl (by rintro i hi rfl; exact o1 hi)
  have qr := Tr.off s p.okr (by rintro i hi rfl; exact o2 hi)
  have ek : nd (putIt ns k y) k = (y, (nd ns k).2) := nd_here p.hk _
  have hyit : itB y = true := Tr.sum_it p.okr y (by rw [hy]; simp)
  have p2 : Parts (putIt ns k y) k l r := ⟨by rw [s.len]; exact p.hk, by rw [ek]; exact p.left, by rw [ek]; exact p.right, ql.1, qr.1, by rw [ek]; exact hyit, by rw [ql.2, qr.2]; exact p.b1, by rw [ql.2, qr.2]; exact p.b2⟩
  refine ⟨⟨by rw [s.len]; exact h.few, qr.1, o4, by rw [qr.2, hy]; simp, by rw [qr.2]; exact w2⟩, fun f n1 R i => ?_⟩
  obtain ⟨pre, hh⟩ := drop_right' p2 (by rw [s.len]; exact h.few) h.once i
  refine ⟨pre, fun n3 T e => ?_⟩
  obtain ⟨a, b, c, d, e1, e2, e3⟩ := hh n3 T e
  rw [ql.2, qr.2] at e1 e2 e3
  refine ⟨a, b, c, (s.wide (by rintro i rfl; simp [Tr.places])).trans d, ?_, ?_, ?_⟩
  · rw [e1, ek, hy, wo_same]
    have hys : y ∉ ys := by
      have := rises_pair.1 w2
      rw [hy, List.pairwise_cons] at this
      exact fun e => less_ne (this.1 y e) rfl
    rw [wo_none hys]
    simp only [Tr.sum, topH]
    rw [wo_app, wo_same, wo_none hl, wo_none hr, hy]
  · simp only [Tr.sum, topH]
    omega
  · simp only [Tr.sum, topH]
    omega

theorem head_down {ns : List Nd} {k : Nat} {l r : Tr} {y : It} {ys : List It} (h : ((Tr.node k l r).sum ns).1 = y :: ys) : (l = .nil → (nd ns k).1 = y) ∧ (l ≠ .nil → ∃ zs, (l.sum ns).1 = y :: zs) := by
  simp only [Tr.sum, topH] at h
  constructor
  · rintro rfl
    simp only [Tr.sum, List.nil_append, List.cons.injEq] at h
    exact h.1
  · intro hl
    cases e : (l.sum ns).1 with
    | nil =>
      have := Tr.sum_len ns l
      rw [e] at this
      cases l with
      | nil => exact absurd rfl hl
      | node => simp [Tr.places] at this
    | cons z zs =>
      rw [e] at h
      simp only [List.cons_append, List.cons.injEq] at h
      exact ⟨zs, by rw [h.1]⟩

end Go.Proofs.Ytgfehlmiejnonaa

set_option maxRecDepth 20000
namespace Go.Proofs.Ytgfehlmiejnonaa

theorem Tr.grow {ns ns' : List Nd} (hl : ns.length ≤ ns'.length) (he : ∀ i, i < ns.length → nd ns' i = nd ns i) : ∀ {T : Tr}, T.ok ns → T.ok ns' ∧ T.sum ns' = T.sum ns
  | .nil, _ => ⟨trivial, rfl⟩
  | .node k l r, ⟨hk, e1, e2, hh, okl, okr⟩ => by
    have hk' := he k hk
    obtain ⟨a1, a2⟩ := Tr.grow hl he okl
    obtain ⟨b1, b2⟩ := Tr.grow hl he okr
    refine ⟨⟨by omega, by rw [hk']; exact e1, by rw [hk']; exact e2, by rw [hk', a2, b2]; exact hh, a1, b1⟩, ?_⟩
    rw [Tr.sum, Tr.sum, hk', a2, b2]

def leafB (x : It) : Nd := (x, -1, -1, 1, x.2.1)

/-- An item laid at a place of its own. -/
def LaidAt (ns : List Nd) (free : List Int) (x : It) (a : Nat) (ns' : List Nd) (free' : List Int) : Prop :=
  (free = [] ∧ a = ns.length ∧ ns' = ns ++ [leafB x] ∧ free' = []) ∨ (free = free' ++ [(a : Int)] ∧ a < ns.length ∧ ns' = ns.set a (leafB x))

theorem laid_pre {ns n1 : List Nd} {r : Int} {free f1 : List Int} {T : Tr} {x : It} {a : Nat} (h : TreeOk ns r free T) (hx : itB x = true) (hn : x ∉ (T.sum ns).1) (room : ¬ (ns.length = 32 ∧ free.length = 0)) (p : LaidAt ns free x a n1 f1) :
    HangPre n1 a x T ∧ T.sum n1 = T.sum ns := by
  rcases p with ⟨e1, e2, e3, e4⟩ | ⟨e1, e2, e3⟩
  · subst e1 e2 e3 e4
    have hf := h.few
    have hl : ns.length < 32 := by
      rcases Nat.lt_or_ge ns.length 32 with q | q
      · exact q
      · exact absurd ⟨by omega, rfl⟩ room
    have g := Tr.grow (ns := ns) (ns' := ns ++ [leafB x]) (by simp) (fun i hi => by unfold nd; rw [List.getElem?_append_left hi]) h.ok
    refine ⟨⟨by simp; omega, g.1, h.once, by simp, fun e => ?_, ?_, hx, by rw [g.2]; exact hn, by rw [g.2]; exact h.row⟩, g.2⟩
    · have := Tr.ok_in h.ok _ e
      omega
    · unfold nd
      rw [List.getElem?_append_right (Nat.le_refl _)]
      simp [leafB]
  · subst e1 e3
    have hs := h.spare (a : Int) (by simp)
    have ha : a ∉ T.places := by
      have := hs.2.2.1
      simpa using this
    have s : SameN ns (ns.set a (leafB x)) (fun i => i = a) := SameN.set rfl
    have g := Tr.off s h.ok (by rintro i hi rfl; exact ha hi)
    exact ⟨⟨by rw [s.len]; exact h.few, g.1, h.once, by rw [s.len]; exact e2, ha, nd_here e2 _, hx, by rw [g.2]; exact hn, by rw [g.2]; exact h.row⟩, g.2⟩

theorem insert_ok {ns n1 n2 : List Nd} {r : Int} {free f1 : List Int} {T U : Tr} {x : It} {a : Nat} (h : TreeOk ns r free T) (hx : itB x = true) (hn : x ∉ (T.sum ns).1) (room : ¬ (ns.length = 32 ∧ free.length = 0)) (p : LaidAt ns free x a n1 f1) (i : HangIs n1 a x T n2 U) :
    allF n2 U.top f1 = some (withF x (T.sum ns).1) := by
  obtain ⟨pre, es⟩ := laid_pre h hx hn room p
  have hrow : (U.sum n2).1 = withF x (T.sum ns).1 := by rw [i.row, es]
  rw [← hrow]
  refine all_of ⟨by rw [i.same.len]; exact pre.few, rfl, i.ok, ?_, ?_, ?_, ?_, by rw [hrow]; exact with_rises h.row hn⟩
  · rw [i.perm.nodup_iff, List.nodup_cons]
    exact ⟨pre.new, h.once⟩
  · rcases p with ⟨e1, e2, e3, e4⟩ | ⟨e1, e2, e3⟩
    · subst e4
      exact List.nodup_nil
    · have := h.bare
      rw [e1] at this
      exact (List.nodup_append.1 this).1
  · rcases p with ⟨e1, e2, e3, e4⟩ | ⟨e1, e2, e3⟩
    · subst e4
      simp
    · intro k hk
      have hb := h.bare
      rw [e1] at hb
      have hka : k ≠ (a : Int) := fun e => (List.nodup_append.1 hb).2.2 k hk (a : Int) (by simp) e
      obtain ⟨q1, q2, q3, q4⟩ := h.spare k (by rw [e1]; simp [hk])
      have hkn : k.toNat ≠ a := by omega
      have hnot : k.toNat ∉ a :: T.places := by
        simp only [List.mem_cons]
        rintro (e | e)
        · exact hkn e
        · exact q3 e
      refine ⟨q1, by rw [i.same.len, e3, List.length_set]; exact q2, fun e => hnot (i.perm.mem_iff.1 e), ?_⟩
      rw [i.same.at_ _ hnot, e3, nd_else hkn]
      exact q4
  · have hp := i.perm.length_eq
    have ha := h.all
    rw [List.length_cons] at hp
    rcases p with ⟨e1, e2, e3, e4⟩ | ⟨e1, e2, e3⟩
    · subst e1 e4
      rw [i.same.len, e3, List.length_append]
      simp only [List.length_nil, List.length_cons] at ha ⊢
      omega
    · rw [i.same.len, e3, List.length_set]
      rw [e1, List.length_append] at ha
      simp only [List.length_cons, List.length_nil] at ha
      omega

theorem full_is {ns : List Nd} {r : Int} {free : List Int} {T : Tr} (h : TreeOk ns r free T) : (T.sum ns).1.length = 32 ↔ ns.length = 32 ∧ free.length = 0 := by
  have := h.all
  have := h.few
  have := Tr.sum_len ns T
  omega

theorem drop_pre {ns : List Nd} {r : Int} {free : List Int} {T : Tr} {x : It} (h : TreeOk ns r free T) (hx : x ∈ (T.sum ns).1) : DropPre ns x T := ⟨h.few, h.ok, h.once, hx, h.row⟩

theorem delete_ok {ns n2 : List Nd} {r : Int} {free : List Int} {T U : Tr} {x : It} {f : Nat} (h : TreeOk ns r free T) (i : DropIs ns x T f n2 U) : allF n2 U.top (free ++ [(f : Int)]) = some (withoutF x (T.sum ns).1) := by
  have hon := h.once
  rw [← i.perm.nodup_iff, List.nodup_cons] at hon
  have hf : f ∈ T.places := i.perm.mem_iff.1 (by simp)
  rw [← i.row]
  refine all_of ⟨by rw [i.same.len]; exact h.few, rfl, i.ok, hon.2, ?_, ?_, ?_, by rw [i.row]; exact without_rises h.row⟩
  · rw [List.nodup_append]
    refine ⟨h.bare, by simp, ?_⟩
    rintro k hk j hj rfl
    have hj : k = (f : Int) := by simpa using hj
    have := (h.spare k hk).2.2.1
    rw [hj] at this
    exact this (by simpa using hf)
  · intro k hk
    rw [i.same.len]
    rcases List.mem_append.1 hk with hk | hk
    · obtain ⟨q1, q2, q3, q4⟩ := h.spare k hk
      exact ⟨q1, q2, fun e => q3 (i.perm.mem_iff.1 (List.mem_cons_of_mem _ e)), by rw [i.same.at_ _ q3]; exact q4⟩
    · have hk : k = (f : Int) := by simpa using hk
      subst hk
      have := Tr.ok_in h.ok f hf
      exact ⟨by omega, by omega, by simpa using hon.1, by simpa using i.zero⟩
  · have hp := i.perm.length_eq
    have ha := h.all
    rw [List.length_cons] at hp
    rw [i.same.len, List.length_append]
    simp only [List.length_cons, List.length_nil]
    omega

theorem meets_whole {xs : List It} (h : ∀ x ∈ xs, itB x = true) : meetsF 0 4096 xs = xs := by
  unfold meetsF
  rw [List.filter_eq_self]
  intro x hx
  have := h x hx
  simp only [itB, Bool.and_eq_true, span_may] at this
  rw [meets_may]
  omega

end Go.Proofs.Ytgfehlmiejnonaa
