/-
  block.begin: what its loop keeps.
-/
import Derived.Test.YtlpohlcmjnlbhaaPushA
import Derived.Test.YtlpohlcmjnlbhaaLevelG
set_option maxRecDepth 20000
namespace Go.Proofs.Ytlpohlcmjnlbhaa
open Go.RowKit

/-- Rows of the call's own, each apart from the others. -/
structure Fam (w : World) (base : Nat) (vs : List Value) (xs : List (List Int)) : Prop where
  len : vs.length = xs.length
  at_ : ∀ i, i < vs.length → Mine w base (vs[i]?.getD nilS) (xs[i]?.getD []).length (xs[i]?.getD [])
  apart : ∀ i j, i < vs.length → j < vs.length → i ≠ j → Apart (vs[i]?.getD nilS) (vs[j]?.getD nilS)

theorem Fam.kept {w w' : World} {base : Nat} {vs : List Value} {xs : List (List Int)} (h : Fam w base vs xs) (k : w.grownBy w' none) : Fam w' base vs xs :=
  ⟨h.len, fun i hi => (h.at_ i hi).kept k, h.apart⟩

theorem Fam.putLow {w : World} {q i base : Nat} {u : Value} {vs : List Value} {xs : List (List Int)} (h : Fam w base vs xs) (hq : q < base) : Fam (w.setCell ⟨q, i, none⟩ u) base vs xs :=
  ⟨h.len, fun i hi => (h.at_ i hi).putLow hq, h.apart⟩

theorem getD_set {α : Type} {xs : List α} {i : Nat} (hi : i < xs.length) (x d : α) (j : Nat) : (xs.set i x)[j]?.getD d = if j = i then x else xs[j]?.getD d := by
  by_cases e : j = i
  · subst e
    rw [if_pos rfl, List.getElem?_set_self hi]
    rfl
  · rw [if_neg e, List.getElem?_set_ne (fun h => e h.symm)]

theorem Fam.step {w w' : World} {base : Nat} {vs : List Value} {xs : List (List Int)} {i n : Nat} {v' : Value} {ys : List Int} (h : Fam w base vs xs) (hi : i < vs.length) (m : Mine w' base v' n ys) (k : w.grownBy w' (vs[i]?.getD nilS).ownBlock) (c : v'.ownBlock = (vs[i]?.getD nilS).ownBlock ∨ v'.ownBlock = some w.heap.size) : Fam w' base (vs.set i v') (xs.set i ys) := by
  have hl := h.len
  obtain rfl := m.len
  refine ⟨by simp [hl], fun j hj => ?_, fun j l hj hl' hne => ?_⟩
  · rw [List.length_set] at hj
    rw [getD_set hi, getD_set (by omega)]
    by_cases e : j = i
    · rw [if_pos e, if_pos e]; exact m
    · rw [if_neg e, if_neg e]
      exact (h.at_ j hj).kept' k (fun g hg e2 => h.apart i j hi hj (fun q => e q.symm) g e2 hg)
  · rw [List.length_set] at hj hl'
    rw [getD_set hi, getD_set hi]
    by_cases e : j = i
    · rw [if_pos e, if_neg (fun q => hne (e.trans q.symm))]
      exact apart_new (h.apart i l hi hl' (fun q => hne (e.trans q))) (h.at_ l hl').own_lt c
    · rw [if_neg e]
      by_cases e2 : l = i
      · rw [if_pos e2]
        exact apart_symm (apart_new (h.apart i j hi hj (fun q => e q.symm)) (h.at_ j hj).own_lt c)
      · rw [if_neg e2]
        exact h.apart j l hj hl' hne

theorem Fam.none {w : World} {base n : Nat} : Fam w base (List.replicate n nilS) (List.replicate n []) := by
  have e : ∀ i, (List.replicate n nilS)[i]?.getD nilS = nilS := fun i => by rw [List.getElem?_replicate]; split <;> rfl
  have e2 : ∀ i, (List.replicate n ([] : List Int))[i]?.getD [] = [] := fun i => by rw [List.getElem?_replicate]; split <;> rfl
  refine ⟨by simp, fun i _ => ?_, fun i j _ _ _ => ?_⟩
  · rw [e, e2]; exact Mine.nil _ _
  · rw [e, e]; exact (apart_nil _).1

theorem rooms_zero (caps f : List Int) : roomsA caps f 0 = [] := rfl
theorem opns_zero (N : Net) : opnsA N 0 = List.replicate N.V [] := by
  have : ∀ u : Int, opnA N 0 u = [] := fun u => rfl
  simp [opnsA, this, List.map_const']

/-- What stays as it was made ahead of the loop. -/
structure BgK (w : World) (N : Net) (qa gp gO B base : Nat) (A : Option Addr) (c : Nat) (Ax Ay Az : Option Addr) (ns no cx cy cz : Nat) (Am : Option Addr) (wr : World) : Prop where
  g : w.grownBy wr none
  ob : Own wr w.heap.size 24 [.int .i64 (N.V : Nat), .slice A N.n c]
  or : Own wr (w.heap.size + 1) 97 [.int .i64 0, nilS, nilS, nilS]
  oa : Own wr qa 111 [.slice Ax ns cx, .slice Ay no cy, .slice Az (2 * N.n) cz]
  hh : Row wr B Az (2 * N.n) (headsA N.ls (2 * N.n))
  lm : Row wr B Am N.V N.M
  lt : w.heap.size + 1 < qa ∧ qa < B ∧ B ≤ gp ∧ B ≤ gO ∧ gp < base ∧ gO < base ∧ gp ≠ gO
  sz : base ≤ wr.heap.size

theorem BgK.grown {w : World} {N : Net} {qa gp gO B base : Nat} {A : Option Addr} {c : Nat} {Ax Ay Az : Option Addr} {ns no cx cy cz : Nat} {Am : Option Addr} {wr w' : World} {row : Option Nat} (h : BgK w N qa gp gO B base A c Ax Ay Az ns no cx cy cz Am wr) (k : wr.grownBy w' row) (hr : ∀ g, row = some g → base ≤ g) : BgK w N qa gp gO B base A c Ax Ay Az ns no cx cy cz Am w' := by
  obtain ⟨l1, l2, l3, l4, l5, l6, l7⟩ := h.lt
  have hs := h.sz
  exact ⟨grown_none h.g k (fun g e => by have := hr g e; omega), h.ob.kept' k (fun e => by have := hr _ e; omega), h.or.kept' k (fun e => by have := hr _ e; omega), h.oa.kept' k (fun e => by have := hr _ e; omega), h.hh.grown' (by omega) k (fun g e => by have := hr g e; omega), h.lm.grown' (by omega) k (fun g e => by have := hr g e; omega), h.lt, Nat.le_trans h.sz k.size⟩

theorem Row.putHigh {w : World} {B : Nat} {A : Option Addr} {n : Nat} {xs : List Int} {g i : Nat} (h : Row w B A n xs) (hg : B ≤ g) (u : Value) : Row (w.setCell ⟨g, i, none⟩ u) B A n xs :=
  h.keep fun p hp => World.cell?_setCell_other _ _ _ _ (by intro e; subst e; simp at hp; omega)

theorem BgK.put {w : World} {N : Net} {qa gp gO B base : Nat} {A : Option Addr} {c : Nat} {Ax Ay Az : Option Addr} {ns no cx cy cz : Nat} {Am : Option Addr} {wr : World} {g i : Nat} (h : BgK w N qa gp gO B base A c Ax Ay Az ns no cx cy cz Am wr) (hg : B ≤ g) (u : Value) : BgK w N qa gp gO B base A c Ax Ay Az ns no cx cy cz Am (wr.setCell ⟨g, i, none⟩ u) := by
  obtain ⟨l1, l2, l3, l4, l5, l6, l7⟩ := h.lt
  have hs := h.sz
  exact ⟨grown_new h.g (by omega) u, h.ob.setOther (by omega) u, h.or.setOther (by omega) u, h.oa.setOther (by omega) u, h.hh.putHigh hg u, h.lm.putHigh hg u, h.lt, by simpa [World.setCell] using h.sz⟩

def BgMid (w3 : World) (t : Int) (hs : Value) (vn : Nat) (p : Value) (wx : World) : Prop :=
  ∃ gp gO, p = .pointer (some ⟨gp, 0, none⟩) ∧ w3.grownBy wx none ∧ Own wx gp 97 [.int .i64 t, hs, nilS, .slice (some ⟨gO, 0, none⟩) vn vn] ∧ Own wx gO 25 (List.replicate vn nilS) ∧ gp ≠ gO ∧ w3.heap.size ≤ gp ∧ w3.heap.size ≤ gO

def BgRel (w : World) (N : Net) (qa gp gO B base : Nat) (A : Option Addr) (c : Nat) (Ax Ay Az : Option Addr) (ns no cx cy cz : Nat) (Am : Option Addr) (i : Value) (wr : World) : Prop :=
  ∃ (k : Nat) (rA : Option Addr) (rc : Nat) (vs : List Value), k ≤ 2 * N.n ∧ i = .int .i64 (k : Nat) ∧ BgK w N qa gp gO B base A c Ax Ay Az ns no cx cy cz Am wr ∧
    Own wr gp 97 [.int .i64 N.t, .slice Az (2 * N.n) cz, .slice rA k rc, .slice (some ⟨gO, 0, none⟩) N.V N.V] ∧ Own wr gO 25 vs ∧ vs.length = N.V ∧ Fam wr base (.slice rA k rc :: vs) (roomsA N.caps N.f k :: opnsA N k)

def BgPost (w : World) (N : Net) (e : Ending) (w' : World) : Prop :=
  ∃ (Az : Option Addr) (cz : Nat) (rA : Option Addr) (rc gO B base : Nat) (vs : List Value), e = .returned (.agg #[.int .i64 N.t, .slice Az (2 * N.n) cz, .slice rA (2 * N.n) rc, .slice (some ⟨gO, 0, none⟩) N.V N.V]) ∧ w.grownBy w' none ∧
    w.heap.size ≤ gO ∧ w.heap.size ≤ base ∧ gO < base ∧ B ≤ base ∧ base ≤ w'.heap.size ∧ Own w' gO 25 vs ∧ vs.length = N.V ∧ Row w' B Az (2 * N.n) (headsA N.ls (2 * N.n)) ∧ Fam w' base (.slice rA (2 * N.n) rc :: vs) (roomsA N.caps N.f (2 * N.n) :: opnsA N (2 * N.n))

theorem Fam.head {w : World} {base : Nat} {v : Value} {vs : List Value} {x : List Int} {xs : List (List Int)} (h : Fam w base (v :: vs) (x :: xs)) : Mine w base v x.length x := h.at_ 0 (by simp)
theorem Fam.row {w : World} {base : Nat} {v : Value} {vs : List Value} {x : List Int} {xs : List (List Int)} (h : Fam w base (v :: vs) (x :: xs)) {u : Nat} (hu : u < vs.length) : Mine w base (vs[u]?.getD nilS) (xs[u]?.getD []).length (xs[u]?.getD []) ∧ Apart v (vs[u]?.getD nilS) := ⟨h.at_ (u + 1) (by simp; omega), h.apart 0 (u + 1) (by simp) (by simp; omega) (by omega)⟩
theorem Fam.step0 {w w' : World} {base n : Nat} {v v' : Value} {vs : List Value} {x y : List Int} {xs : List (List Int)} (h : Fam w base (v :: vs) (x :: xs)) (m : Mine w' base v' n y) (k : w.grownBy w' v.ownBlock) (c : v'.ownBlock = v.ownBlock ∨ v'.ownBlock = some w.heap.size) : Fam w' base (v' :: vs) (y :: xs) := h.step (i := 0) (by simp) m k c
theorem Fam.stepU {w w' : World} {base n u : Nat} {v v' : Value} {vs : List Value} {x y : List Int} {xs : List (List Int)} (h : Fam w base (v :: vs) (x :: xs)) (hu : u < vs.length) (m : Mine w' base v' n y) (k : w.grownBy w' (vs[u]?.getD nilS).ownBlock) (c : v'.ownBlock = (vs[u]?.getD nilS).ownBlock ∨ v'.ownBlock = some w.heap.size) : Fam w' base (v :: vs.set u v') (x :: xs.set u y) := h.step (i := u + 1) (by simp; omega) m k c

/-- Begun: a pusher in memory. -/
theorem Pst.first {w : World} {N : Net} (ok : N.Ok) {Az : Option Addr} {cz : Nat} {rA : Option Addr} {rc gO B base : Nat} {vs : List Value} (h1 : gO < base) (h2 : B ≤ base) (h3 : base ≤ w.heap.size) (oo : Own w gO 25 vs) (hv : vs.length = N.V) (hh : Row w B Az (2 * N.n) (headsA N.ls (2 * N.n))) (fa : Fam w base (.slice rA (2 * N.n) rc :: vs) (roomsA N.caps N.f (2 * N.n) :: opnsA N (2 * N.n))) :
    Pst (w.alloc (.cells #[.int .i64 N.t, .slice Az (2 * N.n) cz, .slice rA (2 * N.n) rc, .slice (some ⟨gO, 0, none⟩) N.V N.V] 97)) N w.heap.size gO base Az cz rA rc vs (roomsA N.caps N.f (2 * N.n)) (opnsA N (2 * N.n)) := by
  have k := grow0 w (.cells #[.int .i64 N.t, .slice Az (2 * N.n) cz, .slice rA (2 * N.n) rc, .slice (some ⟨gO, 0, none⟩) N.V N.V] 97)
  have h8 := may_small ok.may
  rw [ok.hl] at h8
  have hr := fa.head
  rw [rooms_len] at hr
  have hsz : (w.alloc (.cells #[.int .i64 N.t, .slice Az (2 * N.n) cz, .slice rA (2 * N.n) rc, .slice (some ⟨gO, 0, none⟩) N.V N.V] 97)).heap.size = w.heap.size + 1 := by simp
  have hb : ∀ g, rBlk rA = some g → base ≤ g ∧ g < w.heap.size := by
    intro g hg
    rcases hr.2 with ⟨e, _⟩ | ⟨g', cap, cur, e, b1, b2, _⟩
    · injection e with e1 _ _
      subst e1
      simp [rBlk] at hg
    · injection e with e1 _ _
      subst e1
      simp only [rBlk, Option.map_some, Option.some.injEq] at hg
      subst hg
      exact ⟨b1, (Array.getElem?_eq_some_iff.1 b2).1⟩
  refine ⟨Own.new w _ [_, _, _, _], oo.kept k, hv, (hh.grown (by omega) k).wide (by omega), fun hn a ha e => ?_, hr.kept k, fun e => ?_, fun e => ?_, ?_, fun u hu => ?_⟩
  · obtain ⟨b, off, hA, hb2, _⟩ := hh.at_ hn
    rw [ha] at hA
    have hA := Option.some.inj hA
    subst hA
    have := (hb _ e).1
    simp at this
    omega
  · have := (hb _ e).2; omega
  · have := (hb _ e).1; omega
  · have := oo.lt; omega
  · obtain ⟨m, ap⟩ := fa.row (u := u) (by omega)
    have eo : oAt (opnsA N (2 * N.n)) (u : Int) = (opnsA N (2 * N.n))[u]?.getD [] := rfl
    have hok : okI ((opnsA N (2 * N.n))[u]?.getD []) := by
      rw [opns_at hu]
      refine get_ok fun x hx => ?_
      obtain ⟨a, rfl, ha, _⟩ := opn_mem.1 hx
      omega
    obtain ⟨A, c, hv2, hc, _, hr2⟩ := m.rowN hok
    refine ⟨A, c, ?_, ?_, ?_, fun hn a ha e => ?_⟩
    · rw [eo, ← hv2, List.getElem?_eq_getElem (by omega)]; rfl
    · rw [eo]; exact hc
    · rw [eo]; exact (hr2.grown (Nat.le_refl _) k).wide (by omega)
    · rw [eo] at hn
      rw [hv2] at ap
      rw [hv2] at m
      obtain ⟨g2, hg2, _⟩ := m.at0 hn
      subst ha
      have hg2 := Option.some.inj hg2
      subst hg2
      cases rA with
      | none => simp [rBlk] at e
      | some ra =>
        rcases hr.2 with ⟨e', _⟩ | ⟨g', cap, cur, e', _⟩
        · cases e'
        · injection e' with e1 _ _
          have e1 := Option.some.inj e1
          subst e1
          simp only [rBlk, Option.map_some, Option.some.injEq] at e
          subst e
          exact ap g' rfl rfl

end Go.Proofs.Ytlpohlcmjnlbhaa
