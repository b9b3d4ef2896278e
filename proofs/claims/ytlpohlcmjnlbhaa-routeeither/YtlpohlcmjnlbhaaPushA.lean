/-
  What a pusher holds: rooms, and rows of open arcs; what a call that pushes may turn.
-/
import Derived.Test.YtlpohlcmjnlbhaaJB
import Derived.Test.YtlpohlcmjnlbhaaJH
import Derived.Test.YtlpohlcmjnlbhaaJC
set_option maxRecDepth 20000
namespace Go.Proofs.Ytlpohlcmjnlbhaa
open Go.RowKit

/-- Nothing turned but the block r and the block g. -/
structure Trn (w w' : World) (r : Option Nat) (g : Nat) : Prop where
  os : w'.os = w.os
  tape : w'.tape = w.tape
  output : w'.output = w.output
  size : w.heap.size ≤ w'.heap.size
  block : ∀ i, i < w.heap.size → r ≠ some i → i ≠ g → w'.heap[i]? = w.heap[i]?

theorem Trn.refl (w : World) (r : Option Nat) (g : Nat) : Trn w w r g := ⟨rfl, rfl, rfl, Nat.le_refl _, fun _ _ _ _ => rfl⟩

theorem Trn.trans {a b c : World} {r : Option Nat} {g : Nat} (h : Trn a b r g) (k : Trn b c r g) : Trn a c r g :=
  ⟨k.os.trans h.os, k.tape.trans h.tape, k.output.trans h.output, Nat.le_trans h.size k.size, fun i hi h1 h2 => (k.block i (Nat.lt_of_lt_of_le hi h.size) h1 h2).trans (h.block i hi h1 h2)⟩

theorem Trn.drew {a w : World} {r : Option Nat} {g : Nat} (h : Trn a w r g) : Trn a w.drew r g := ⟨h.os, h.tape, h.output, h.size, h.block⟩
theorem Trn.drewN {a w : World} {r : Option Nat} {g : Nat} (h : Trn a w r g) (k : Nat) : Trn a (w.drewN k) r g := ⟨h.os, h.tape, h.output, h.size, h.block⟩
theorem Trn.undrew {a w : World} {r : Option Nat} {g : Nat} (h : Trn a.drew w r g) : Trn a w r g := ⟨h.os, h.tape, h.output, h.size, h.block⟩

theorem Trn.setR {a w : World} {b g i : Nat} (h : Trn a w (some b) g) (u : Value) : Trn a (w.setCell ⟨b, i, none⟩ u) (some b) g :=
  ⟨h.os, h.tape, h.output, by simpa [World.setCell] using h.size, fun k hk h1 h2 => (Below.heap_setCell w ⟨b, i, none⟩ u k (fun e => h1 (by rw [e]))).trans (h.block k hk h1 h2)⟩

theorem Trn.setO {a w : World} {r : Option Nat} {g i : Nat} (h : Trn a w r g) (u : Value) : Trn a (w.setCell ⟨g, i, none⟩ u) r g :=
  ⟨h.os, h.tape, h.output, by simpa [World.setCell] using h.size, fun k hk h1 h2 => (Below.heap_setCell w ⟨g, i, none⟩ u k (fun e => h2 e)).trans (h.block k hk h1 h2)⟩

theorem Trn.grown {a w w' : World} {r : Option Nat} {g : Nat} (h : a.grownBy w none) (k : Trn w w' r g) (hr : ∀ b, r = some b → a.heap.size ≤ b) (hg : a.heap.size ≤ g) : a.grownBy w' none :=
  ⟨k.os.trans h.os, k.tape.trans h.tape, k.output.trans h.output, Nat.le_trans h.size k.size, fun i hi hne => (k.block i (Nat.lt_of_lt_of_le hi h.size) (fun e => by have := hr i e; omega) (by omega)).trans (h.block i hi hne)⟩

def rBlk (A : Option Addr) : Option Nat := A.map (·.block)
def OffR (A : Option Addr) (n : Nat) (r : Option Nat) : Prop := 0 < n → ∀ a, A = some a → r ≠ some a.block

theorem Row.setOther {w : World} {B : Nat} {A : Option Addr} {n : Nat} {xs : List Int} {g i : Nat} (h : Row w B A n xs) (o : OffR A n (some g)) (u : Value) : Row (w.setCell ⟨g, i, none⟩ u) B A n xs := by
  refine ⟨h.len, h.small, h.ok, fun hn => ?_⟩
  obtain ⟨b, off, hA, hb, hc⟩ := h.at_ hn
  refine ⟨b, off, hA, hb, fun j hj => other_get (fun e => ?_) (hc j hj)⟩
  subst e
  exact o hn _ hA rfl

def OpAt (w : World) (vs : List Value) (O : List (List Int)) (r : Option Nat) (u : Nat) : Prop :=
  ∃ A c, vs[u]? = some (.slice A (oAt O (u : Int)).length c) ∧ (oAt O (u : Int)).length ≤ c ∧ Row w w.heap.size A (oAt O (u : Int)).length (oAt O (u : Int)) ∧ OffR A (oAt O (u : Int)).length r

/-- A pusher in memory. -/
structure Pst (w : World) (N : Net) (q gO base : Nat) (Hz : Option Addr) (ch : Nat) (rA : Option Addr) (rc : Nat) (vs : List Value) (R : List Int) (O : List (List Int)) : Prop where
  oq : Own w q 97 [.int .i64 N.t, .slice Hz (2 * N.n) ch, .slice rA (2 * N.n) rc, .slice (some ⟨gO, 0, none⟩) N.V N.V]
  oo : Own w gO 25 vs
  vl : vs.length = N.V
  hh : Row w w.heap.size Hz (2 * N.n) (headsA N.ls (2 * N.n))
  ho : OffR Hz (2 * N.n) (rBlk rA)
  rm : Mine w base (.slice rA (2 * N.n) rc) (2 * N.n) R
  rq : rBlk rA ≠ some q
  ro : rBlk rA ≠ some gO
  qo : q ≠ gO
  rows : ∀ u, u < N.V → OpAt w vs O (rBlk rA) u

theorem Own.four {w : World} {g : Nat} {T : TypeId} {x y z u : Value} (h : Own w g T [x, y, z, u]) : w.cell? ⟨g, 0, none⟩ = some x ∧ w.cell? ⟨g, 1, none⟩ = some y ∧ w.cell? ⟨g, 2, none⟩ = some z ∧ w.cell? ⟨g, 3, none⟩ = some u := ⟨h.cell 0, h.cell 1, h.cell 2, h.cell 3⟩

theorem Mine.at0 {w : World} {base : Nat} {A : Option Addr} {n c : Nat} {xs : List Int} (h : Mine w base (.slice A n c) n xs) (hn : 0 < n) : ∃ g, A = some ⟨g, 0, none⟩ ∧ base ≤ g := by
  rcases h.2 with ⟨_, rfl⟩ | ⟨g, cap, cur, e, hb, _⟩
  · omega
  · injection e with e1 e2 e3
    exact ⟨g, e1, hb⟩

theorem Mine.cellAt {w : World} {base g n c : Nat} {xs : List Int} (h : Mine w base (.slice (some ⟨g, 0, none⟩) n c) n xs) {i : Nat} (hi : i < n) : w.cell? ⟨g, i, none⟩ = some (.int .i64 (rAt xs i)) := by
  have hl := h.len
  rcases h.2 with ⟨e, rfl⟩ | ⟨g', cap, cur, e, hb, hh, hnc, hm, hsz, htk⟩
  · omega
  · injection e with e1 e2 e3
    have e1 := Option.some.inj e1
    injection e1 with e1
    subst e1
    rw [cell_of_row w g i cur _ (0, 0) hh]
    have h2 : cur.toList[i]? = (ints xs)[i]? := by rw [← htk, List.getElem?_take_of_lt (by omega)]
    rw [← Array.getElem?_toList, h2]
    unfold rAt
    simp [ints, List.getElem?_eq_getElem (show i < xs.length by omega)]

theorem Pst.sl {w : World} {N : Net} {q gO base : Nat} {Hz : Option Addr} {ch : Nat} {rA : Option Addr} {rc : Nat} {vs : List Value} {R : List Int} {O : List (List Int)} (p : Pst w N q gO base Hz ch rA rc vs R O) : ∀ u ∈ vs, isSl u = true := by
  intro u hu
  obtain ⟨i, hi, e⟩ := List.getElem_of_mem hu
  obtain ⟨A, c, e2, _⟩ := p.rows i (by rw [← p.vl]; exact hi)
  rw [List.getElem?_eq_getElem hi, e] at e2
  injection e2 with e2
  rw [e2]
  rfl

theorem Pst.drewN {w : World} {N : Net} {q gO base : Nat} {Hz : Option Addr} {ch : Nat} {rA : Option Addr} {rc : Nat} {vs : List Value} {R : List Int} {O : List (List Int)} (p : Pst w N q gO base Hz ch rA rc vs R O) (k : Nat) : Pst (w.drewN k) N q gO base Hz ch rA rc vs R O :=
  ⟨p.oq, p.oo, p.vl, p.hh.drewN k, p.ho, p.rm.drewN k, p.rq, p.ro, p.qo, fun u hu => by
    obtain ⟨A, c, e1, e2, e3, e4⟩ := p.rows u hu
    exact ⟨A, c, e1, e2, e3.drewN k, e4⟩⟩

theorem Pst.drew {w : World} {N : Net} {q gO base : Nat} {Hz : Option Addr} {ch : Nat} {rA : Option Addr} {rc : Nat} {vs : List Value} {R : List Int} {O : List (List Int)} (p : Pst w N q gO base Hz ch rA rc vs R O) : Pst w.drew N q gO base Hz ch rA rc vs R O := p.drewN 1

/-- A room is written over. -/
theorem Pst.setR {w : World} {N : Net} {q gO base : Nat} {Hz : Option Addr} {ch g : Nat} {rc : Nat} {vs : List Value} {R : List Int} {O : List (List Int)} (p : Pst w N q gO base Hz ch (some ⟨g, 0, none⟩) rc vs R O) {i : Nat} (hi : i < 2 * N.n) (x : Int) : Pst (w.setCell ⟨g, i, none⟩ (.int .i64 x)) N q gO base Hz ch (some ⟨g, 0, none⟩) rc vs (R.set i x) O := by
  have h1 : ¬ g = q := fun e => p.rq (by rw [← e]; rfl)
  have h2 : ¬ g = gO := fun e => p.ro (by rw [← e]; rfl)
  have hsz : (w.setCell ⟨g, i, none⟩ (.int .i64 x)).heap.size = w.heap.size := by simp [World.setCell]
  refine ⟨p.oq.setOther h1 _, p.oo.setOther h2 _, p.vl, by rw [hsz]; exact p.hh.setOther p.ho _, p.ho, p.rm.set i x hi, p.rq, p.ro, p.qo, fun u hu => ?_⟩
  obtain ⟨A, c, e1, e2, e3, e4⟩ := p.rows u hu
  exact ⟨A, c, e1, e2, by rw [hsz]; exact e3.setOther e4 _, e4⟩

/-- A row of open arcs is put in another's place. -/
theorem Pst.setO {w : World} {N : Net} {q gO base : Nat} {Hz : Option Addr} {ch : Nat} {rA : Option Addr} {rc : Nat} {vs : List Value} {R : List Int} {O : List (List Int)} (p : Pst w N q gO base Hz ch rA rc vs R O) (hO : O.length = N.V) {v : Nat} (hv : v < N.V) {A : Option Addr} {m c : Nat} {row : List Int} (hm : row.length = m) (hc : m ≤ c) (hr : Row w w.heap.size A m row) (ho : OffR A m (rBlk rA)) :
    Pst (w.setCell ⟨gO, v, none⟩ (.slice A m c)) N q gO base Hz ch rA rc (vs.set v (.slice A m c)) R (O.set v row) := by
  subst hm
  have hsz : (w.setCell ⟨gO, v, none⟩ (.slice A row.length c)).heap.size = w.heap.size := by simp [World.setCell]
  have hsl := p.sl
  refine ⟨p.oq.setOther (fun e => p.qo e.symm) _, p.oo.setAt v _, by simp [p.vl], by rw [hsz]; exact p.hh.off p.oo hsl _, p.ho, p.rm.kept' (grown_set (World.grownBy.refl w (some gO)) _) (fun g hg e => ?_), p.rq, p.ro, p.qo, fun u hu => ?_⟩
  · injection e with e
    subst e
    refine p.ro ?_
    rcases p.rm.2 with ⟨h, _⟩ | ⟨g', cap, cur, h, _⟩
    · injection h with h _ _
      subst h
      simp [Value.ownBlock] at hg
    · injection h with h _ _
      subst h
      simp only [Value.ownBlock, Option.some.injEq] at hg
      subst hg
      rfl
  · unfold OpAt
    have hoa : oAt (O.set v row) (u : Int) = if u = v then row else oAt O (u : Int) := by
      unfold oAt
      rw [Int.toNat_natCast]
      by_cases e : u = v
      · subst e
        rw [if_pos rfl, List.getElem?_set_self (by omega)]
        rfl
      · rw [if_neg e, List.getElem?_set_ne (by omega)]
    rw [hoa, hsz]
    by_cases e : u = v
    · subst e
      rw [if_pos rfl]
      exact ⟨A, c, by rw [List.getElem?_set_self (by rw [p.vl]; exact hu)], hc, hr.off p.oo hsl _, ho⟩
    · rw [if_neg e]
      obtain ⟨A', c', e1, e2, e3, e4⟩ := p.rows u hu
      exact ⟨A', c', by rw [List.getElem?_set_ne (by omega)]; exact e1, e2, e3.off p.oo hsl _, e4⟩

theorem pair_any (a : Nat) (w : World) (ha : a < 1000) : Calls Try.prog 85 #[.int .i64 (a : Nat)] w fun e w' => e = .returned (.int .i64 (flipN a : Nat)) ∧ w = w' := by
  obtain ⟨i, _, ⟨h1, h2⟩ | ⟨h1, h2⟩⟩ := flip_cases a
  · have hm : ((a : Nat) : Int).tmod 2 = 0 := by rw [Int.tmod_eq_emod_of_nonneg (by omega)]; omega
    have HF : Hid (flipN a = a + 1) := by rw [Hid, h2]; omega
    clear h1 h2
    go_enter Try.func85, Try.ntmps85
    go_wp2
    go_ret
    have := HF.out
    exact ⟨ret_int (by omega), rfl⟩
  · have hm : ((a : Nat) : Int).tmod 2 = 1 := by rw [Int.tmod_eq_emod_of_nonneg (by omega)]; omega
    have h0 : 1 ≤ a := by omega
    have HF : Hid (flipN a + 1 = a) := by rw [Hid, h2]; omega
    clear h1 h2
    go_enter Try.func85, Try.ntmps85
    go_wp2
    go_ret
    have := HF.out
    exact ⟨ret_int (by omega), rfl⟩

end Go.Proofs.Ytlpohlcmjnlbhaa
