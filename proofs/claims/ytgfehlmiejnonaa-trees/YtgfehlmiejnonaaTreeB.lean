/-
  The reference's hung: what hangs at a place.
-/
import Derived.Test.YtgfehlmiejnonaaTreeA
set_option maxRecDepth 20000
namespace Go.Proofs.Ytgfehlmiejnonaa
open Go.RowKit

def boolsT (bs : List Bool) : List Value := bs.map Value.bool

theorem boolsT_set (bs : List Bool) (i : Nat) (b : Bool) : (boolsT bs).set i (.bool b) = boolsT (bs.set i b) := by simp [boolsT, List.map_set]

theorem boolsT_at {bs : List Bool} {i : Nat} (h : i < bs.length) : (boolsT bs)[i]? = some (.bool (marked bs i)) := by simp [boolsT, marked, h]

def hgV (o : Option Hg) : Hg := o.getD ([], 0, 0)

def HungPost (w : World) (g : Nat) (F : List Bool × Option Hg) (e : Ending) (w' : World) : Prop :=
  ∃ v, e = .returned (.tuple #[v, .int .i64 (hgV F.2).2.1, .int .i64 (hgV F.2).2.2, .bool F.2.isSome]) ∧ MineE itemE w' w.heap.size v (hgV F.2).1.length (hgV F.2).1 ∧ w.grownBy w' (some g) ∧ Own w' g 4 (boolsT F.1)

theorem results_tmp4 {fn : Func} {t u v x : Tmp} (h : fn.results = #[.tmp t, .tmp u, .tmp v, .tmp x]) (tmps : Array Value) (P : Program) (w : World) :
    (results fn tmps).run P w = .ok (.tuple #[tmps.getD t undef, tmps.getD u undef, tmps.getD v undef, tmps.getD x undef]) w := by
  simp [results, h]

theorem Tr.high_le {ns : List Nd} : ∀ (T : Tr), (T.sum ns).2.1 ≤ T.deep
  | .nil => Int.le_refl _
  | .node k l r => by
    have a := Tr.high_le (ns := ns) l
    have b := Tr.high_le (ns := ns) r
    simp only [Tr.sum, topH, Tr.deep]
    omega

theorem hung_bd {ns : List Nd} {f : Nat} {p : Int} {s t : List Bool} {y : Hg} (hl : s.length = ns.length) (h : hungF ns f p s = (t, some y)) : 0 ≤ y.2.1 ∧ y.2.1 ≤ ns.length ∧ y.1.length ≤ ns.length := by
  obtain ⟨T, h1, h2, h3, h4, h5, h6⟩ := of_hung f p s t y hl h
  have e := marks_less h4 (fun k hk => ⟨by have := (h5 k hk).1; omega, (h5 k hk).2⟩) h6
  have u : unseen s ≤ s.length := List.countP_le_length
  have l := T.sum_len ns
  obtain ⟨n, hn, _⟩ := Tr.high h2
  have d := T.deep_le
  have m := Tr.high_le (ns := ns) T
  rw [h3] at l hn m
  refine ⟨by omega, by omega, by omega⟩

theorem hg_none {o : Option Hg} (h : o = none) : hgV o = ([], 0, 0) ∧ o.isSome = false := by
  subst h
  exact ⟨rfl, rfl⟩

theorem hung_no {w w' : World} {g : Nat} {F : List Bool × Option Hg} (h : F.2 = none) (k : w.grownBy w' (some g)) (o : Own w' g 4 (boolsT F.1)) :
    HungPost w g F (.returned (.tuple #[.slice none 0 0, .int .i64 0, .int .i64 0, .bool false])) w' := by
  obtain ⟨h1, h2⟩ := hg_none h
  exact ⟨.slice none 0 0, by rw [h1, h2], by rw [h1]; exact MineE.nil _ _ _, k, o⟩

theorem grown_then {a b c : World} {row : Option Nat} (h : a.grownBy b row) (k : b.grownBy c none) : a.grownBy c row :=
  ⟨k.os.trans h.os, k.tape.trans h.tape, k.output.trans h.output, Nat.le_trans h.size k.size, fun i hi hne => (k.block i (Nat.lt_of_lt_of_le hi h.size) (by simp)).trans (h.block i hi hne)⟩

theorem grown_same {a b c : World} {row : Option Nat} (h : a.grownBy b row) (k : b.grownBy c row) : a.grownBy c row :=
  ⟨k.os.trans h.os, k.tape.trans h.tape, k.output.trans h.output, Nat.le_trans h.size k.size, fun i hi hne => (k.block i (Nat.lt_of_lt_of_le hi h.size) hne).trans (h.block i hi hne)⟩

theorem Elts.grownR {α : Type} {E : Elt α} {w w' : World} {B : Nat} {A : Option Addr} {n : Nat} {xs : List α} {row : Option Nat} (h : Elts E w B A n xs) (hB : B ≤ w.heap.size) (k : w.grownBy w' row) (hr : ∀ g, row = some g → B ≤ g) : Elts E w' B A n xs :=
  h.keep fun p hp => grown_cell k (by omega) (fun e => by have := hr _ e; omega)

theorem Own.seven {w : World} {g : Nat} {T : TypeId} {a b c d e f x : Value} (h : Own w g T [a, b, c, d, e, f, x]) : w.cell? ⟨g, 0, none⟩ = some a ∧ w.cell? ⟨g, 1, none⟩ = some b ∧ w.cell? ⟨g, 2, none⟩ = some c ∧ w.cell? ⟨g, 3, none⟩ = some d ∧ w.cell? ⟨g, 4, none⟩ = some e ∧ w.cell? ⟨g, 5, none⟩ = some f ∧ w.cell? ⟨g, 6, none⟩ = some x :=
  ⟨h.cell 0, h.cell 1, h.cell 2, h.cell 3, h.cell 4, h.cell 5, h.cell 6⟩

theorem hung_in {ns : List Nd} {f k : Nat} {s : List Bool} (hk : k < ns.length) (hm : marked s k = false) : hungF ns (f + 1) (k : Nat) s =
    ((hungF ns f (nd ns k).2.2.1 (hungF ns f (nd ns k).2.1 (s.set k true)).1).1, joinH (nd ns k) (hungF ns f (nd ns k).2.1 (s.set k true)).2 (hungF ns f (nd ns k).2.2.1 (hungF ns f (nd ns k).2.1 (s.set k true)).1).2) := by
  have e : ((k : Nat) : Int).toNat = k := by omega
  rw [hungF, if_neg (by omega), if_neg (by rw [e, hm]; simp; omega)]
  simp only [e]

theorem hung_out {ns : List Nd} {f : Nat} {p : Int} {s : List Bool} (h1 : p ≠ -1) (h2 : p < 0 ∨ (ns.length : Int) ≤ p ∨ marked s p.toNat = true) : hungF ns (f + 1) p s = (s, none) := by rw [hungF, if_neg h1, if_pos h2]

def HungC (ns : List Nd) (n : Nat) (r : Int) (A : Option Addr) (c : Nat) (FA : Option Addr) (fn fc g sc B f : Nat) : Prop := ∀ (p : Int) (s : List Bool) (w : World), Elts nodeE w B A n ns → Own w g 4 (boolsT s) → s.length = n → unseen s < f →
    Calls Try.prog 35 #[.agg #[.slice A n c, .int .i64 r, .slice FA fn fc], .int .i64 p, .slice (some ⟨g, 0, none⟩) n sc] w (HungPost w g (hungF ns f p s))

set_option maxHeartbeats 4000000 in
theorem hung_step (ns : List Nd) (n : Nat) (r : Int) (A : Option Addr) (c : Nat) (FA : Option Addr) (fn fc g sc : Nat) (hn : n ≤ 32) (f : Nat) {B : Nat} (hB : B ≤ g) (ih : HungC ns n r A c FA fn fc g sc B f) (p : Int) (s : List Bool) (w : World) (h : Elts nodeE w B A n ns) (ho : Own w g 4 (boolsT s)) (hl : s.length = n) (hu : unseen s < f + 1) :
    Calls Try.prog 35 #[.agg #[.slice A n c, .int .i64 r, .slice FA fn fc], .int .i64 p, .slice (some ⟨g, 0, none⟩) n sc] w (HungPost w g (hungF ns (f + 1) p s)) := by
    have IH := Lib.hid ih
    clear ih
    have HR := Lib.hid h
    have HU := Lib.hid hu
    have HL := Lib.hid hl
    have HLEN := Lib.hid h.len
    have hgl := ho.lt
    have G := Lib.hid (grow0 w (.cells #[.slice A n c, .int .i64 r, .slice FA fn fc] 25))
    have OQ := Lib.hid (Own.new w 25 [.slice A n c, .int .i64 r, .slice FA fn fc])
    have OB := Lib.hid (ho.kept G.out)
    have HO := Lib.hid ho
    clear h hu hl ho
    by_cases hp : p = -1
    · subst hp
      have E : Hid (hungF ns (f + 1) (-1) s = (s, some ([], 0, 0))) := by rw [Hid, hungF, if_pos rfl]
      go_enter Try.func35, Try.ntmps35
      go_wp2
      (try simp only [Exit.inBlock, Exit.then])
      refine bodyPost_ret (results_tmp4 rfl _ _ _) rfl ?_
      rw [E.out]
      exact ⟨.slice none 0 0, rfl, MineE.nil _ _ _, grown_then (World.grownBy.refl w _) G.out, OB.out⟩
    have e1 : (p == -1) = false := by simpa using hp
    by_cases hq : p < 0 ∨ (n : Int) ≤ p
    · have E : Hid (hungF ns (f + 1) p s = (s, none)) := hung_out hp (by rcases hq with h | h; exact .inl h; exact .inr (.inl (by rw [HLEN.out]; exact h)))
      clear hp
      go_enter Try.func35, Try.ntmps35
      by_cases hq1 : p < 0
      · clear hq
        go_wp2
        (try simp only [Exit.inBlock, Exit.then])
        refine bodyPost_ret (results_tmp4 rfl _ _ _) rfl ?_
        rw [E.out]
        exact hung_no rfl (grown_then (World.grownBy.refl w _) G.out) OB.out
      · have hq2 : (n : Int) ≤ p := by omega
        clear hq
        obtain ⟨c0, c1, c2⟩ := OQ.out.three
        go_wp2
        (try simp only [Exit.inBlock, Exit.then])
        refine bodyPost_ret (results_tmp4 rfl _ _ _) rfl ?_
        rw [E.out]
        exact hung_no rfl (grown_then (World.grownBy.refl w _) G.out) OB.out
    obtain ⟨k, rfl⟩ : ∃ k : Nat, p = (k : Nat) := ⟨p.toNat, by omega⟩
    have hk : k < n := by omega
    have b0 := OB.out.cell k
    rw [boolsT_at (by rw [HL.out]; exact hk)] at b0
    clear hq hp
    cases hm : marked s k
    case true =>
      have E : Hid (hungF ns (f + 1) (k : Nat) s = (s, none)) := hung_out (by omega) (.inr (.inr (by rw [show ((k : Nat) : Int).toNat = k by omega]; exact hm)))
      rw [hm] at b0
      clear hm
      obtain ⟨c0, c1, c2⟩ := OQ.out.three
      go_enter Try.func35, Try.ntmps35
      go_wp2
      (try simp only [Exit.inBlock, Exit.then])
      refine bodyPost_ret (results_tmp4 rfl _ _ _) rfl ?_
      rw [E.out]
      exact hung_no rfl (grown_then (World.grownBy.refl w _) G.out) OB.out
    have E := Lib.hid (hung_in (ns := ns) (f := f) (k := k) (s := s) (by rw [HLEN.out]; exact hk) hm)
    have HU1 := Lib.hid (unseen_set hm)
    rw [hm] at b0
    clear hm
    have f0 := OB.out.frozen k
    have hsz : (w.alloc (.cells #[.slice A n c, .int .i64 r, .slice FA fn fc] 25)).heap.size = w.heap.size + 1 := by simp
    obtain ⟨c0, c1, c2⟩ := OQ.out.three
    go_enter Try.func35, Try.ntmps35
    go_upto_region 6 with fail
    clear b0 f0 c0 c1 c2 hsz
    have G1 : Hid (w.grownBy ((w.setCell ⟨g, k, none⟩ (.bool true)).alloc (.cells #[.slice A n c, .int .i64 r, .slice FA fn fc] 25)) (some g)) := grown_then (grown_set (World.grownBy.refl w _) _) (grow0 _ _)
    have OQ1 : Hid (Own ((w.setCell ⟨g, k, none⟩ (.bool true)).alloc (.cells #[.slice A n c, .int .i64 r, .slice FA fn fc] 25)) w.heap.size 25 [.slice A n c, .int .i64 r, .slice FA fn fc]) := by
      have h := Own.new (w.setCell ⟨g, k, none⟩ (.bool true)) 25 [.slice A n c, .int .i64 r, .slice FA fn fc]
      have e : (w.setCell ⟨g, k, none⟩ (.bool true)).heap.size = w.heap.size := by simp [World.setCell]
      rw [e] at h
      exact h
    have OB1 : Hid (Own ((w.setCell ⟨g, k, none⟩ (.bool true)).alloc (.cells #[.slice A n c, .int .i64 r, .slice FA fn fc] 25)) g 4 (boolsT (s.set k true))) := by
      have h := (HO.out.put (i := k) (.bool true)).alloc (.cells #[.slice A n c, .int .i64 r, .slice FA fn fc] 25)
      rw [boolsT_set] at h
      exact h
    have HR1 := Lib.hid (HR.out.grownR (by omega) G1.out (fun g' e => by injection e with e; omega))
    have hsz : ((w.setCell ⟨g, k, none⟩ (.bool true)).alloc (.cells #[.slice A n c, .int .i64 r, .slice FA fn fc] 25)).heap.size = w.heap.size + 1 := by simp [World.setCell]
    have HSZ := Lib.hid hsz
    clear hsz G OQ OB HO HR
    generalize (w.setCell ⟨g, k, none⟩ (.bool true)).alloc (.cells #[.slice A n c, .int .i64 r, .slice FA fn fc] 25) = w1 at *
    obtain ⟨c0, c1, c2⟩ := OQ1.out.three
    obtain ⟨b, off, rfl, hb, hcell⟩ := HR1.out.nds (by omega)
    obtain ⟨d0, d1, d2, d3, d4, d5, d6⟩ := hcell k hk
    clear hcell
    generalize nd ns k = x at *
    obtain ⟨⟨x0, x1, x2⟩, xl, xr, xh, xm⟩ := x
    simp only at d0 d1 d2 d3 d4 d5 d6 E
    obtain ⟨t1, a, ha⟩ : ∃ t1 a, hungF ns f xl (s.set k true) = (t1, a) := ⟨_, _, rfl⟩
    have IH1 := Lib.hid (show ∀ w, Elts nodeE w B (some ⟨b, off, none⟩) n ns → Own w g 4 (boolsT (s.set k true)) → (s.set k true).length = n → unseen (s.set k true) < f → _ from IH.out xl (s.set k true))
    rw [ha] at IH1 E
    have HA := Lib.hid (hung_less ns f xl (s.set k true))
    rw [ha] at HA
    have HBA := Lib.hid (fun y (h : a = some y) => hung_bd (ns := ns) (f := f) (p := xl) (s := s.set k true) (t := t1) (y := y) (by rw [List.length_set, HL.out, HLEN.out]) (by rw [ha, h]))
    clear ha
    simp only at E
    obtain ⟨t2, a2, ha⟩ : ∃ t2 a2, hungF ns f xr t1 = (t2, a2) := ⟨_, _, rfl⟩
    have IH2 := Lib.hid (show ∀ w, Elts nodeE w B (some ⟨b, off, none⟩) n ns → Own w g 4 (boolsT t1) → t1.length = n → unseen t1 < f → _ from IH.out xr t1)
    rw [ha] at IH2 E
    have HBB := Lib.hid (fun y (h : a2 = some y) => hung_bd (ns := ns) (f := f) (p := xr) (s := t1) (t := t2) (y := y) (by rw [HA.out.1, List.length_set, HL.out, HLEN.out]) (by rw [ha, h]))
    clear ha IH
    simp only at E
    go_upto_region 7 with fail
    clear c0 c1 c2 d0 d1 d2 d3 d4 d5 d6
    have k2 := grow0 w1 (.cells #[.int .i64 x0, .int .i64 x1, .int .i64 x2, .int .i64 xl, .int .i64 xr, .int .i64 xh, .int .i64 xm] 64)
    have ON := Lib.hid (Own.new w1 64 [.int .i64 x0, .int .i64 x1, .int .i64 x2, .int .i64 xl, .int .i64 xr, .int .i64 xh, .int .i64 xm])
    have OQ2 := Lib.hid (OQ1.out.kept k2)
    have OB2 := Lib.hid (OB1.out.kept k2)
    have G2 := Lib.hid (grown_then G1.out k2)
    have HR2 := Lib.hid (HR1.out.grown (by have := HSZ.out; omega) k2)
    have hs2 : (w1.alloc (.cells #[.int .i64 x0, .int .i64 x1, .int .i64 x2, .int .i64 xl, .int .i64 xr, .int .i64 xh, .int .i64 xm] 64)).heap.size = w.heap.size + 1 + 1 := by simp [HSZ.out]
    have HS2 := Lib.hid hs2
    rw [HSZ.out] at ON
    rw [HSZ.out]
    clear hs2 k2 OQ1 OB1 G1 HR1
    generalize w1.alloc (.cells #[.int .i64 x0, .int .i64 x1, .int .i64 x2, .int .i64 xl, .int .i64 xr, .int .i64 xh, .int .i64 xm] 64) = w2 at *
    clear HSZ
    obtain ⟨c0, c1, c2⟩ := OQ2.out.three
    obtain ⟨d0, d1, d2, d3, d4, d5, d6⟩ := ON.out.seven
    go_wp2_with fail
    refine (IH1.out w2 HR2.out OB2.out (by rw [List.length_set, HL.out]) (by have := HU.out; have := HU1.out; omega)).mono ?_
    rintro e w3 ⟨v1, rfl, m1, g3, o3⟩
    have M1 := Lib.hid m1
    have OB3 := Lib.hid o3
    have G3 := Lib.hid (grown_same G2.out g3)
    have OQ3 := Lib.hid (OQ2.out.kept' g3 (by simp; omega))
    have ON3 := Lib.hid (ON.out.kept' g3 (by simp; omega))
    have HR3 := Lib.hid (HR2.out.grownR (by have := HS2.out; omega) g3 (fun g' e => by injection e with e; omega))
    have HS3 : Hid (w.heap.size + 1 + 1 ≤ w3.heap.size) := by have := g3.size; have := HS2.out; rw [Hid]; omega
    have L1 : Hid (∀ k, v1.ownBlock = some k → g ≠ k ∧ k < w3.heap.size) := fun k hk => ⟨by have := m1.own_ge k hk; have := HS2.out; omega, m1.own_lt k hk⟩
    clear m1 g3 o3 OB2 OQ2 ON HR2 G2 c0 c1 c2 d0 d1 d2 d3 d4 d5 d6 IH1
    obtain ⟨c0, c1, c2⟩ := OQ3.out.three
    obtain ⟨d0, d1, d2, d3, d4, d5, d6⟩ := ON3.out.seven
    go_wp2_with fail
    refine (IH2.out w3 HR3.out OB3.out (by rw [HA.out.1, List.length_set, HL.out]) (by have := HU.out; have := HU1.out; have := HA.out.2; omega)).mono ?_
    rintro e w4 ⟨v2, rfl, m2, g4, o4⟩
    have M1 := Lib.hid (M1.out.kept' g4 (fun g' e h => (L1.out g' e).1 (by injection h)))
    have M2 := Lib.hid m2
    have OB4 := Lib.hid o4
    have G4 := Lib.hid (grown_same G3.out g4)
    have OQ4 := Lib.hid (OQ3.out.kept' g4 (by simp; omega))
    have ON4 := Lib.hid (ON3.out.kept' g4 (by simp; omega))
    have HS4 : Hid (w.heap.size + 1 + 1 ≤ w4.heap.size) := by have := g4.size; have := HS3.out; rw [Hid]; omega
    clear m2 g4 o4 OB3 OQ3 ON3 HR3 G3 c0 c1 c2 d0 d1 d2 d3 d4 d5 d6 IH2 L1 HS3 HS2 OQ4 HU HU1
    obtain ⟨d0, d1, d2, d3, d4, d5, d6⟩ := ON4.out.seven
    cases a with
    | none =>
      have E2 : Hid (hungF ns (f + 1) (k : Nat) s = (t2, none)) := by rw [Hid, E.out]; rfl
      clear E
      go_wp2
      (try simp only [Exit.inBlock, Exit.then])
      refine bodyPost_ret (results_tmp4 rfl _ _ _) rfl ?_
      rw [E2.out]
      exact hung_no rfl G4.out OB4.out
    | some a =>
      cases a2 with
      | none =>
        have E2 : Hid (hungF ns (f + 1) (k : Nat) s = (t2, none)) := by rw [Hid, E.out]; rfl
        clear E
        go_wp2
        (try simp only [Exit.inBlock, Exit.then])
        refine bodyPost_ret (results_tmp4 rfl _ _ _) rfl ?_
        rw [E2.out]
        exact hung_no rfl G4.out OB4.out
      | some b2 =>
        obtain ⟨la, lh, lm⟩ := a
        obtain ⟨lb, rh, rm⟩ := b2
        have ba := HBA.out _ rfl
        have bb := HBB.out _ rfl
        simp only [hgV, Option.getD_some] at M1 M2 ba bb
        rw [HLEN.out] at ba bb
        have E2 : Hid (hungF ns (f + 1) (k : Nat) s = (t2, if hangs ((x0, x1, x2), xl, xr, xh, xm) (la, lh, lm) (lb, rh, rm) = true then some (topH ((x0, x1, x2), xl, xr, xh, xm) (la, lh, lm) (lb, rh, rm)) else none)) := by rw [Hid, E.out]; rfl
        clear E HBA HBB
        simp only [hgV, Option.getD_some]
        go_wp2_with fail
        refine (ItemMay_any x0 x1 x2 _).mono ?_
        rintro e w5 ⟨rfl, g5⟩
        have M1 := Lib.hid (M1.out.kept g5)
        have M2 := Lib.hid (M2.out.kept g5)
        have OB5 := Lib.hid (OB4.out.kept g5)
        have ON5 := Lib.hid (ON4.out.kept g5)
        have G5 := Lib.hid (grown_then G4.out g5)
        have HS5 : Hid (w.heap.size + 1 + 1 ≤ w5.heap.size) := by have := g5.size; have := HS4.out; rw [Hid]; omega
        clear g5 OB4 ON4 G4 HS4 d0 d1 d2 d3 d4 d5 d6
        obtain ⟨d0, d1, d2, d3, d4, d5, d6⟩ := ON5.out.seven
        have hw1 : IntKind.i64.wrap (lh - rh) = lh - rh := IntWalk.i64_in _ (by omega)
        have hw2 : IntKind.i64.wrap (rh - lh) = rh - lh := IntWalk.i64_in _ (by omega)
        by_cases hbad : itB (x0, x1, x2) = false ∨ 1 < lh - rh ∨ 1 < rh - lh
        · have E3 : Hid (hungF ns (f + 1) (k : Nat) s = (t2, none)) := by
            rw [Hid, E2.out, if_neg]
            simp only [hangs, Bool.and_eq_true, decide_eq_true_eq]
            rintro ⟨q1, q2, q3, _⟩
            rcases hbad with q | q | q
            · rw [q] at q1; cases q1
            · omega
            · omega
          have hfin : Hid (HungPost w g (hungF ns (f + 1) (k : Nat) s) (.returned (.tuple #[.slice none 0 0, .int .i64 0, .int .i64 0, .bool false])) w5) := by
            rw [Hid, E3.out]
            exact hung_no rfl G5.out OB5.out
          cases hit : itB (x0, x1, x2)
          · clear hbad
            go_wp2
            (try simp only [Exit.inBlock, Exit.then])
            refine bodyPost_ret (results_tmp4 rfl _ _ _) rfl ?_
            exact hfin.out
          · by_cases q1 : 1 < lh - rh
            · clear hbad
              go_wp2
              (try simp only [Exit.inBlock, Exit.then])
              refine bodyPost_ret (results_tmp4 rfl _ _ _) rfl ?_
              exact hfin.out
            · have q2 : 1 < rh - lh := by
                rcases hbad with q | q | q
                · rw [hit] at q; cases q
                · exact absurd q q1
                · exact q
              clear hbad
              go_wp2
              (try simp only [Exit.inBlock, Exit.then])
              refine bodyPost_ret (results_tmp4 rfl _ _ _) rfl ?_
              exact hfin.out
        have hit : itB (x0, x1, x2) = true := by
          cases q : itB (x0, x1, x2)
          · exact absurd (.inl q) hbad
          · rfl
        have q1 : ¬ 1 < lh - rh := fun q => hbad (.inr (.inl q))
        have q2 : ¬ 1 < rh - lh := fun q => hbad (.inr (.inr q))
        rw [hit]
        clear hbad
        obtain ⟨mh, hmh⟩ : ∃ mh, max lh rh = mh := ⟨_, rfl⟩
        obtain ⟨mm, hmm⟩ : ∃ mm, max lm rm = mm := ⟨_, rfl⟩
        obtain ⟨mt, hmt⟩ : ∃ mt, max mm x1 = mt := ⟨_, rfl⟩
        have hmb : 0 ≤ mh ∧ mh ≤ n := by omega
        have E3 : Hid (hungF ns (f + 1) (k : Nat) s = (t2, if xh = mh + 1 ∧ xm = mt then some (la ++ (x0, x1, x2) :: lb, mh + 1, mt) else none)) := by
          rw [Hid, E2.out]
          have e : hangs ((x0, x1, x2), xl, xr, xh, xm) (la, lh, lm) (lb, rh, rm) = decide (xh = mh + 1 ∧ xm = mt) := by
            rw [Bool.eq_iff_iff]
            simp only [hangs, hit, Bool.true_and, Bool.and_eq_true, decide_eq_true_eq, hmh, hmm, hmt]
            constructor
            · rintro ⟨_, _, a, b⟩; exact ⟨a, b⟩
            · rintro ⟨a, b⟩; exact ⟨by omega, by omega, a, b⟩
          rw [e]
          simp only [decide_eq_true_eq, topH, hmh, hmm, hmt]
        clear E2 hit
        go_upto_if 95 with fail
        go_cut [19] from 96 to 96 (fun u wx => u = .int .i64 mh ∧ wx = w5)
        case first =>
          by_cases q3 : lh < rh
          · obtain rfl : rh = mh := by omega
            go_wp2
            go_meet
            exact ⟨rfl, rfl⟩
          · obtain rfl : lh = mh := by omega
            go_wp2
            go_meet
            exact ⟨rfl, rfl⟩
        case rest =>
          obtain ⟨rfl, rfl⟩ := hcut
          generalize wc = wa at *
          go_upto_if 99 with fail
          go_cut [20] from 100 to 100 (fun u wx => u = .int .i64 mm ∧ wx = wa)
          case first =>
            by_cases q3 : lm < rm
            · obtain rfl : rm = mm := by omega
              go_wp2
              go_meet
              exact ⟨rfl, rfl⟩
            · obtain rfl : lm = mm := by omega
              go_wp2
              go_meet
              exact ⟨rfl, rfl⟩
          case rest =>
            obtain ⟨rfl, rfl⟩ := hcut
            generalize wc = wb at *
            go_upto_if 106 with fail
            go_cut [20] from 107 to 110 (fun u wx => u = .int .i64 mt ∧ wx = wb)
            case first =>
              by_cases q3 : mm < x1
              · obtain rfl : x1 = mt := by omega
                go_wp2
                go_meet
                exact ⟨rfl, rfl⟩
              · obtain rfl : mm = mt := by omega
                go_wp2
                go_meet
                exact ⟨rfl, rfl⟩
            case rest =>
              obtain ⟨rfl, rfl⟩ := hcut
              generalize wc = w5 at *
              have hw3 : IntKind.i64.wrap (mh + 1) = mh + 1 := IntWalk.i64_in _ (by omega)
              by_cases hbad : xh = mh + 1 ∧ xm = mt
              case neg =>
                have hfin : Hid (HungPost w g (hungF ns (f + 1) (k : Nat) s) (.returned (.tuple #[.slice none 0 0, .int .i64 0, .int .i64 0, .bool false])) w5) := by
                  rw [Hid, E3.out, if_neg hbad]
                  exact hung_no rfl G5.out OB5.out
                by_cases q3 : xh = mh + 1
                · have e3 : (xh != mh + 1) = false := by simpa using q3
                  have e4 : (xm != mt) = true := by simpa using fun q => hbad ⟨q3, q⟩
                  clear hbad q3
                  go_wp2
                  (try simp only [Exit.inBlock, Exit.then])
                  refine bodyPost_ret (results_tmp4 rfl _ _ _) rfl ?_
                  exact hfin.out
                · have e3 : (xh != mh + 1) = true := by simpa using q3
                  clear hbad q3
                  go_wp2
                  (try simp only [Exit.inBlock, Exit.then])
                  refine bodyPost_ret (results_tmp4 rfl _ _ _) rfl ?_
                  exact hfin.out
              case pos =>
                have E4 : Hid (hungF ns (f + 1) (k : Nat) s = (t2, some (la ++ (x0, x1, x2) :: lb, mh + 1, mt))) := by rw [Hid, E3.out, if_pos hbad]
                have e3 : (xh != mh + 1) = false := by simpa using hbad.1
                have e4 : (xm != mt) = false := by simpa using hbad.2
                obtain ⟨A1, k1, rfl, _, n1, r1⟩ := M1.out.row
                obtain ⟨A2, k2, rfl, _, n2, r2⟩ := M2.out.row
                have R1 := Lib.hid (r1.grown (Nat.le_refl _) (grow0 w5 (.cells #[] 50)))
                have N1 := Lib.hid n1
                have N2 := Lib.hid n2
                have R2 := Lib.hid r2
                have HM := Lib.hid (MineE.lit (E := itemE) (w := w5) (base := w5.heap.size) [] 0 rfl rfl rfl (Nat.le_refl _) (by simp))
                clear hbad E3 M1 M2 r1 r2 n1 n2
                go_upto_region 20 with fail
                clear e3 e4 d3 d4 d5 d6
                go_wp2_with (first | (at_builtin; refine wpList_appE itemE _ rfl _ _ rfl w5.heap.size _ 0 [] rfl HM.out (B := w5.heap.size) A1 la.length k1 la rfl R1.out N1.out (by unfold maxLen; omega) (by show (0 + la.length) * 24 ≤ _; omega) (by simp) ?_))
                intro v6 w6 m6 g6 _
                have G6 := Lib.hid (grown_none (grow0 w5 (.cells #[] 50)) g6 HM.out.own_ge)
                have ON6 := Lib.hid (ON5.out.kept G6.out)
                have HL6 : Hid (Elts itemE (w6.alloc (.cells #[.int .i64 x0, .int .i64 x1, .int .i64 x2] 50)) (w6.heap.size + 1) (some ⟨w6.heap.size, 0, none⟩) 1 [(x0, x1, x2)]) := Elts.lit (E := itemE) (w := w6) (n := 1) [(x0, x1, x2)] rfl rfl rfl (by simp)
                have M6 := Lib.hid (m6.kept (grow0 w6 (.cells #[.int .i64 x0, .int .i64 x1, .int .i64 x2] 50)))
                clear m6 g6 HM d0 d1 d2
                obtain ⟨d0, d1, d2, d3, d4, d5, d6⟩ := ON6.out.seven
                clear d3 d4 d5 d6
                go_wp2_with (first | (at_builtin; refine wpList_appE itemE _ rfl _ _ rfl w5.heap.size _ la.length la rfl M6.out (B := w6.heap.size + 1) (some ⟨w6.heap.size, 0, none⟩) 1 1 [(x0, x1, x2)] rfl HL6.out (by simp) (by unfold maxLen; omega) (by show (la.length + 1) * 24 ≤ _; omega) (by have := G6.out.size; simp; omega) ?_))
                intro v7 w7 m7 g7 _
                have G7 := Lib.hid (grown_none (grown_trans G6.out (grow0 w6 (.cells #[.int .i64 x0, .int .i64 x1, .int .i64 x2] 50))) g7 M6.out.own_ge)
                have R2 := Lib.hid (R2.out.grown (Nat.le_refl _) G7.out)
                have M7 := Lib.hid m7
                clear m7 g7 M6 HL6 d0 d1 d2
                go_wp2_with (first | (at_builtin; refine wpList_appE itemE _ rfl _ _ rfl w5.heap.size _ (la.length + 1) (la ++ [(x0, x1, x2)]) rfl M7.out (B := w5.heap.size) A2 lb.length k2 lb rfl R2.out N2.out (by unfold maxLen; omega) (by show (la.length + 1 + lb.length) * 24 ≤ _; omega) (by have := G7.out.size; omega) ?_))
                intro v8 w8 m8 g8 _
                have G8 := Lib.hid (grown_none G7.out g8 M7.out.own_ge)
                have M8 := Lib.hid m8
                clear m8 g8 M7
                go_wp2
                (try simp only [Exit.inBlock, Exit.then])
                refine bodyPost_ret (results_tmp4 rfl _ _ _) rfl ?_
                rw [E4.out]
                have m8 := M8.out
                have e8 : la ++ [(x0, x1, x2)] ++ lb = la ++ (x0, x1, x2) :: lb := by simp
                have m8 : MineE itemE w8 w5.heap.size v8 (la ++ (x0, x1, x2) :: lb).length (la ++ (x0, x1, x2) :: lb) := by
                  have hl := m8.length
                  first
                    | (rw [← hl, e8] at m8; exact m8)
                    | (rw [← hl] at m8; exact m8)
                exact ⟨v8, rfl, m8.wide (by have := HS5.out; omega), grown_then G5.out G8.out, OB5.out.kept G8.out⟩

theorem hung_any (ns : List Nd) (n : Nat) (r : Int) (A : Option Addr) (c : Nat) (FA : Option Addr) (fn fc g sc : Nat) (hn : n ≤ 32) {B : Nat} (hB : B ≤ g) : ∀ f, HungC ns n r A c FA fn fc g sc B f := by
  intro f
  induction f with
  | zero => exact fun _ _ _ _ _ _ hu => absurd hu (Nat.not_lt_zero _)
  | succ f ih => exact fun p s w h ho hl hu => hung_step ns n r A c FA fn fc g sc hn f hB ih p s w h ho hl hu

end Go.Proofs.Ytgfehlmiejnonaa
