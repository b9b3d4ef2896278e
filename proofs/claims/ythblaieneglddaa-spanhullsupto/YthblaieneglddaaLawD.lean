import Derived.Test.YthblaieneglddaaMathCov
import Derived.Test.YthblaieneglddaaLawB
namespace Go.Proofs.Ythblaieneglddaa
open Go.RowKit

def HullRel (w : World) (N : Nat) (i : Value) (wr : World) : Prop := ∃ k, k ≤ N ∧ i = .int .i64 (k : Nat) ∧ w.grownBy wr none

def HullMid (wa : World) (p q : Int) (s t : Value) (wx : World) : Prop :=
  ∃ g, s = .pointer (some ⟨g, 0, none⟩) ∧ t = .bool true ∧ wa.grownBy wx none ∧ wx.cell? ⟨g, 0, none⟩ = some (.int .i64 p) ∧ wx.cell? ⟨g, 1, none⟩ = some (.int .i64 q)

theorem grown_undrew {w w' : World} {row : Option Nat} (h : w.drew.grownBy w' row) : w.grownBy w' row := ⟨h.os, h.tape, h.output, h.size, h.block⟩

theorem grown_drew {a w : World} {row : Option Nat} (h : a.grownBy w row) : a.grownBy w.drew row := ⟨h.os, h.tape, h.output, h.size, h.block⟩

theorem covV_none : covV none = .tuple #[.agg #[.int .i64 0, .int .i64 0], .int .i64 200] := rfl
theorem covV_some (x y : Int) : covV (some (x, y)) = .tuple #[.agg #[.int .i64 x, .int .i64 y], .int .i64 0] := rfl

theorem at2_mem (zs : List (Int × Int)) (k : Nat) (h : k < zs.length) : at2 zs k ∈ zs := by
  rw [at2, List.getElem?_eq_getElem h]
  exact List.getElem_mem h

theorem CoverPair (x1 x2 y1 y2 u v : Int) (hb : coverOf [(x1, x2), (y1, y2)] = some (u, v)) (A : Option Addr) (n c : Nat) {w : World} {B : Nat} (h : Sps w B A n [(x1, x2), (y1, y2)]) (hB : B ≤ w.heap.size) :
    Calls Try.prog 16 #[.slice A n c] w (Says w (.tuple #[.agg #[.int .i64 u, .int .i64 v], .int .i64 0])) := by
  have h := Cover_any A n c _ w h hB
  rwa [hb, covV_some] at h

set_option maxHeartbeats 2000000 in
theorem SpanHulls_walk (A : Option Addr) (n c : Nat) (xs : List (Int × Int)) (A' : Option Addr) (m c' : Nat) (ys : List (Int × Int)) (w : World) (h : InS w A n c xs) (h' : InS w A' m c' ys) (hnm : n + m ≤ 1048576) :
    Calls Try.prog 6 #[.slice A n c, .slice A' m c'] w (LawPost w) := by
  obtain ⟨hs, hnc, hc, hnil⟩ := h
  obtain ⟨hs', hnc', hc', hnil'⟩ := h'
  have HR := Lib.hid hs
  have HR' := Lib.hid hs'
  have HNIL := Lib.hid hnil
  have HNIL' := Lib.hid hnil'
  have C1 := Lib.hid (Cover_any A n c xs w hs (Nat.le_refl _))
  have C2 : Hid (∀ w', w.grownBy w' none → Calls Try.prog 16 #[.slice A' m c'] w' (Says w' (covV (coverOf ys)))) := fun w' g => Cover_any A' m c' ys w' (HR'.out.grown (Nat.le_refl _) g) g.size
  clear hs hs' hnil hnil'
  go_enter Try.func6, Try.ntmps6
  go_wp2_with fail
  refine C1.out.mono ?_
  rintro e w1 ⟨rfl, g1⟩
  have G := Lib.hid g1
  clear C1 g1
  cases hx : coverOf xs with
  | none =>
    rw [covV_none]
    have g2 := grow0 w1 (.cells #[.int .i64 0, .int .i64 0] 23)
    have G := Lib.hid (grown_trans G.out g2)
    clear g2
    go_wp2_with fail
    refine (C2.out _ G.out).mono ?_
    rintro e w2 ⟨rfl, g2⟩
    have G := Lib.hid (grown_trans (grown_trans G.out g2) (grow0 w2 (.cells #[.int .i64 (covP (coverOf ys)).1, .int .i64 (covP (coverOf ys)).2] 23)))
    clear g2
    unfold covV span
    go_wp2_with fail
    refine (Num_any _ _).mono ?_
    rintro e w3 ⟨rfl, rfl⟩
    go_wp2
    go_ret
    exact ⟨rfl, below_of G.out⟩
  | some p =>
    obtain ⟨x1, x2⟩ := p
    rw [covV_some]
    have g2 := grow0 w1 (.cells #[.int .i64 x1, .int .i64 x2] 23)
    have G := Lib.hid (grown_trans G.out g2)
    have O5 := Lib.hid (Own.box (w := w1) (x := .int .i64 x1) (y := .int .i64 x2) (T := 23))
    clear g2
    go_wp2_with fail
    refine (C2.out _ G.out).mono ?_
    rintro e w2 ⟨rfl, g2⟩
    have G := Lib.hid (grown_trans G.out g2)
    have O5 := Lib.hid (O5.out.kept g2)
    have hs12 := g2.size
    simp only [World.size_alloc] at hs12
    clear g2
    cases hy : coverOf ys with
    | none =>
      rw [covV_none]
      have G := Lib.hid (grown_trans G.out (grow0 w2 (.cells #[.int .i64 0, .int .i64 0] 23)))
      go_wp2_with fail
      refine (Num_any _ _).mono ?_
      rintro e w3 ⟨rfl, rfl⟩
      go_wp2_with fail
      refine (Num_any _ _).mono ?_
      rintro e w3 ⟨rfl, rfl⟩
      go_wp2
      go_ret
      exact ⟨rfl, below_of G.out⟩
    | some p =>
      obtain ⟨y1, y2⟩ := p
      rw [covV_some]
      have g2 := grow0 w2 (.cells #[.int .i64 y1, .int .i64 y2] 23)
      have G := Lib.hid (grown_trans G.out g2)
      have O5 := Lib.hid (O5.out.kept g2)
      have O7 := Lib.hid (Own.box (w := w2) (x := .int .i64 y1) (y := .int .i64 y2) (T := 23))
      clear g2
      obtain ⟨u, v, hz, hb⟩ := hull xs ys x1 x2 y1 y2 hx hy
      have HB := Lib.hid (hull_both (xs ++ ys) u v hz)
      have HLEN : Hid ((xs ++ ys).length = n + m) := by show _ = _; rw [List.length_append, Sps_len HR.out, Sps_len HR'.out]
      have HZ := Lib.hid hz
      have HBB := Lib.hid hb
      clear hz hb hx hy
      go_wp2_with fail
      refine (Num_any _ _).mono ?_
      rintro e w3 ⟨rfl, rfl⟩
      go_wp2_with fail
      refine (Num_any _ _).mono ?_
      rintro e w3 ⟨rfl, rfl⟩
      go_wp2_with fail
      refine (CopySpans_any A n c xs _ (HR.out.grown (Nat.le_refl _) G.out) G.out.size HNIL.out (by omega)).mono ?_
      rintro e w3 ⟨vc, rfl, hmc, g3⟩
      have GB := Lib.hid G.out.size
      have G := Lib.hid (grown_trans G.out g3)
      have O5 := Lib.hid (O5.out.kept g3)
      have O7 := Lib.hid (O7.out.kept g3)
      have HMC := Lib.hid hmc
      have hbase := g3.size
      have RB := Lib.hid (HR'.out.grown (Nat.le_refl _) G.out)
      clear hmc g3
      go_wp2_with (first | (at_builtin; refine wpList_appE spanE _ rfl _ _ rfl _ _ n xs rfl HMC.out A' m c' ys rfl RB.out HNIL'.out (by unfold maxLen; omega) (by show (n + m) * 16 ≤ _; omega) hbase ?_))
      intro va w4 hall g4 _
      have hgb := GB.out
      simp only [World.size_alloc] at hgb
      have G := Lib.hid (grown_none G.out g4 (fun g hg => by have := HMC.out.own_ge g hg; simp only [World.size_alloc] at this; omega))
      have l5 := O5.out.lt
      have l7 := O7.out.lt
      have O5 := Lib.hid (O5.out.kept' g4 (fun e => by have := HMC.out.own_ge _ e; simp only [World.size_alloc] at this; omega))
      have O7 := Lib.hid (O7.out.kept' g4 (fun e => by have := HMC.out.own_ge _ e; simp only [World.size_alloc] at this; omega))
      obtain ⟨Aa, ca, rfl, _, _, hrow⟩ := hall.row
      have RA := Lib.hid hrow
      have CA := Cover_any Aa (n + m) ca (xs ++ ys) w4 hrow (Nat.le_refl _)
      rw [HZ.out, covV_some] at CA
      have CA := Lib.hid CA
      have hbig : n + m ≤ 9223372036854775807 := by omega
      clear hall hrow g4 HMC RB hbase hgb
      go_wp2_with fail
      refine CA.out.mono ?_
      rintro e w5 ⟨rfl, g5⟩
      have g5 := grown_trans g5 (grow0 w5 (.cells #[.int .i64 u, .int .i64 v] 23))
      have G := Lib.hid (grown_trans G.out g5)
      have O5 := Lib.hid (O5.out.kept g5)
      have O7 := Lib.hid (O7.out.kept g5)
      have RA := Lib.hid (RA.out.grown (Nat.le_refl _) g5)
      have hs45 := g5.size
      simp only [World.size_alloc] at hs45
      have OZ := Lib.hid (Own.box (w := w5) (x := .int .i64 u) (y := .int .i64 v) (T := 23))
      obtain ⟨c0, c1⟩ := O5.out.two
      obtain ⟨c2, c3⟩ := O7.out.two
      clear g5 CA
      go_wp2_with fail
      refine (CoverPair x1 x2 y1 y2 u v HBB.out _ _ _ (B := w5.heap.size + 1 + 1) ?_ ?_).mono ?_
      · exact Sps_lit _ (by simp) rfl rfl (by simp)
      · simp
      rintro e w6 ⟨rfl, g6⟩
      have g6 := grown_trans (grown_trans (grow0 _ _) g6) (grow0 w6 (.cells #[.int .i64 u, .int .i64 v] 23))
      have G := Lib.hid (grown_trans G.out g6)
      have RA := Lib.hid (RA.out.grown (by simp; omega) g6)
      have OZ := Lib.hid (OZ.out.kept g6)
      have hs56 := g6.size
      simp only [World.size_alloc] at hs56
      have OB := Lib.hid (Own.box (w := w6) (x := .int .i64 u) (y := .int .i64 v) (T := 23))
      clear g6 c0 c1 c2 c3 O5 O7
      have HS : Hid (HullRel (w6.alloc (.cells #[.int .i64 u, .int .i64 v] 23)) (n + m) (.int .i64 0) (w6.alloc (.cells #[.int .i64 u, .int .i64 v] 23))) := ⟨0, Nat.zero_le _, rfl, World.grownBy.refl _ _⟩
      have hsz6 : w6.heap.size ≤ (w6.alloc (.cells #[.int .i64 u, .int .i64 v] 23)).heap.size := by simp
      go_upto_region 8 with fail
      generalize w6.alloc (.cells #[.int .i64 u, .int .i64 v] 23) = wa at *
      go_wp2
      go_loopw [14] (fun i wr => HullRel wa (n + m) i wr) (fun i _ => (n + m) - (intOf i).toNat)
      case atStart => exact HS.out
      case round =>
        clear HS
        obtain ⟨k, hk, rfl, hg⟩ := hrel
        have GR := Lib.hid hg
        have hszr := hg.size
        obtain ⟨d0, d1⟩ := (OZ.out.kept hg).two
        by_cases hlt : k < n + m
        · obtain ⟨bb, off, hA, hbb, hcell⟩ := Sps_cells RA.out (by omega)
          subst hA
          obtain ⟨e0, e1⟩ := hcell k hlt
          have HC2 : Hid (∀ wx, wa.grownBy wx none → wx.cell? ⟨bb, off + k * 2, none⟩ = some (.int .i64 (at2 (xs ++ ys) k).1) ∧ wx.cell? ⟨bb, off + k * 2 + 1, none⟩ = some (.int .i64 (at2 (xs ++ ys) k).2)) := fun wx g => ⟨kept g e0, kept g e1⟩
          have e0 := kept hg e0
          have e1 := kept hg e1
          have HBK := Lib.hid (HB.out _ (at2_mem _ k (by rw [HLEN.out]; exact hlt)))
          clear hcell hg
          generalize at2 (xs ++ ys) k = p at *
          obtain ⟨p, q⟩ := p
          have CB : Hid (∀ w', Calls Try.prog 7 #[.agg #[.int .i64 p, .int .i64 q], .agg #[.int .i64 u, .int .i64 v]] w' (Says w' (.tuple #[.agg #[.int .i64 p, .int .i64 q], .bool true]))) := fun w' => by
            have h := Both_any p q u v w'
            have e := HBK.out
            simp only at e
            rw [e.1, e.2.1, e.2.2] at h
            exact h
          clear HBK
          have hlt2 : (k : Int) < (n : Int) + (m : Int) := by omega
          have HC3 : Hid (∀ wx, wa.grownBy wx none → wx.cell? ⟨bb, off + k * 2, none⟩ = some (.int .i64 p) ∧ wx.cell? ⟨bb, off + k * 2 + 1, none⟩ = some (.int .i64 q) ∧ wx.cell? ⟨w5.heap.size, 0, none⟩ = some (.int .i64 u) ∧ wx.cell? ⟨w5.heap.size, 1, none⟩ = some (.int .i64 v)) := fun wx g => ⟨(HC2.out wx g).1, (HC2.out wx g).2, (OZ.out.kept g).two.1, (OZ.out.kept g).two.2⟩
          go_upto_region 11 with fail
          go_cut [15, 16] from 57 to 65 (fun s15 s16 wx => HullMid wa p q s15 s16 wx)
          case first =>
            go_region_held3 (fun w' : World => w'.cell? ⟨bb, off + k * 2, none⟩ = some (.int .i64 p) ∧ w'.cell? ⟨bb, off + k * 2 + 1, none⟩ = some (.int .i64 q) ∧ w'.cell? ⟨w5.heap.size, 0, none⟩ = some (.int .i64 u) ∧ w'.cell? ⟨w5.heap.size, 1, none⟩ = some (.int .i64 v)) (first | exact ⟨e0, e1, d0, d1⟩ | exact HC3.out _ G8.out | exact HC3.out _ (grown_trans G8.out (grow0 _ _)) | exact HC3.out _ (grown_trans GR.out (grow0 _ _)) | exact HC3.out _ (grown_drew (grown_trans GR.out (grow0 _ _))) | exact HC3.out _ (grown_trans (grown_drew GR.out) (grow0 _ _)) | exact HC3.out _ (grown_new G8.out hszr _) | exact HC3.out _ (grown_new (grown_new G8.out hszr _) hszr _) | go_keep)
              (first
                | (go_at_call 7; refine (CB.out _).mono ?_; rintro e w7 ⟨rfl, g7⟩; obtain ⟨g8, o8⟩ := boxes1 (grown_undrew g7); have G8 : Hid (wa.grownBy w7 none) := grown_trans GR.out g8; have i0 := o8.two.1; have i1 := o8.two.2; have j0 := o8.frozen 0; have j1 := o8.frozen 1; clear g7 g8 o8)
                | (go_at_call 7; refine (CB.out _).mono ?_; rintro e w7 ⟨rfl, g7⟩; have G8 : Hid (wa.grownBy w7 none) := grown_trans GR.out (grown_undrew g7); clear g7))
            all_goals go_wp2_with fail
            all_goals go_meet
            all_goals first
              | exact ⟨_, rfl, rfl, grown_trans G8.out (grow0 _ _), Own.box.two.1, Own.box.two.2⟩
              | exact ⟨_, rfl, rfl, grown_drew (grown_trans G8.out (grow0 _ _)), Own.box.two.1, Own.box.two.2⟩
              | exact ⟨_, rfl, rfl, grown_new (grown_new G8.out hszr _) hszr _, (set_get i0 i1).1, (set_get i0 i1).2⟩
              | exact ⟨_, rfl, rfl, grown_drew (grown_new (grown_new G8.out hszr _) hszr _), (set_get i0 i1).1, (set_get i0 i1).2⟩
          case rest =>
            obtain ⟨g, rfl, rfl, hg2, f0, f1⟩ := hcut
            obtain ⟨e0, e1⟩ := HC2.out wc hg2
            have GR := Lib.hid hg2
            clear hg2
            go_wp2
            go_quiet (fail)
            go_wp2
            go_roundw
            case rel => exact ⟨k + 1, by omega, by go_num, grown_drewN GR.out _⟩
            case measure => simp [intOf]; omega
        · have OBR := Lib.hid (OB.out.kept hg)
          have OZR := Lib.hid (OZ.out.kept hg)
          have G := Lib.hid (grown_trans G.out hg)
          clear hg d0 d1
          go_wp2_with fail
          refine (awake_any _).mono ?_
          rintro e w7 ⟨rfl, g7⟩
          have G := Lib.hid (grown_trans G.out g7)
          obtain ⟨c0, c1⟩ := (OBR.out.kept g7).two
          obtain ⟨c2, c3⟩ := (OZR.out.kept g7).two
          clear g7
          go_wp2_with fail
          refine (Num_any _ _).mono ?_
          rintro e w8 ⟨rfl, rfl⟩
          go_wp2_with fail
          refine (Num_any _ _).mono ?_
          rintro e w8 ⟨rfl, rfl⟩
          go_wp2
          go_ret
          exact ⟨rfl, below_of G.out⟩

end Go.Proofs.Ythblaieneglddaa
