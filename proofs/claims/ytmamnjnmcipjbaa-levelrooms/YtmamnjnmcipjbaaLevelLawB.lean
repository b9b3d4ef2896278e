/-
  The law LevelRooms, walked: how much room there is does not count.
-/
import Derived.Test.YtmamnjnmcipjbaaLevelG
namespace Go.Proofs.Ytmamnjnmcipjbaa
open Go.RowKit

/-- A rate that leaves room both ways becomes 1. -/
def oneI (c x : Int) : Int := if 0 < x ∧ x < c then 1 else x
def oneK (caps f : List Int) (k : Nat) : List Int := (List.range f.length).map fun i => if i < k then oneI (caps[i]?.getD 0) (f[i]?.getD 0) else f[i]?.getD 0

theorem oneK_len (caps f : List Int) (k : Nat) : (oneK caps f k).length = f.length := by simp [oneK]

theorem oneK_at {caps f : List Int} {k i : Nat} (h : i < f.length) : (oneK caps f k)[i]?.getD 0 = if i < k then oneI (caps[i]?.getD 0) (f[i]?.getD 0) else f[i]?.getD 0 := by
  simp [oneK, h]

theorem oneK_zero (caps f : List Int) : oneK caps f 0 = f := by
  refine List.ext_getElem (by simp [oneK]) fun i h1 h2 => ?_
  simp [oneK, h2]

theorem oneK_put {caps f : List Int} {k : Nat} (hc : 0 < f[k]?.getD 0 ∧ f[k]?.getD 0 < caps[k]?.getD 0) : (oneK caps f k).set k 1 = oneK caps f (k + 1) := by
  refine List.ext_getElem (by simp [oneK]) fun i h1 h2 => ?_
  have hi : i < f.length := by simpa [oneK] using h2
  rw [List.getElem_set]
  have e1 := oneK_at (caps := caps) (k := k + 1) hi
  have e0 := oneK_at (caps := caps) (k := k) hi
  rw [List.getElem?_eq_getElem h2, Option.getD_some] at e1
  rw [e1]
  by_cases e : k = i
  · subst e
    rw [if_pos rfl, if_pos (by omega), oneI, if_pos hc]
  · rw [if_neg e]
    rw [List.getElem?_eq_getElem (by rw [oneK_len]; exact hi), Option.getD_some] at e0
    rw [e0]
    by_cases l : i < k
    · rw [if_pos l, if_pos (by omega)]
    · rw [if_neg l, if_neg (by omega)]

theorem oneK_skip {caps f : List Int} {k : Nat} (hc : ¬ (0 < f[k]?.getD 0 ∧ f[k]?.getD 0 < caps[k]?.getD 0)) : oneK caps f k = oneK caps f (k + 1) := by
  refine List.ext_getElem (by simp [oneK]) fun i h1 h2 => ?_
  have hi : i < f.length := by simpa [oneK] using h2
  have e1 := oneK_at (caps := caps) (k := k + 1) hi
  have e0 := oneK_at (caps := caps) (k := k) hi
  rw [List.getElem?_eq_getElem h2, Option.getD_some] at e1
  rw [List.getElem?_eq_getElem h1, Option.getD_some] at e0
  rw [e1, e0]
  by_cases e : k = i
  · subst e
    rw [if_neg (by omega), if_pos (by omega), oneI, if_neg hc]
  · by_cases l : i < k
    · rw [if_pos l, if_pos (by omega)]
    · rw [if_neg l, if_neg (by omega)]

theorem oneK_rates {caps f : List Int} (h : ratesB caps f = true) : ratesB caps (oneK caps f f.length) = true := by
  obtain ⟨h1, h2⟩ := ratesB_parts h
  refine ratesB_mk (by rw [oneK_len, h1]) fun i hi => ?_
  have := h2 i hi
  unfold capI at *
  rw [oneK_at (by omega), if_pos (by omega), oneI]
  split <;> omega

theorem oneK_room {caps f : List Int} (h : ratesB caps f = true) {a : Nat} (ha : a < 2 * f.length) : 0 < roomI caps (oneK caps f f.length) (a : Int) ↔ 0 < roomI caps f (a : Int) := by
  obtain ⟨h1, h2⟩ := ratesB_parts h
  have hi : ((a : Int) / 2).toNat < f.length := by omega
  have := h2 _ (show ((a : Int) / 2).toNat < caps.length by omega)
  unfold capI at this
  unfold roomI
  rw [oneK_at hi, if_pos hi, oneI]
  generalize caps[((a : Int) / 2).toNat]?.getD 0 = c at *
  generalize f[((a : Int) / 2).toNat]?.getD 0 = x at *
  by_cases k : 0 < x ∧ x < c
  · rw [if_pos k]
    split <;> omega
  · rw [if_neg k]

theorem oneK_ok {caps f : List Int} (k : Nat) (h : okI f) : okI (oneK caps f k) := by
  intro i
  by_cases hi : i < f.length
  · rw [oneK_at hi]
    have := h i
    unfold oneI
    split
    · split <;> omega
    · omega
  · rw [List.getElem?_eq_none (by rw [oneK_len]; omega)]
    simp

theorem oneK_is {V : Int} {ls : List Lk} {caps f : List Int} {s : Int} {M : List Int} (h : LvIs V ls caps f s M 0) : LvIs V ls caps (oneK caps f f.length) s M 0 := by
  rcases h with ⟨h1, _, h3⟩ | ⟨_, h2, _⟩
  · obtain ⟨hf, hs⟩ := lvB_parts h1
    obtain ⟨f1, f2, f3, _⟩ := fits_parts hf
    have hl : f.length = ls.length := by have := (capsB_parts f2).1; have := (ratesB_parts f3).1; omega
    have hE : ∀ u v, Leads ls caps f (2 * ls.length) u v ↔ Leads ls caps (oneK caps f f.length) (2 * ls.length) u v := by
      intro u v
      constructor
      · rintro ⟨a, h1, h2, h3, h4⟩
        exact ⟨a, h1, h2, h3, (oneK_room f3 (by omega)).2 h4⟩
      · rintro ⟨a, h1, h2, h3, h4⟩
        exact ⟨a, h1, h2, h3, (oneK_room f3 (by omega)).1 h4⟩
    refine .inl ⟨by simp [lvB, fitsF, f1, f2, oneK_rates f3, hs], rfl, h3.len, h3.src, h3.bd, h3.zero, fun u v k => h3.up u v ((hE u v).2 k), fun v hv k => ?_⟩
    obtain ⟨u, hu, e⟩ := h3.led v hv k
    exact ⟨u, (hE u v).1 hu, e⟩
  · cases h2

def OneRel (w w4 : World) (V : Int) (A : Option Addr) (n c : Nat) (caps f : List Int) (Ax : Option Addr) (q cx : Nat) (Aa : Option Addr) (M : List Int) (i : Value) (wr : World) : Prop :=
  ∃ k : Nat, k ≤ q ∧ i = .int .i64 (k : Nat) ∧ w.grownBy wr none ∧ w4.heap.size ≤ wr.heap.size ∧ Own wr w.heap.size 24 [.int .i64 V, .slice A n c] ∧ Row wr w4.heap.size Aa M.length M ∧ Mine wr w4.heap.size (.slice Ax q cx) q (oneK caps f k)

theorem Mine.some {w : World} {base n c : Nat} {A : Option Addr} {xs : List Int} (h : Mine w base (.slice A n c) n xs) (hn : 0 < n) : ∃ g, A = some ⟨g, 0, none⟩ ∧ base ≤ g ∧ g < w.heap.size := by
  rcases h.2 with ⟨e, rfl⟩ | ⟨g, cap, cur, e, hb, hh, _⟩
  · omega
  · injection e with e1 e2 e3
    exact ⟨g, e1, hb, (Array.getElem?_eq_some_iff.1 hh).1⟩

set_option maxRecDepth 20000 in
set_option maxHeartbeats 8000000 in
theorem LevelRooms_walk (V : Int) (A : Option Addr) (n c : Nat) (L : List Lk) (X : Option Addr) (p d : Nat) (caps : List Int) (Y : Option Addr) (q f0 : Nat) (f : List Int) (s : Int) (w : World) (h : InG w A n c L) (hX : In w X p d caps) (hY : In w Y q f0 f) :
    Calls Try.prog 6 #[.agg #[.int .i64 V, .slice A n c], .slice X p d, .slice Y q f0, .int .i64 s] w (LawPost w) := by
  obtain ⟨hs, hnc, hc, hnil⟩ := h
  obtain ⟨hx, hpd, hd, hnilx⟩ := hX
  obtain ⟨hy, hqf, hf, hnily⟩ := hY
  have HR := Lib.hid hs
  have HX := Lib.hid hx
  have HY := Lib.hid hy
  have HLX := Lib.hid hx.len
  have HLY := Lib.hid hy.len
  have HNIY := Lib.hid hnily
  have HG0 := Lib.hid (grow0 w (.cells #[.int .i64 V, .slice A n c] 24))
  clear hs hnil hx hnilx hy hnily
  go_enter Try.func6, Try.ntmps6
  go_wp2_with fail
  refine (Levels_any V s A n c L X p d caps Y q f0 f _ (HR.out.grown (Nat.le_refl _) HG0.out) (by simp) (HX.out.grown (Nat.le_refl _) HG0.out) (by simp) (HY.out.grown (Nat.le_refl _) HG0.out) (by simp)).mono ?_
  rintro e w2 ⟨M, z, hM, va, rfl, ha, k⟩
  obtain ⟨g1, ob⟩ := box1 [.int .i64 V, .slice A n c] k
  have HM := Lib.hid hM
  have OKM := Lib.hid (lvIs_okI hM).1
  obtain ⟨Aa, ca, rfl, _, hna, ra⟩ := ha.rowN OKM.out
  have RA := Lib.hid ra
  have G := Lib.hid g1
  have OB := Lib.hid ob
  clear k ha ra ob g1 hM HG0
  go_wp2_with fail
  refine (num_says _ _).mono ?_
  rintro e w3 ⟨rfl, k⟩
  have G := Lib.hid (grown_trans G.out k)
  have OB := Lib.hid (OB.out.kept k)
  have RA := Lib.hid ((RA.out.grown (Nat.le_refl _) k).wide k.size)
  clear k
  by_cases hz : z = 0
  · subst hz
    have H1 := Lib.hid (oneK_is HM.out)
    have hpq : p = q := by
      rcases HM.out with ⟨h1, _⟩ | ⟨_, h2, _⟩
      · have := (ratesB_parts (fits_parts (lvB_parts h1).1).2.2.1).1
        have := HLX.out
        have := HLY.out
        omega
      · cases h2
    subst hpq
    have hs3 := G.out.size
    go_wp2_with fail
    refine (CopyInts_any Y p f0 f _ (HY.out.grown (Nat.le_refl _) G.out) G.out.size HNIY.out (by omega)).mono ?_
    rintro e w4 ⟨vx, rfl, hm, bel⟩
    obtain ⟨Ax, cx, rfl, hnx⟩ := hm.sl
    have k := grown_of_below bel
    have HS : Hid (OneRel w w3 V A n c caps f Ax p cx Aa M (.int .i64 0) w4) := ⟨0, Nat.zero_le _, rfl, grown_trans G.out k, k.size, OB.out.kept k, RA.out.grown (Nat.le_refl _) k, by rw [oneK_zero]; exact hm⟩
    have l3 := OB.out.lt
    clear hm bel k G OB RA
    go_wp2
    go_loopw [12] (fun i wr => OneRel w w3 V A n c caps f Ax p cx Aa M i wr) (fun i _ => p - (intOf i).toNat)
    case atStart => exact HS.out
    case round =>
      clear HS
      obtain ⟨k, hk, rfl, hgr, h34, ob, ra, mx⟩ := hrel
      have GR := Lib.hid hgr
      have OB := Lib.hid ob
      have RA := Lib.hid ra
      have MX := Lib.hid mx
      have hsz := hgr.size
      clear hgr ob ra mx
      by_cases hlt : k < p
      · obtain ⟨gx, rfl, hgx, hgl⟩ := MX.out.some (by omega)
        obtain ⟨bc, offc, rfl, _, hcc⟩ := HX.out.at_ (by omega)
        have hlf := HLY.out
        have d0 := (MX.out.rowAt (oneK_ok k HY.out.ok)).cellAt hlt
        rw [Nat.zero_add, oneK_at (by omega), if_neg (by omega)] at d0
        have d1 := kept GR.out (hcc k hlt)
        have PUT := Lib.hid (oneK_put (caps := caps) (f := f) (k := k))
        have SKIP := Lib.hid (oneK_skip (caps := caps) (f := f) (k := k))
        have f1 := MX.out.frozen k
        clear hcc
        generalize f[k]?.getD 0 = fk at *
        generalize caps[k]?.getD 0 = ck at *
        by_cases hp0 : 0 < fk
        · by_cases hp1 : fk < ck
          · have P2 := Lib.hid (PUT.out ⟨hp0, hp1⟩)
            clear PUT SKIP
            go_wp2
            go_quiet (fail)
            have D0 : (wr.drewN nq).cell? ⟨gx, k, none⟩ = some (.int .i64 fk) := d0
            have F1 : (wr.drewN nq).frozen? ⟨gx, k, none⟩ = false := f1
            have GR := Lib.hid (grown_drewN GR.out nq)
            have OB := Lib.hid (OB.out.drewN nq)
            have RA := Lib.hid (RA.out.drewN nq)
            have MX := Lib.hid (MX.out.drewN nq)
            have hs9 : (wr.drewN nq).heap.size = wr.heap.size := rfl
            clear d0 d1 f1
            generalize wr.drewN nq = w9 at *
            go_wp2
            go_roundw
            case rel => exact ⟨k + 1, by omega, by go_num, grown_new GR.out (by omega) _, by simp [World.setCell]; omega, OB.out.setOther (by omega) _, RA.out.grown' (by omega) (grown_set (World.grownBy.refl _ (some gx)) _) (fun g hg => by injection hg with hg; omega), by rw [← P2.out]; exact MX.out.set k 1 hlt⟩
            case measure => simp [intOf]; omega
          · have P2 := Lib.hid (SKIP.out (fun h => hp1 h.2))
            clear PUT SKIP
            go_wp2
            go_quiet (fail)
            go_wp2
            go_roundw
            case rel => exact ⟨k + 1, by omega, by go_num, grown_drewN GR.out _, h34, OB.out.drewN _, RA.out.drewN _, by rw [← P2.out]; exact MX.out.drewN _⟩
            case measure => simp [intOf]; omega
        · have P2 := Lib.hid (SKIP.out (fun h => hp0 h.1))
          clear PUT SKIP
          go_wp2
          have hb0 : decide (0 < fk) = false := decide_eq_false (by omega)
          go_quiet (fail)
          go_wp2
          go_roundw
          case rel => exact ⟨k + 1, by omega, by go_num, grown_drewN GR.out _, h34, OB.out.drewN _, RA.out.drewN _, by rw [← P2.out]; exact MX.out.drewN _⟩
          case measure => simp [intOf]; omega
      · obtain rfl : p = k := by omega
        have hlf := HLY.out
        have h1 := H1.out
        rw [hlf] at h1
        have H1 := Lib.hid h1
        have RX := Lib.hid (MX.out.rowAt (oneK_ok p HY.out.ok))
        obtain ⟨p0, p1⟩ := OB.out.two
        clear h1
        go_wp2_with fail
        refine (Levels_is V s A n c L X p d caps Ax p cx (oneK caps f p) _ (HR.out.grown (Nat.le_refl _) GR.out) GR.out.size (HX.out.grown (Nat.le_refl _) GR.out) GR.out.size RX.out (Nat.le_refl _) M 0 H1.out).mono ?_
        rintro e w5 ⟨vb, rfl, hb, k5⟩
        obtain ⟨Ab, cb, rfl, _, _, rb⟩ := hb.rowN OKM.out
        have RB := Lib.hid rb
        have RA := Lib.hid (RA.out.grown (by omega) k5)
        have G := Lib.hid (grown_trans GR.out k5)
        have s5 := k5.size
        clear k5 hb rb p0 p1
        go_wp2_with fail
        refine (awake10_any _).mono ?_
        rintro e w6 ⟨rfl, k6⟩
        have RB := Lib.hid (RB.out.grown (Nat.le_refl _) k6)
        have RA := Lib.hid (RA.out.grown (by omega) k6)
        have G := Lib.hid (grown_trans G.out k6)
        have s6 := k6.size
        clear k6
        go_wp2_with fail
        refine (num_says _ _).mono ?_
        rintro e w7 ⟨rfl, k7⟩
        have RB := Lib.hid (RB.out.grown (by omega) k7)
        have RA := Lib.hid (RA.out.grown (by omega) k7)
        have G := Lib.hid (grown_trans G.out k7)
        clear k7
        go_wp2_with fail
        refine (same_says (SameInts0_any Aa M.length ca M Ab M.length cb M _ RA.out RB.out)).mono ?_
        rintro e w8 ⟨he, k8⟩
        rw [sameB_refl] at he
        subst he
        have G := Lib.hid (grown_trans G.out k8)
        clear k8
        go_wp2
        go_ret
        exact ⟨rfl, below_of G.out⟩
  · have hzb : (z != 0) = true := by simp [hz]
    go_wp2
    go_ret
    exact ⟨rfl, below_of G.out⟩

end Go.Proofs.Ytmamnjnmcipjbaa
