/-
  What every program answers that is one: layer 16's awake.
-/
import Derived.Test.YtlpohlcmjnlbhaaRouteP
import Derived.Test.YtlpohlcmjnlbhaaBlocks
import Derived.Test.YtlpohlcmjnlbhaaJK
set_option maxRecDepth 20000
namespace Go.Proofs.Ytlpohlcmjnlbhaa
open Go.RowKit

theorem small16_any (w : World) : Calls Try.prog 21 #[] w (SmallPost w) := by
  have HB := Lib.hid (box2 (w := w) (T := 24) (U := 57) [.int .i64 3, .slice (some ⟨w.heap.size + 1, 0, none⟩) 3 3] smallV (World.grownBy.refl _ none))
  go_enter Try.func21, Try.ntmps21
  go_wp2
  obtain ⟨g, o1, o2⟩ := HB.out
  exact post_graph rfl rfl o1.two.1 o1.two.2 rfl ⟨w.heap.size + 1, rfl, small_flat ▸ o2, by omega, g⟩

theorem RouteS {w0 w : World} {gs gc : Nat} {os : List (Nat × TypeId × List Value)} {s t R : Int} (mc : (gc, 3, ints [5, 4, 3]) ∈ os) (h : SB w0 w os) (ms : (gs, 57, linkE.flat smallL) ∈ os) :
    Calls Try.prog 8 #[.agg #[.int .i64 3, .slice (some ⟨gs, 0, none⟩) 3 3], .slice (some ⟨gc, 0, none⟩) 3 3, .int .i64 s, .int .i64 t, .int .i64 R] w (RoutePost w 3 smallL [5, 4, 3] s t R) :=
  Route_any 3 s t R _ 3 3 smallL _ 3 3 [5, 4, 3] w (h.lks ms) (Nat.le_refl _) (h.row [5, 4, 3] mc rfl (by decide) (by decide)) (Nat.le_refl _)

theorem least_small16 : leastC 3 smallL [5, 4, 3] 0 2 = 7 := by decide

theorem route_small1 {ps : List Pth} {vs : List Int} {z : Int} (h : RouteIs 3 smallL [5, 4, 3] 0 2 7 ps vs z) : z = 0 ∧ bmay 3 smallL 0 2 7 ps = true ∧ vs = [] := by
  rcases h with ⟨_, hz, ⟨hb, _, hv⟩ | ⟨_, hp⟩⟩ | ⟨h1, _⟩
  · exact ⟨hz, hb, hv⟩
  · have := prov_least (V := 3) (s := 0) (t := 2) hp (by decide) (by decide)
    rw [least_small16] at this
    exact absurd this (by decide)
  · exact absurd h1 (by decide)

theorem verts_lt {V : Int} {vs : List Int} (h : vertsB V vs = true) : vs.Pairwise (· < ·) := by
  rw [List.pairwise_iff_getElem]
  intro i j hi hj hij
  have step : ∀ d k, k + d < vs.length → 0 < d → vs[k]?.getD 0 < vs[k + d]?.getD 0 := by
    intro d
    induction d with
    | zero => intro k _ h0; omega
    | succ d ih =>
      intro k hk _
      have r := verts_at h hk
      simp only [riseB, Bool.and_eq_true, Bool.or_eq_true, decide_eq_true_eq] at r
      have r2 : vs[k + d]?.getD 0 < vs[k + d + 1]?.getD 0 := by
        rcases r.2 with e | e
        · omega
        · exact e
      by_cases hd : d = 0
      · subst hd; exact r2
      · have := ih k (by omega) (by omega)
        have e : k + (d + 1) = k + d + 1 := by omega
        rw [e]
        omega
  have := step (j - i) i (by omega) (by omega)
  rw [show i + (j - i) = j by omega, List.getElem?_eq_getElem hi, List.getElem?_eq_getElem hj] at this
  exact this

theorem route_small2 {ps : List Pth} {vs : List Int} {z : Int} (h : RouteIs 3 smallL [5, 4, 3] 0 2 8 ps vs z) : z = 0 ∧ ps = [] ∧ vs = [0, 1] := by
  rcases h with ⟨_, hz, ⟨hb, hf, _⟩ | ⟨hp0, hp⟩⟩ | ⟨h1, _⟩
  · have := route_least (V := 3) (s := 0) (t := 2) hb hf
    rw [least_small16] at this
    exact absurd this (by decide)
  · refine ⟨hz, hp0, ?_⟩
    obtain ⟨hm, hc, hv, hs, ht, hw⟩ := prov_parts hp
    have hwb : worthB 3 smallL [5, 4, 3] vs = true := by rw [worthB, leavB, hm, hc, hv]; rfl
    have hwk : wk smallL [5, 4, 3] vs 3 < 8 := by
      rw [worthX, if_pos hwb] at hw
      exact hw
    have hone : (1 : Int) ∈ vs := by
      refine Classical.byContradiction fun hn => ?_
      have e0 : decide ((0 : Int) ∈ vs) = true := decide_eq_true hs
      have e1 : decide ((1 : Int) ∈ vs) = false := decide_eq_false hn
      have e2 : decide ((2 : Int) ∈ vs) = false := decide_eq_false ht
      have : wk smallL [5, 4, 3] vs 3 = 8 := by
        simp [wk, leaves, smallL, at3, capI, hs, hn, ht]
      omega
    refine lt_uniq _ _ (verts_lt hv) (by simp) fun x => ⟨fun hx => ?_, fun hx => ?_⟩
    · have hxv := verts_mem hv hx
      simp only [isV, Bool.and_eq_true, decide_eq_true_eq] at hxv
      have hx2 : x ≠ 2 := fun e => ht (e ▸ hx)
      have : x = 0 ∨ x = 1 := by omega
      simpa using this
    · have : x = 0 ∨ x = 1 := by simpa using hx
      rcases this with rfl | rfl
      · exact hs
      · exact hone
  · exact absurd h1 (by decide)

theorem route_small3 {ps : List Pth} {vs : List Int} {z : Int} (h : RouteIs 3 smallL [5, 4, 3] 0 2 0 ps vs z) : z = 1600 := by
  rcases h with ⟨h1, _⟩ | ⟨_, h2, _⟩
  · exact absurd h1 (by decide)
  · exact h2

set_option maxHeartbeats 4000000 in
theorem awake16_any (w : World) : Calls Try.prog 10 #[] w (Says w (.bool true)) := by
  have HS : Hid (SB w w []) := ⟨World.grownBy.refl w none, StS.nil _⟩
  go_enter Try.func10, Try.ntmps10
  go_wp2_with fail
  refine (small16_any _).mono ?_
  rintro e w1 ⟨gs1, rfl, os, _, k⟩
  have HS := Lib.hid ((HS.out.kept k).cons os)
  clear os k
  go_wp2_with fail
  refine (RouteS (by simp [ints]) HS.out.lit (by simp)).mono ?_
  rintro e w2 ⟨ps, vs, z, hq, ua, va, rfl, ha, hva, k⟩
  obtain ⟨⟨Aa, ca, rfl, ra⟩, _, _⟩ := route_pths hq ha
  obtain ⟨rfl, hbm, rfl⟩ := route_small1 hq
  obtain ⟨Av, cv, rfl, _⟩ := hva.sl
  have RA := Lib.hid ra
  have HBM := Lib.hid hbm
  have HG2 := Lib.hid (World.grownBy.refl w2 none)
  have HS := Lib.hid (HS.out.lit.kept k).less
  clear k ra ha hq hbm hva
  generalize ps.length = pl at *
  unfold rouV
  go_wp2_with fail
  refine (small16_any _).mono ?_
  rintro e w3 ⟨gs3, rfl, os, _, k⟩
  have HS := Lib.hid ((HS.out.kept k).cons os)
  have HG2 := Lib.hid (grown_trans HG2.out k)
  clear os k
  go_wp2_with fail
  refine (RouteS (by simp [ints]) HS.out.lit (by simp)).mono ?_
  rintro e w4 ⟨ps2, vs2, z, hq, ub, vb, rfl, hb, hvb, k⟩
  obtain ⟨rfl, rfl, rfl⟩ := route_small2 hq
  obtain ⟨Ab, cb, rfl⟩ := hb.sl
  obtain ⟨Ad, cd, rfl, _, rd⟩ := hvb.row (ok_of (xs := [0, 1]) (by decide))
  have RD := Lib.hid rd
  have HG4 := Lib.hid (World.grownBy.refl w4 none)
  have HG2 := Lib.hid (grown_trans (grown_alloc HG2.out _) k)
  have HS := Lib.hid (HS.out.lit.kept k).less
  clear k hb hq hvb rd
  unfold rouV
  go_wp2_with fail
  refine (small16_any _).mono ?_
  rintro e w5 ⟨gs5, rfl, os, _, k⟩
  have HS := Lib.hid ((HS.out.kept k).cons os)
  have HG2 := Lib.hid (grown_trans HG2.out k)
  have HG4 := Lib.hid (grown_trans HG4.out k)
  clear os k
  go_wp2_with fail
  refine (RouteS (by simp [ints]) HS.out.lit (by simp)).mono ?_
  rintro e w6 ⟨ps3, vs3, z, hq, uc, vc, rfl, _, _, k⟩
  obtain rfl := route_small3 hq
  have HG2 := Lib.hid (grown_trans (grown_alloc HG2.out _) k)
  have HG4 := Lib.hid (grown_trans (grown_alloc HG4.out _) k)
  have HS := Lib.hid (HS.out.lit.kept k).less
  clear k hq
  unfold rouV
  go_wp2_with fail
  refine (small16_any _).mono ?_
  rintro e w7 ⟨gs7, rfl, os, _, k⟩
  have HS := Lib.hid ((HS.out.kept k).cons os)
  have HG2 := Lib.hid (grown_trans HG2.out k)
  have HG4 := Lib.hid (grown_trans HG4.out k)
  clear os k
  go_wp2_with fail
  refine (RBMay_any 3 0 2 7 _ 3 3 smallL Aa pl ca ps _ (HS.out.lks (by simp)) (Nat.le_refl _) (RA.out.grown (Nat.le_refl _) HG2.out) HG2.out.size).mono ?_
  rintro e w8 ⟨he, k⟩
  rw [HBM.out] at he
  subst he
  have HS := Lib.hid (HS.out.kept k).less
  have HG4 := Lib.hid (grown_trans HG4.out k)
  clear k RA HG2
  go_wp2_with fail
  refine (num_says _ _).mono ?_
  rintro e w9 ⟨rfl, k⟩
  have HS := Lib.hid (HS.out.kept k)
  have HG4 := Lib.hid (grown_trans HG4.out k)
  clear k
  go_wp2_with fail
  refine (SameS RD.out HS.out.lit (Nat.le_refl _) (grown_alloc HG4.out _) (by simp [ints]) rfl (by decide) (by decide)).mono ?_
  rintro e wa ⟨rfl, k⟩
  have HS := Lib.hid (HS.out.lit.kept k).less
  clear k HG4 RD
  go_wp2_with fail
  refine (num_says _ _).mono ?_
  rintro e wb ⟨rfl, k⟩
  have HS := Lib.hid (HS.out.kept k)
  clear k
  go_wp2_with fail
  refine (num_says _ _).mono ?_
  rintro e wc ⟨rfl, k⟩
  have HS := Lib.hid (HS.out.kept k)
  clear k
  go_wp2
  go_ret
  exact ⟨rfl, HS.out.g⟩

end Go.Proofs.Ytlpohlcmjnlbhaa
