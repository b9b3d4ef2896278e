/-
  TreeOrders, walked.
-/
import Derived.Test.YtgfehlmiejnonaaTreeN
set_option maxRecDepth 20000
namespace Go.Proofs.Ytgfehlmiejnonaa
open Go.RowKit

def OrRel (w : World) (gx gy n : Nat) (a b : Int) (its ts : List It) (v : Value) (i : Value) (wr : World) : Prop :=
  ∃ j : Nat, j ≤ n ∧ i = .int .i64 (j : Nat) ∧ HoldsM w gx gx gy (putK its j) wr ∧ HoldsM w gy gx gy (putK ts j) wr ∧ MineE itemE wr (gy + 1) v n ts ∧ Own wr w.heap.size 27 [.int .i64 a, .int .i64 b]

set_option maxHeartbeats 4000000 in
theorem TreeOrders_walk (I : Option Addr) (n c : Nat) (its : List It) (at_ a b : Int) (w : World) (h0 : InI w I n c its) : Calls Try.prog 7 #[.slice I n c, .int .i64 at_, .agg #[.int .i64 a, .int .i64 b]] w (LawPost w) := by
  obtain ⟨h, hnc, _, hnil⟩ := h0
  have HLEN := Lib.hid h.len
  have HI := Lib.hid h
  have HNIL := Lib.hid hnil
  have GB := Lib.hid (box1 (w := w) (T := 27) [.int .i64 a, .int .i64 b] (World.grownBy.refl _ none))
  have hs0 : (w.alloc (.cells #[.int .i64 a, .int .i64 b] 27)).heap.size = w.heap.size + 1 := by simp
  clear h hnil
  go_enter Try.func7, Try.ntmps7
  go_upto_region 1 with fail
  generalize w.alloc (.cells #[.int .i64 a, .int .i64 b] 27) = w0 at *
  by_cases h0 : at_ < 0
  · go_wp2
    go_ret
    exact ⟨rfl, below_of GB.out.1⟩
  obtain ⟨k, rfl⟩ : ∃ k : Nat, at_ = (k : Int) := ⟨at_.toNat, by omega⟩
  by_cases h1 : n < k
  · have q0 : decide ((n : Int) < (k : Int)) = true := decide_eq_true (by omega)
    have q1 : decide (n < k) = true := decide_eq_true h1
    clear h1
    go_wp2
    go_ret
    exact ⟨rfl, below_of GB.out.1⟩
  have q0 : decide ((n : Int) < (k : Int)) = false := decide_eq_false (by omega)
  have q1 : decide (n < k) = false := decide_eq_false h1
  by_cases h2 : 32 < n
  · have q2 : decide ((32 : Int) < (n : Int)) = true := decide_eq_true (by omega)
    have q3 : decide (32 < n) = true := decide_eq_true h2
    clear h1 h2
    go_wp2
    go_ret
    exact ⟨rfl, below_of GB.out.1⟩
  have q2 : decide ((32 : Int) < (n : Int)) = false := decide_eq_false (by omega)
  have q3 : decide (32 < n) = false := decide_eq_false h2
  have hkn : k ≤ n := by omega
  have hn32 : n ≤ 32 := by omega
  clear h0 h1 h2
  go_wp2_with fail
  refine (New_any _).mono ?_
  rintro e w1 ⟨ns, r, free, v, f, hall, rfl, m1, k1, g1⟩
  obtain ⟨A, c1, FA, fc, rfl, rfl, _, _, _⟩ := tre_of m1 k1 (free_ok hall)
  have HA1 := Lib.hid hall
  have M1 := Lib.hid m1
  have K1 := Lib.hid k1
  have G1 := Lib.hid g1
  clear m1 k1 g1 hall
  go_wp2_with fail
  refine (New_any _).mono ?_
  rintro e w2 ⟨ns', r', free', v', f', hall, rfl, m1, k1, g1⟩
  obtain ⟨A', c1', FA', fc', rfl, rfl, _, _, _⟩ := tre_of m1 k1 (free_ok hall)
  have HA2 := Lib.hid hall
  have M2 := Lib.hid m1
  have K2 := Lib.hid k1
  have M1 := Lib.hid (M1.out.kept g1)
  have K1 := Lib.hid (K1.out.kept g1)
  have G2 := Lib.hid (grown_trans G1.out g1)
  have hs1 := G1.out.size
  have hs2 := g1.size
  have l1 := M1.out.own_lt
  have l2 := K1.out.own_lt
  have l3 := m1.own_lt
  have l4 := k1.own_lt
  clear m1 k1 g1 hall q0 q1 q2 q3 G1
  go_upto_region 4 with fail
  have kx := grow0 w2 (.cells #[.slice A ns.length c1, .int .i64 r, .slice FA free.length fc] 25)
  have ky := grow0 (w2.alloc (.cells #[.slice A ns.length c1, .int .i64 r, .slice FA free.length fc] 25)) (.cells #[.slice A' ns'.length c1', .int .i64 r', .slice FA' free'.length fc'] 25)
  have ox := (Own.new w2 25 [.slice A ns.length c1, .int .i64 r, .slice FA free.length fc]).kept ky
  have oy := Own.new (w2.alloc (.cells #[.slice A ns.length c1, .int .i64 r, .slice FA free.length fc] 25)) 25 [.slice A' ns'.length c1', .int .i64 r', .slice FA' free'.length fc']
  have kk := grown_trans kx ky
  have oy : Own ((w2.alloc (.cells #[.slice A ns.length c1, .int .i64 r, .slice FA free.length fc] 25)).alloc (.cells #[.slice A' ns'.length c1', .int .i64 r', .slice FA' free'.length fc'] 25)) (w2.heap.size + 1) 25 [.slice A' ns'.length c1', .int .i64 r', .slice FA' free'.length fc'] := by simpa using oy
  have HX : Hid (HoldsM w w2.heap.size w2.heap.size (w2.heap.size + 1) (putK its 0) ((w2.alloc (.cells #[.slice A ns.length c1, .int .i64 r, .slice FA free.length fc] 25)).alloc (.cells #[.slice A' ns'.length c1', .int .i64 r', .slice FA' free'.length fc'] 25))) :=
    ⟨A, c1, ns, r, FA, fc, free, by rw [putK_zero]; exact HA1.out, ox, (M1.out.kept kk).wide (Nat.zero_le _), (K1.out.kept kk).wide (Nat.zero_le _), fun g hg => by have := l1 g hg; omega, fun g hg => by have := l2 g hg; omega, grown_trans (grown_trans GB.out.1 G2.out) kk⟩
  have HY : Hid (HoldsM w (w2.heap.size + 1) w2.heap.size (w2.heap.size + 1) (putK (its.drop k ++ its.take k) 0) ((w2.alloc (.cells #[.slice A ns.length c1, .int .i64 r, .slice FA free.length fc] 25)).alloc (.cells #[.slice A' ns'.length c1', .int .i64 r', .slice FA' free'.length fc'] 25))) :=
    ⟨A', c1', ns', r', FA', fc', free', by rw [putK_zero]; exact HA2.out, oy, (M2.out.kept kk).wide (Nat.zero_le _), (K2.out.kept kk).wide (Nat.zero_le _), fun g hg => by have := l3 g hg; omega, fun g hg => by have := l4 g hg; omega, grown_trans (grown_trans GB.out.1 G2.out) kk⟩
  have hs3 : ((w2.alloc (.cells #[.slice A ns.length c1, .int .i64 r, .slice FA free.length fc] 25)).alloc (.cells #[.slice A' ns'.length c1', .int .i64 r', .slice FA' free'.length fc'] 25)).heap.size = w2.heap.size + 2 := by simp
  have OS := Lib.hid (GB.out.2.kept (grown_trans G2.out kk))
  clear kx ky ox oy kk l1 l2 l3 l4 M1 K1 M2 K2 HA1 HA2 G2
  generalize (w2.alloc (.cells #[.slice A ns.length c1, .int .i64 r, .slice FA free.length fc] 25)).alloc (.cells #[.slice A' ns'.length c1', .int .i64 r', .slice FA' free'.length fc'] 25) = w3 at *
  have hgx : w.heap.size < w2.heap.size := by have := GB.out.1.size; omega
  clear GB
  generalize w2.heap.size = gx at *
  obtain ⟨gy, hgy⟩ : ∃ gy, gx + 1 = gy := ⟨_, rfl⟩
  rw [hgy] at HX HY
  rw [hgy]
  have RI := Lib.hid (HI.out.grown (Nat.le_refl _) HX.out.g)
  have RH := Lib.hid (RI.out.head hkn)
  have EN : Hid ((its.drop k ++ its.take k).length = n) := by rw [Hid, List.length_append, List.length_drop, List.length_take, HLEN.out]; omega
  have hg2 := HX.out.g.size
  go_cut [9] from 38 to 46 (fun v wx => MineE itemE wx (gy + 1) v n (its.drop k ++ its.take k) ∧ w3.grownBy wx none)
  case first =>
    have GL : Hid (w3.grownBy (w3.alloc (.cells #[] 50)).drew none) := grown_drew (grow0 w3 _)
    have HM : Hid (MineE itemE (w3.alloc (.cells #[] 50)).drew (gy + 1) (.slice (some ⟨gx + 2, 0, none⟩) 0 0) 0 []) := (MineE.lit (E := itemE) (w := w3) (base := gy + 1) (g := gx + 2) [] 0 (by omega) rfl rfl (by omega) (by simp)).kept (grown_drew (World.grownBy.refl _ none))
    have hk0 : (0 : Int) ≤ (k : Int) := by omega
    have hk1 : (k : Int) ≤ (c : Int) := by omega
    have hk2 : (k : Int) ≤ (n : Int) := by omega
    have RT : Hid (∀ A', (k < n → A' = I.map (·.add (k * 3))) → Elts itemE w3 w.heap.size A' (n - k) (its.drop k)) := fun A' hA => RI.out.tail hkn hA
    have HNIL2 : Hid (I = none → c = 0) := HNIL.out
    by_cases hck : c = k
    · obtain rfl : k = c := hck.symm
      have RTX := Lib.hid ((RT.out I (fun h => by omega)).grown (by omega) GL.out)
      go_region_held3 (fun _ : World => True) (exact trivial)
        ((first
        | (refine step_appE itemE rfl _ _ (by rfl) (gy + 1) _ 0 [] ?_ HM.out I (n - k) 0 (its.drop k) ?_ RTX.out ?_ ?_ ?_ ?_ ?_; go_simp; go_simp; exact (fun _ => rfl); (unfold maxLen; omega); (show _ * 24 ≤ _; omega); (simp; omega); intro v4 w4 m4 g4; have G4 := Lib.hid (grown_none GL.out g4 (fun g hg => by have := HM.out.own_ge g hg; omega)); have M4 : Hid (MineE itemE w4 (gy + 1) v4 (n - k) (its.drop k)) := (by first | exact m4 | (rw [Nat.zero_add, List.nil_append] at m4; exact m4)); have R4 := Lib.hid (RH.out.grown (by omega) G4.out); have hs4 := G4.out.size; clear m4 g4)
        | (refine step_appE itemE rfl _ _ (by rfl) (gy + 1) _ (n - k) (its.drop k) ?_ M4.out I k k (its.take k) ?_ R4.out ?_ ?_ ?_ ?_ ?_; go_simp; go_simp; exact HNIL2.out; (unfold maxLen; omega); (show _ * 24 ≤ _; omega); omega; intro v5 w5 m5 g5; have G5 := Lib.hid (grown_none G4.out g5 (fun g hg => by have := M4.out.own_ge g hg; omega)); have M5 : Hid (MineE itemE w5 (gy + 1) v5 n (its.drop k ++ its.take k)) := (by rw [show n - k + k = n by omega] at m5; exact m5); clear m5 g5)))
      all_goals go_wp2_with fail
      all_goals go_meet
      all_goals exact ⟨M5.out, G5.out⟩
    · obtain ⟨ad, rfl⟩ : ∃ ad, I = some ad := by
        cases hI : I with
        | none => exact absurd (HNIL.out hI) (by omega)
        | some ad => exact ⟨ad, rfl⟩
      have RTX := Lib.hid ((RT.out (some (ad.add (k * 3))) (fun h => rfl)).grown (by omega) GL.out)
      go_region_held3 (fun _ : World => True) (exact trivial)
        ((first
        | (refine step_appE itemE rfl _ _ (by rfl) (gy + 1) _ 0 [] ?_ HM.out (some (ad.add (k * 3))) (n - k) (c - k) (its.drop k) ?_ RTX.out ?_ ?_ ?_ ?_ ?_; go_simp; go_simp; exact (fun h => by cases h); (unfold maxLen; omega); (show _ * 24 ≤ _; omega); (simp; omega); intro v4 w4 m4 g4; have G4 := Lib.hid (grown_none GL.out g4 (fun g hg => by have := HM.out.own_ge g hg; omega)); have M4 : Hid (MineE itemE w4 (gy + 1) v4 (n - k) (its.drop k)) := (by first | exact m4 | (rw [Nat.zero_add, List.nil_append] at m4; exact m4)); have R4 := Lib.hid (RH.out.grown (by omega) G4.out); have hs4 := G4.out.size; clear m4 g4)
        | (refine step_appE itemE rfl _ _ (by rfl) (gy + 1) _ (n - k) (its.drop k) ?_ M4.out (some ad) k c (its.take k) ?_ R4.out ?_ ?_ ?_ ?_ ?_; go_simp; go_simp; exact (fun h => by cases h); (unfold maxLen; omega); (show _ * 24 ≤ _; omega); omega; intro v5 w5 m5 g5; have G5 := Lib.hid (grown_none G4.out g5 (fun g hg => by have := M4.out.own_ge g hg; omega)); have M5 : Hid (MineE itemE w5 (gy + 1) v5 n (its.drop k ++ its.take k)) := (by rw [show n - k + k = n by omega] at m5; exact m5); clear m5 g5)))
      all_goals go_wp2_with fail
      all_goals go_meet
      all_goals exact ⟨M5.out, G5.out⟩
  case rest =>
    obtain ⟨mt, gc⟩ := hcut
    have HX := Lib.hid (HX.out.grown gc)
    have HY := Lib.hid (HY.out.grown gc)
    have OS := Lib.hid (OS.out.kept gc)
    have MT := Lib.hid mt
    obtain ⟨ts, hts⟩ : ∃ ts, its.drop k ++ its.take k = ts := ⟨_, rfl⟩
    have HTS := Lib.hid hts
    rw [hts] at HY MT EN
    obtain ⟨At, ct, rfl, _, hnt, _⟩ := MT.out.row
    have HNT := Lib.hid hnt
    have HS : Hid (OrRel w gx gy n a b its ts (.slice At n ct) (.int .i64 0) wc) := ⟨0, Nat.zero_le _, rfl, HX.out, HY.out, MT.out, OS.out⟩
    clear mt gc hts HX HY MT RI RH OS hnt
    go_wp2
    go_loopw [10] (fun i wr => OrRel w gx gy n a b its ts (.slice At n ct) i wr) (fun i _ => n - (intOf i).toNat)
    case atStart => exact HS.out
    case round =>
      clear HS
      obtain ⟨j, hj, rfl, hx, hy, hmt, hos⟩ := hrel
      have HX := Lib.hid hx
      have HY := Lib.hid hy
      have MT := Lib.hid hmt
      have OS := Lib.hid hos
      clear hx hy hmt hos
      by_cases hlt : j < n
      case neg =>
        obtain rfl : j = n := by omega
        rw [putK_all (by rw [HLEN.out]; exact Nat.le_refl _)] at HX
        rw [putK_all (by rw [EN.out]; exact Nat.le_refl _)] at HY
        have HROW : Hid (putAll ts = putAll its) := by
          have h1 := putAll_row (xs := its.take k) (ys := its.drop k) (by rw [List.length_append, List.length_take, List.length_drop, HLEN.out]; omega)
          rw [Hid, ← HTS.out, h1, List.take_append_drop]
        rw [HROW.out] at HY
        obtain ⟨A1, c1', ns1, r1, FA1, fc1, free1, hall1, o1, m1, k1, _, _, hg1⟩ := HX.out
        obtain ⟨A2, c2', ns2, r2, FA2, fc2, free2, hall2, o2, m2, k2, _, _, _⟩ := HY.out
        obtain ⟨A10, c10, FA10, fc10, e1, e2, _, _, t1⟩ := tre_of m1 k1 (free_ok hall1)
        injection e1 with e1 _ e3
        injection e2 with e4 _ e6
        subst e1 e3 e4 e6
        obtain ⟨A20, c20, FA20, fc20, e1, e2, _, _, t2⟩ := tre_of m2 k2 (free_ok hall2)
        injection e1 with e1 _ e3
        injection e2 with e4 _ e6
        subst e1 e3 e4 e6
        have AL1 := Lib.hid hall1
        have AL2 := Lib.hid hall2
        have O1 := Lib.hid o1
        have O2 := Lib.hid o2
        have T1 := Lib.hid t1
        have T2 := Lib.hid t2
        have G0 := Lib.hid hg1
        have GN := Lib.hid (World.grownBy.refl wr none)
        clear hall1 hall2 o1 o2 m1 m2 k1 k2 hg1 t1 t2 HX HY MT
        generalize putAll its = xs at *
        have F0 : formE (some xs) = 0 := rfl
        obtain ⟨b0, b1, b2⟩ := (O1.out.kept GN.out).three
        go_wp2_with fail
        refine (Items_any A1 ns1.length c1' ns1 r1 FA1 free1.length fc1 free1 _ (T1.out.grown (Nat.le_refl _) GN.out) GN.out.size).mono ?_
        rw [AL1.out, F0]
        rintro e w5 ⟨v5, rfl, m5, g5⟩
        have M5 : Hid (MineE itemE w5 wr.heap.size v5 xs.length xs) := m5
        have GN := Lib.hid (grown_trans GN.out g5)
        clear m5 g5 b0 b1 b2
        obtain ⟨b0, b1, b2⟩ := (O2.out.kept GN.out).three
        go_wp2_with fail
        refine (Items_any A2 ns2.length c2' ns2 r2 FA2 free2.length fc2 free2 _ (T2.out.grown (Nat.le_refl _) GN.out) GN.out.size).mono ?_
        rw [AL2.out, F0]
        rintro e w6 ⟨v6, rfl, m6, g6⟩
        have M6 : Hid (MineE itemE w6 w5.heap.size v6 xs.length xs) := m6
        have M5 := Lib.hid (M5.out.kept g6)
        have GN := Lib.hid (grown_trans GN.out g6)
        clear m6 g6 b0 b1 b2 F0
        obtain ⟨b0, b1, b2⟩ := (O1.out.kept GN.out).three
        obtain ⟨s0, s1⟩ := (OS.out.kept GN.out).two
        go_wp2_with fail
        refine (TMeets_any A1 ns1.length c1' ns1 r1 FA1 free1.length fc1 free1 a b _ (T1.out.grown (Nat.le_refl _) GN.out) GN.out.size).mono ?_
        rw [AL1.out]
        rintro e w7 ⟨v7, rfl, m7, g7⟩
        have M7 := Lib.hid m7
        have M5 := Lib.hid (M5.out.kept g7)
        have M6 := Lib.hid (M6.out.kept g7)
        have GN := Lib.hid (grown_trans GN.out g7)
        clear m7 g7 b0 b1 b2 s0 s1
        obtain ⟨b0, b1, b2⟩ := (O2.out.kept GN.out).three
        obtain ⟨s0, s1⟩ := (OS.out.kept GN.out).two
        go_wp2_with fail
        refine (TMeets_any A2 ns2.length c2' ns2 r2 FA2 free2.length fc2 free2 a b _ (T2.out.grown (Nat.le_refl _) GN.out) GN.out.size).mono ?_
        rw [AL2.out]
        rintro e w8 ⟨v8, rfl, m8, g8⟩
        have M8 := Lib.hid m8
        have M5 := Lib.hid (M5.out.kept g8)
        have M6 := Lib.hid (M6.out.kept g8)
        have M7 := Lib.hid (M7.out.kept g8)
        have GN := Lib.hid (grown_trans GN.out g8)
        clear m8 g8 b0 b1 b2 s0 s1 AL1 AL2 T1 T2 O1 O2 OS
        generalize meetsV (some xs) a b = us at *
        generalize spanZ (some xs) a b = sz at *
        obtain ⟨A5, k5, rfl, _, _, r5⟩ := M5.out.row
        obtain ⟨A6, k6, rfl, _, _, r6⟩ := M6.out.row
        obtain ⟨A7, k7, rfl, _, _, r7⟩ := M7.out.row
        obtain ⟨A8, k8, rfl, _, _, r8⟩ := M8.out.row
        have R5 := Lib.hid r5
        have R6 := Lib.hid r6
        have R7 := Lib.hid r7
        have R8 := Lib.hid r8
        have G := Lib.hid (grown_trans G0.out GN.out)
        have GK := Lib.hid (World.grownBy.refl w8 none)
        have hss : (sz == sz) = true := by simp
        clear r5 r6 r7 r8 M5 M6 M7 M8 G0 GN
        go_wp2_with fail
        refine (awake17_any _).mono ?_
        rintro e w9 ⟨rfl, g9⟩
        have GK := Lib.hid (grown_trans GK.out g9)
        clear g9
        go_wp2_with fail
        refine (num_says _ _).mono ?_
        rintro e wa ⟨rfl, ga⟩
        have GK := Lib.hid (grown_trans GK.out ga)
        clear ga
        go_wp2_with fail
        refine (num_says _ _).mono ?_
        rintro e wb ⟨rfl, gb⟩
        have GK := Lib.hid (grown_trans GK.out gb)
        clear gb
        go_wp2_with fail
        refine (SameItems_any A5 _ k5 _ A6 _ k6 _ _ (R5.out.grown (Nat.le_refl _) GK.out) GK.out.size (R6.out.grown (Nat.le_refl _) GK.out) GK.out.size).mono ?_
        rw [decide_eq_true (rfl : xs = xs)]
        rintro e wd ⟨rfl, gd⟩
        have GK := Lib.hid (grown_trans GK.out gd)
        clear gd
        go_wp2_with fail
        refine (num_says _ _).mono ?_
        rintro e we ⟨rfl, ge⟩
        have GK := Lib.hid (grown_trans GK.out ge)
        clear ge
        go_wp2_with fail
        refine (num_says _ _).mono ?_
        rintro e wf ⟨rfl, gf⟩
        have GK := Lib.hid (grown_trans GK.out gf)
        clear gf
        go_wp2_with fail
        refine (SameItems_any A7 _ k7 _ A8 _ k8 _ _ (R7.out.grown (Nat.le_refl _) GK.out) GK.out.size (R8.out.grown (Nat.le_refl _) GK.out) GK.out.size).mono ?_
        rw [decide_eq_true (rfl : us = us)]
        rintro e wg ⟨rfl, gg⟩
        have GK := Lib.hid (grown_trans GK.out gg)
        clear gg
        go_wp2
        go_ret
        exact ⟨rfl, below_of (grown_trans G.out GK.out)⟩
      obtain ⟨bi, oi, rfl, hbi, hci⟩ := HI.out.its (by omega)
      obtain ⟨d0, d1, d2⟩ := hci j hlt
      have D0 := Lib.hid (kept HX.out.g d0)
      have D1 := Lib.hid (kept HX.out.g d1)
      have D2 := Lib.hid (kept HX.out.g d2)
      have KX := Lib.hid (putK_next (its := its) (k := j) (by rw [HLEN.out]; exact hlt))
      have KY := Lib.hid (putK_next (its := ts) (k := j) (by rw [EN.out]; exact hlt))
      clear hci d0 d1 d2
      generalize it its j = x at *
      obtain ⟨x0, x1, x2⟩ := x
      have hqs := HX.out.g.size
      have hqx : gx < wr.heap.size := by obtain ⟨_, _, _, _, _, _, _, _, o, _⟩ := HX.out; exact o.lt
      have hqy : gy < wr.heap.size := by obtain ⟨_, _, _, _, _, _, _, _, o, _⟩ := HY.out; exact o.lt
      have hbq : bi < wr.heap.size := by omega
      generalize wr = wq at *
      go_upto_region 8 with fail
      obtain ⟨A, c', ns, r, FA, fc, free, hall, ho, hm1, hm2, hf1, hf2, hgg⟩ := HX.out
      obtain ⟨A0, c0', FA0, fc0, e1, e2, _, _, tt⟩ := tre_of hm1 hm2 (free_ok hall)
      injection e1 with e1 _ e3
      injection e2 with e4 _ e6
      subst e1 e3 e4 e6
      have HALL := Lib.hid hall
      have TT := Lib.hid tt
      have HS : Hid (SB wq wq [(gx, 25, [.slice A ns.length c', .int .i64 r, .slice FA free.length fc])]) := ⟨World.grownBy.refl _ _, (StS.nil wq).cons ho⟩
      clear hall ho hm1 hm2 hf1 hf2 hgg tt
      go_cut [11, 12] from 53 to 61 (fun p z wx => InMid wq (InsIs (allF ns r free) (x0, x1, x2)) p z wx)
      case first =>
        go_region_held3 (fun w' : World => w'.cell? ⟨gx, 0, none⟩ = some (.slice A ns.length c') ∧ w'.cell? ⟨gx, 1, none⟩ = some (.int .i64 r) ∧ w'.cell? ⟨gx, 2, none⟩ = some (.slice FA free.length fc) ∧ w'.cell? ⟨bi, oi + j * 3, none⟩ = some (.int .i64 x0) ∧ w'.cell? ⟨bi, oi + j * 3 + 1, none⟩ = some (.int .i64 x1) ∧ w'.cell? ⟨bi, oi + j * 3 + 2, none⟩ = some (.int .i64 x2)) (first | with_reducible exact HS.out.tree6 (by simp) D0.out D1.out D2.out | with_reducible exact HS.out.lit.tree6 (by simp) D0.out D1.out D2.out | with_reducible exact HS.out.drew.tree6 (by simp) D0.out D1.out D2.out | with_reducible exact HS.out.lit.drew.tree6 (by simp) D0.out D1.out D2.out | with_reducible exact HS.out.tree6Put (by simp) D0.out D1.out D2.out (by omega) (by omega) _ _ _)
          ((go_at_call 24; (first | with_reducible refine (Insert_any A ns.length c' ns r FA free.length fc free x0 x1 x2 _ (TT.out.grown (Nat.le_refl _) HS.out.lit.drew.g) HS.out.lit.drew.g.size).mono ?_ | with_reducible refine (Insert_any A ns.length c' ns r FA free.length fc free x0 x1 x2 _ (TT.out.grown (Nat.le_refl _) HS.out.drew.lit.g) HS.out.drew.lit.g.size).mono ?_ | with_reducible refine (Insert_any A ns.length c' ns r FA free.length fc free x0 x1 x2 _ (TT.out.grown (Nat.le_refl _) HS.out.lit.g) HS.out.lit.g.size).mono ?_ | with_reducible refine (Insert_any A ns.length c' ns r FA free.length fc free x0 x1 x2 _ (TT.out.grown (Nat.le_refl _) HS.out.drew.g) HS.out.drew.g.size).mono ?_ | with_reducible refine (Insert_any A ns.length c' ns r FA free.length fc free x0 x1 x2 _ (TT.out.grown (Nat.le_refl _) HS.out.g) HS.out.g.size).mono ?_); rintro e w2 ⟨ns', r', free', z', v', f', hins, rfl, m4, k4, k⟩; (first | (with_reducible have HS' := Lib.hid (HS.out.lit.drew.kept k)) | (with_reducible have HS' := Lib.hid (HS.out.drew.lit.kept k)) | (with_reducible have HS' := Lib.hid (HS.out.lit.kept k)) | (with_reducible have HS' := Lib.hid (HS.out.drew.kept k)) | (with_reducible have HS' := Lib.hid (HS.out.kept k))); have HS := HS'; have hsz := HS.out.g.size; have hnl := SB.firstLt HS.out; clear HS' k; obtain ⟨Aa, ca, Fa, fa, rfl, rfl, _, _, _⟩ := tre_of m4 k4 (ins_okI hins); have M4 := Lib.hid m4; have K4 := Lib.hid k4; have HINS := Lib.hid hins; clear m4 k4 hins; obtain ⟨n0, n1, n2, f0, f1, f2⟩ := SB.first3 HS.out))
        all_goals go_wp2_with fail
        all_goals go_meet
        all_goals first | exact inMid_new HS.out (by first | omega | (simp; done) | (simp; omega)) M4.out K4.out HINS.out | exact inMid_put HS.out (by omega) (by first | omega | (simp; done) | (simp; omega)) M4.out K4.out HINS.out
      case rest =>
      obtain ⟨ns2, r2, free2, z2, g2, A2, c2, FA2, fc2, hins, rfl, rfl, hg2', o2, m2, k2, gx2⟩ := hcut
      rw [HALL.out] at hins
      obtain ⟨hz, _, hok⟩ := hins
      have HOK : Hid (z2 = 0 → allF ns2 r2 free2 = some (withF (x0, x1, x2) (putK its j))) := fun e => by
        obtain ⟨xs', hV, hA⟩ := hok e
        obtain rfl : (putK its j) = xs' := Option.some.inj hV
        exact hA
      have HZ := Lib.hid hz
      have O2 := Lib.hid o2
      have M2 := Lib.hid m2
      have K2 := Lib.hid k2
      have GX2 := Lib.hid gx2
      have OT : Hid (Own wc gx 25 [.slice A ns.length c', .int .i64 r, .slice FA free.length fc]) := (HS.out.own (by simp)).kept gx2
      clear hz hok o2 m2 k2 gx2 HS HALL TT D0 D1 D2
      go_wp2_with fail
      refine (num_says _ _).mono ?_
      rintro e w5 ⟨rfl, g5⟩
      have O2 := Lib.hid (O2.out.kept g5)
      have M2 := Lib.hid (M2.out.kept g5)
      have K2 := Lib.hid (K2.out.kept g5)
      have OT := Lib.hid (OT.out.kept g5)
      have GX2 := Lib.hid (grown_trans GX2.out g5)
      have HX := Lib.hid (HX.out.grown GX2.out)
      have HY := Lib.hid (HY.out.grown GX2.out)
      have MT := Lib.hid (MT.out.kept GX2.out)
      have OS := Lib.hid (OS.out.kept GX2.out)
      have hsq := GX2.out.size
      clear g5
      go_upto_if 64 with fail
      go_cut [] from 62 to 65 (fun wx => HoldsM w gx gx gy (putK its (j + 1)) wx ∧ HoldsM w gy gx gy (putK ts j) wx ∧ MineE itemE wx (gy + 1) (.slice At n ct) n ts ∧ Own wx w.heap.size 27 [.int .i64 a, .int .i64 b])
      case first =>
        by_cases hz0 : z2 = 0
        case neg =>
          have q : (z2 == 0) = false := by simpa using hz0
          have E := Lib.hid (putIn_no (xs := (putK its j)) (x := (x0, x1, x2)) (by rw [← HZ.out]; exact hz0))
          clear hz0
          go_wp2
          go_meet
          exact ⟨by rw [KX.out, E.out]; exact HX.out, HY.out, MT.out, OS.out⟩
        have HA := Lib.hid (HOK.out hz0)
        have E := Lib.hid (putIn_yes (xs := (putK its j)) (x := (x0, x1, x2)) (by rw [← HZ.out]; exact hz0))
        subst hz0
        obtain ⟨b0, b1, b2⟩ := O2.out.three
        obtain ⟨t0, t1, t2⟩ := OT.out.three
        have f0 := OT.out.frozen 0
        have f1 := OT.out.frozen 1
        have f2 := OT.out.frozen 2
        have H1 := Lib.hid (holdsM_put (gt := gx) (gx := gx) (gy := gy) (by omega) hqx hqy (by omega) HX.out.g OT.out M2.out K2.out HA.out (r := r2))
        have H2 := Lib.hid (HY.out.other (go := gx) (by omega) (by omega) (by omega) (.slice A2 ns2.length c2) (.int .i64 r2) (.slice FA2 free2.length fc2))
        have H3 := Lib.hid (MT.out.kept' (grown_set3 (w := w5) (g := gx) (.slice A2 ns2.length c2) (.int .i64 r2) (.slice FA2 free2.length fc2)) (fun k hk e => by injection e with e; have := MT.out.own_ge k hk; omega))
        have H4 := Lib.hid (((OS.out.setOther (k := gx) (j := 0) (by omega) (.slice A2 ns2.length c2)).setOther (k := gx) (j := 1) (by omega) (.int .i64 r2)).setOther (k := gx) (j := 2) (by omega) (.slice FA2 free2.length fc2))
        clear O2 M2 K2 OT HA HOK
        go_wp2
        go_meet
        exact ⟨by rw [KX.out, E.out]; exact H1.out, H2.out, H3.out, H4.out⟩
      case rest =>
      obtain ⟨hx, hy, hmt, hos⟩ := hcut
      have HX := Lib.hid hx
      have HY := Lib.hid hy
      have MT := Lib.hid hmt
      have OS := Lib.hid hos
      clear hx hy hmt hos O2 M2 K2 OT GX2 HOK HZ hsq hqx hqy
      have hqs := HX.out.g.size
      have hqx : gx < wc.heap.size := by obtain ⟨_, _, _, _, _, _, _, _, o, _⟩ := HX.out; exact o.lt
      have hqy : gy < wc.heap.size := by obtain ⟨_, _, _, _, _, _, _, _, o, _⟩ := HY.out; exact o.lt
      obtain ⟨At', ct', hAt, _, _, rt⟩ := MT.out.row
      injection hAt with e1 _ e3
      subst e1 e3
      obtain ⟨bt, ot, rfl, hbt, hct⟩ := rt.its (by omega)
      have D0 := Lib.hid (hct j hlt).1
      have D1 := Lib.hid (hct j hlt).2.1
      have D2 := Lib.hid (hct j hlt).2.2
      clear hct rt
      generalize it ts j = y at *
      obtain ⟨y0, y1, y2⟩ := y
      generalize wc = wq at *
      go_upto_region 11 with fail
      obtain ⟨A, c', ns, r, FA, fc, free, hall, ho, hm1, hm2, hf1, hf2, hgg⟩ := HY.out
      obtain ⟨A0, c0', FA0, fc0, e1, e2, _, _, tt⟩ := tre_of hm1 hm2 (free_ok hall)
      injection e1 with e1 _ e3
      injection e2 with e4 _ e6
      subst e1 e3 e4 e6
      have HALL := Lib.hid hall
      have TT := Lib.hid tt
      have HS : Hid (SB wq wq [(gy, 25, [.slice A ns.length c', .int .i64 r, .slice FA free.length fc])]) := ⟨World.grownBy.refl _ _, (StS.nil wq).cons ho⟩
      clear hall ho hm1 hm2 hf1 hf2 hgg tt
      go_cut [13, 14] from 66 to 74 (fun p z wx => InMid wq (InsIs (allF ns r free) (y0, y1, y2)) p z wx)
      case first =>
        go_region_held3 (fun w' : World => w'.cell? ⟨gy, 0, none⟩ = some (.slice A ns.length c') ∧ w'.cell? ⟨gy, 1, none⟩ = some (.int .i64 r) ∧ w'.cell? ⟨gy, 2, none⟩ = some (.slice FA free.length fc) ∧ w'.cell? ⟨bt, ot + j * 3, none⟩ = some (.int .i64 y0) ∧ w'.cell? ⟨bt, ot + j * 3 + 1, none⟩ = some (.int .i64 y1) ∧ w'.cell? ⟨bt, ot + j * 3 + 2, none⟩ = some (.int .i64 y2)) (first | with_reducible exact HS.out.tree6 (by simp) D0.out D1.out D2.out | with_reducible exact HS.out.lit.tree6 (by simp) D0.out D1.out D2.out | with_reducible exact HS.out.drew.tree6 (by simp) D0.out D1.out D2.out | with_reducible exact HS.out.lit.drew.tree6 (by simp) D0.out D1.out D2.out | with_reducible exact HS.out.tree6Put (by simp) D0.out D1.out D2.out (by omega) (by omega) _ _ _)
          ((go_at_call 24; (first | with_reducible refine (Insert_any A ns.length c' ns r FA free.length fc free y0 y1 y2 _ (TT.out.grown (Nat.le_refl _) HS.out.lit.drew.g) HS.out.lit.drew.g.size).mono ?_ | with_reducible refine (Insert_any A ns.length c' ns r FA free.length fc free y0 y1 y2 _ (TT.out.grown (Nat.le_refl _) HS.out.drew.lit.g) HS.out.drew.lit.g.size).mono ?_ | with_reducible refine (Insert_any A ns.length c' ns r FA free.length fc free y0 y1 y2 _ (TT.out.grown (Nat.le_refl _) HS.out.lit.g) HS.out.lit.g.size).mono ?_ | with_reducible refine (Insert_any A ns.length c' ns r FA free.length fc free y0 y1 y2 _ (TT.out.grown (Nat.le_refl _) HS.out.drew.g) HS.out.drew.g.size).mono ?_ | with_reducible refine (Insert_any A ns.length c' ns r FA free.length fc free y0 y1 y2 _ (TT.out.grown (Nat.le_refl _) HS.out.g) HS.out.g.size).mono ?_); rintro e w2 ⟨ns', r', free', z', v', f', hins, rfl, m4, k4, k⟩; (first | (with_reducible have HS' := Lib.hid (HS.out.lit.drew.kept k)) | (with_reducible have HS' := Lib.hid (HS.out.drew.lit.kept k)) | (with_reducible have HS' := Lib.hid (HS.out.lit.kept k)) | (with_reducible have HS' := Lib.hid (HS.out.drew.kept k)) | (with_reducible have HS' := Lib.hid (HS.out.kept k))); have HS := HS'; have hsz := HS.out.g.size; have hnl := SB.firstLt HS.out; clear HS' k; obtain ⟨Aa, ca, Fa, fa, rfl, rfl, _, _, _⟩ := tre_of m4 k4 (ins_okI hins); have M4 := Lib.hid m4; have K4 := Lib.hid k4; have HINS := Lib.hid hins; clear m4 k4 hins; obtain ⟨n0, n1, n2, f0, f1, f2⟩ := SB.first3 HS.out))
        all_goals go_wp2_with fail
        all_goals go_meet
        all_goals first | exact inMid_new HS.out (by first | omega | (simp; done) | (simp; omega)) M4.out K4.out HINS.out | exact inMid_put HS.out (by omega) (by first | omega | (simp; done) | (simp; omega)) M4.out K4.out HINS.out
      case rest =>
      obtain ⟨ns2, r2, free2, z2, g2, A2, c2, FA2, fc2, hins, rfl, rfl, hg2', o2, m2, k2, gx2⟩ := hcut
      rw [HALL.out] at hins
      obtain ⟨hz, _, hok⟩ := hins
      have HOK : Hid (z2 = 0 → allF ns2 r2 free2 = some (withF (y0, y1, y2) (putK ts j))) := fun e => by
        obtain ⟨xs', hV, hA⟩ := hok e
        obtain rfl : (putK ts j) = xs' := Option.some.inj hV
        exact hA
      have HZ := Lib.hid hz
      have O2 := Lib.hid o2
      have M2 := Lib.hid m2
      have K2 := Lib.hid k2
      have GX2 := Lib.hid gx2
      have OT : Hid (Own wc gy 25 [.slice A ns.length c', .int .i64 r, .slice FA free.length fc]) := (HS.out.own (by simp)).kept gx2
      clear hz hok o2 m2 k2 gx2 HS HALL TT D0 D1 D2
      go_wp2_with fail
      refine (num_says _ _).mono ?_
      rintro e w5 ⟨rfl, g5⟩
      have O2 := Lib.hid (O2.out.kept g5)
      have M2 := Lib.hid (M2.out.kept g5)
      have K2 := Lib.hid (K2.out.kept g5)
      have OT := Lib.hid (OT.out.kept g5)
      have GX2 := Lib.hid (grown_trans GX2.out g5)
      have HX := Lib.hid (HX.out.grown GX2.out)
      have HY := Lib.hid (HY.out.grown GX2.out)
      have MT := Lib.hid (MT.out.kept GX2.out)
      have OS := Lib.hid (OS.out.kept GX2.out)
      have hsq := GX2.out.size
      clear g5
      by_cases hz0 : z2 = 0
      case neg =>
        have q : (z2 == 0) = false := by simpa using hz0
        have E := Lib.hid (putIn_no (xs := (putK ts j)) (x := (y0, y1, y2)) (by rw [← HZ.out]; exact hz0))
        clear hz0
        go_wp2
        go_roundw
        case rel => exact ⟨j + 1, by omega, by go_num, HX.out, by rw [KY.out, E.out]; exact HY.out, MT.out, OS.out⟩
        case measure => simp [intOf]; omega
      have HA := Lib.hid (HOK.out hz0)
      have E := Lib.hid (putIn_yes (xs := (putK ts j)) (x := (y0, y1, y2)) (by rw [← HZ.out]; exact hz0))
      subst hz0
      obtain ⟨b0, b1, b2⟩ := O2.out.three
      obtain ⟨t0, t1, t2⟩ := OT.out.three
      have f0 := OT.out.frozen 0
      have f1 := OT.out.frozen 1
      have f2 := OT.out.frozen 2
      have H1 := Lib.hid (holdsM_put (gt := gy) (gx := gx) (gy := gy) (by omega) hqx hqy (by omega) HY.out.g OT.out M2.out K2.out HA.out (r := r2))
      have H2 := Lib.hid (HX.out.other (go := gy) (by omega) (by omega) (by omega) (.slice A2 ns2.length c2) (.int .i64 r2) (.slice FA2 free2.length fc2))
      have H3 := Lib.hid (MT.out.kept' (grown_set3 (w := w5) (g := gy) (.slice A2 ns2.length c2) (.int .i64 r2) (.slice FA2 free2.length fc2)) (fun k hk e => by injection e with e; have := MT.out.own_ge k hk; omega))
      have H4 := Lib.hid (((OS.out.setOther (k := gy) (j := 0) (by omega) (.slice A2 ns2.length c2)).setOther (k := gy) (j := 1) (by omega) (.int .i64 r2)).setOther (k := gy) (j := 2) (by omega) (.slice FA2 free2.length fc2))
      clear O2 M2 K2 OT HA HOK
      go_wp2
      go_roundw
      case rel => exact ⟨j + 1, by omega, by go_num, H2.out, by rw [KY.out, E.out]; exact H1.out, H3.out, H4.out⟩
      case measure => simp [intOf]; omega

end Go.Proofs.Ytgfehlmiejnonaa
