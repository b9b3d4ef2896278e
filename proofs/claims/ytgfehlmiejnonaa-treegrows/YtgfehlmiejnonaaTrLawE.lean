/-
  TreeGrows, walked.
-/
import Derived.Test.YtgfehlmiejnonaaTreeN
import Derived.Test.YtgfehlmiejnonaaFrame
set_option maxRecDepth 20000
namespace Go.Proofs.Ytgfehlmiejnonaa
open Go.RowKit

def GrRel (w : World) (gt n : Nat) (o i : Value) (wr : World) : Prop :=
  ∃ (j : Nat) (xs : List It), j ≤ n ∧ i = .int .i64 (j : Nat) ∧ MineE itemE wr (gt + 1) o xs.length xs ∧ HoldsT w gt xs wr

set_option maxHeartbeats 4000000 in
theorem TreeGrows_walk (I : Option Addr) (n c : Nat) (its : List It) (X : Option Addr) (m d : Nat) (outs : List Int) (w : World) (h0 : InI w I n c its) (hx0 : In w X m d outs) : Calls Try.prog 6 #[.slice I n c, .slice X m d] w (LawPost w) := by
  obtain ⟨h, _⟩ := h0
  obtain ⟨hx, _⟩ := hx0
  have hn := h.small
  have hm := hx.small
  have HI := Lib.hid h
  have HX := Lib.hid hx
  clear h hx
  go_enter Try.func6, Try.ntmps6
  go_wp2_with fail
  refine (New_any _).mono ?_
  rintro e w1 ⟨ns, r, free, v, f, hall, rfl, m1, k1, g1⟩
  obtain ⟨A, c', FA, fc, rfl, rfl, _, _, ta⟩ := tre_of m1 k1 (free_ok hall)
  have hs1 := g1.size
  have kx := grow0 w1 (.cells #[.slice A ns.length c', .int .i64 r, .slice FA free.length fc] 25)
  have HS : Hid (GrRel w w1.heap.size n (.slice none 0 0) (.int .i64 0) (w1.alloc (.cells #[.slice A ns.length c', .int .i64 r, .slice FA free.length fc] 25))) :=
    ⟨0, [], Nat.zero_le _, rfl, MineE.nil _ _ _, _, _, _, ns, r, _, _, _, free, hall, Own.new w1 25 [.slice A ns.length c', .int .i64 r, .slice FA free.length fc], (ta.grown (Nat.le_refl _) kx |> fun t => ⟨t.nodes.wide kx.size, t.free.wide kx.size⟩), grown_trans g1 kx⟩
  clear m1 k1 g1 ta kx hall
  go_wp2
  generalize w1.heap.size = gt at *
  go_loopw [6, 7] (fun o i wr => GrRel w gt n o i wr) (fun _ i _ => n - (intOf i).toNat)
  case atStart => exact HS.out
  case round =>
    clear HS
    obtain ⟨j, xs, hj, rfl, ma, ht⟩ := hrel
    have MA := Lib.hid ma
    have HT := Lib.hid ht
    clear ma ht
    by_cases hlt : j < n
    · obtain ⟨bi, oi, rfl, hbi, hci⟩ := HI.out.its (by omega)
      obtain ⟨d0, d1, d2⟩ := hci j hlt
      clear hci
      generalize it its j = x at *
      obtain ⟨x0, x1, x2⟩ := x
      simp only at d0 d1 d2
      obtain ⟨Ax, cx, rfl, _, _, rx⟩ := MA.out.row
      have RX := Lib.hid rx
      have d0 := kept HT.out.g d0
      have d1 := kept HT.out.g d1
      have d2 := kept HT.out.g d2
      have hl32 := HT.out.len
      have hbr : bi < wr.heap.size := by have := HT.out.g.size; omega
      clear rx
      go_upto_block 2 with fail
      go_cut [8] from 23 to 40 (fun a wx => a = .int .i64 (insE (some xs) (x0, x1, x2)) ∧ wr.grownBy wx none)
      case first =>
        go_wp2_with fail
        refine (ItemMay_any x0 x1 x2 _).mono ?_
        rintro e w2 ⟨rfl, g2⟩
        have G2 := Lib.hid g2
        clear g2
        cases h1 : itB (x0, x1, x2)
        · have E : Hid (insE (some xs) (x0, x1, x2) = 1700) := by rw [Hid, insE, if_pos h1]
          clear h1
          go_wp2
          go_meet
          exact ⟨by rw [E.out], G2.out⟩
        have H1 := Lib.hid h1
        clear h1
        have d0 := kept G2.out d0
        have d1 := kept G2.out d1
        have d2 := kept G2.out d2
        go_wp2_with fail
        refine (There_any x0 x1 x2 Ax xs.length cx xs _ (RX.out.grown (Nat.le_refl _) G2.out) G2.out.size).mono ?_
        rintro e w3 ⟨rfl, g3⟩
        have G2 := Lib.hid (grown_trans G2.out g3)
        clear g3
        by_cases h2 : (x0, x1, x2) ∈ xs
        · have E : Hid (insE (some xs) (x0, x1, x2) = 1701) := by rw [Hid, insE, if_neg (by simp [H1.out]), if_pos h2]
          rw [decide_eq_true h2]
          clear h2
          go_wp2
          go_meet
          exact ⟨by rw [E.out], G2.out⟩
        rw [decide_eq_false h2]
        have H2 := Lib.hid h2
        clear h2
        by_cases h3 : xs.length = 32
        · have E : Hid (insE (some xs) (x0, x1, x2) = 1703) := by rw [Hid, insE, if_neg (by simp [H1.out]), if_neg H2.out, if_pos h3]
          have q : ((xs.length : Int) == 32) = true := by simp; omega
          clear h3
          go_wp2
          go_meet
          exact ⟨by rw [E.out], G2.out⟩
        · have E : Hid (insE (some xs) (x0, x1, x2) = 0) := by rw [Hid, insE, if_neg (by simp [H1.out]), if_neg H2.out, if_neg h3]
          have q : ((xs.length : Int) == 32) = false := by simp; omega
          clear h3
          go_wp2
          go_meet
          exact ⟨by rw [E.out], G2.out⟩
      case rest =>
        obtain ⟨rfl, gc⟩ := hcut
        have D0 := Lib.hid (kept gc d0)
        have D1 := Lib.hid (kept gc d1)
        have D2 := Lib.hid (kept gc d2)
        have HT := Lib.hid (HT.out.grown gc)
        have MA := Lib.hid (MA.out.kept gc)
        have hbc : bi < wc.heap.size := by have := gc.size; omega
        clear d0 d1 d2 gc RX
        generalize wc = wq at *
        obtain ⟨A, n', c', ns, r, FA, fn, fc, free, hall, ho, ht, hg⟩ := HT.out
        have HALL := Lib.hid hall
        have TT := Lib.hid ht
        have HS : Hid (SB wq wq [(gt, 25, [.slice A n' c', .int .i64 r, .slice FA fn fc])]) := ⟨World.grownBy.refl _ _, (StS.nil wq).cons ho⟩
        have hgt := ho.lt
        clear hall ho ht hg
        go_upto_region 13 with fail
        go_cut [9, 10] from 41 to 49 (fun p z wx => InMid wq (InsIs (allF ns r free) (x0, x1, x2)) p z wx)
        case first =>
          go_region_held3 (fun w' : World => w'.cell? ⟨gt, 0, none⟩ = some (.slice A n' c') ∧ w'.cell? ⟨gt, 1, none⟩ = some (.int .i64 r) ∧ w'.cell? ⟨gt, 2, none⟩ = some (.slice FA fn fc) ∧ w'.cell? ⟨bi, oi + j * 3, none⟩ = some (.int .i64 x0) ∧ w'.cell? ⟨bi, oi + j * 3 + 1, none⟩ = some (.int .i64 x1) ∧ w'.cell? ⟨bi, oi + j * 3 + 2, none⟩ = some (.int .i64 x2)) (first | with_reducible exact HS.out.tree6 (by simp) D0.out D1.out D2.out | with_reducible exact HS.out.lit.tree6 (by simp) D0.out D1.out D2.out | with_reducible exact HS.out.drew.tree6 (by simp) D0.out D1.out D2.out | with_reducible exact HS.out.lit.drew.tree6 (by simp) D0.out D1.out D2.out | with_reducible exact HS.out.tree6Put (by simp) D0.out D1.out D2.out (by omega) (by omega) _ _ _)
            ((go_at_call 24; (first | with_reducible refine (Insert_any A n' c' ns r FA fn fc free x0 x1 x2 _ (TT.out.grown (Nat.le_refl _) HS.out.lit.drew.g) HS.out.lit.drew.g.size).mono ?_ | with_reducible refine (Insert_any A n' c' ns r FA fn fc free x0 x1 x2 _ (TT.out.grown (Nat.le_refl _) HS.out.drew.lit.g) HS.out.drew.lit.g.size).mono ?_ | with_reducible refine (Insert_any A n' c' ns r FA fn fc free x0 x1 x2 _ (TT.out.grown (Nat.le_refl _) HS.out.lit.g) HS.out.lit.g.size).mono ?_ | with_reducible refine (Insert_any A n' c' ns r FA fn fc free x0 x1 x2 _ (TT.out.grown (Nat.le_refl _) HS.out.drew.g) HS.out.drew.g.size).mono ?_ | with_reducible refine (Insert_any A n' c' ns r FA fn fc free x0 x1 x2 _ (TT.out.grown (Nat.le_refl _) HS.out.g) HS.out.g.size).mono ?_); rintro e w2 ⟨ns', r', free', z', v', f', hins, rfl, m4, k4, k⟩; (first | (with_reducible have HS' := Lib.hid (HS.out.lit.drew.kept k)) | (with_reducible have HS' := Lib.hid (HS.out.drew.lit.kept k)) | (with_reducible have HS' := Lib.hid (HS.out.lit.kept k)) | (with_reducible have HS' := Lib.hid (HS.out.drew.kept k)) | (with_reducible have HS' := Lib.hid (HS.out.kept k))); have HS := HS'; have hsz := HS.out.g.size; have hnl := SB.firstLt HS.out; clear HS' k; obtain ⟨Aa, ca, Fa, fa, rfl, rfl, _, _, _⟩ := tre_of m4 k4 (ins_okI hins); have M4 := Lib.hid m4; have K4 := Lib.hid k4; have HINS := Lib.hid hins; clear m4 k4 hins; obtain ⟨n0, n1, n2, f0, f1, f2⟩ := SB.first3 HS.out))
          all_goals go_wp2_with fail
          all_goals go_meet
          all_goals first | exact inMid_new HS.out (by first | omega | (simp; done) | (simp; omega)) M4.out K4.out HINS.out | exact inMid_put HS.out (by omega) (by first | omega | (simp; done) | (simp; omega)) M4.out K4.out HINS.out
        case rest =>
          obtain ⟨ns2, r2, free2, z2, g2, A2, c2, FA2, fc2, hins, rfl, rfl, hg2, o2, m2, k2, gx⟩ := hcut
          rw [HALL.out] at hins
          obtain ⟨hz, _, hok⟩ := hins
          rw [← hz]
          have HOK : Hid (z2 = 0 → allF ns2 r2 free2 = some (withF (x0, x1, x2) xs)) := fun e => by
            obtain ⟨xs', hV, hA⟩ := hok e
            obtain rfl : xs = xs' := Option.some.inj hV
            exact hA
          have O2 := Lib.hid o2
          have M2 := Lib.hid m2
          have K2 := Lib.hid k2
          have GX := Lib.hid gx
          have OT : Hid (Own wc gt 25 [.slice A n' c', .int .i64 r, .slice FA fn fc]) := (HS.out.own (by simp)).kept gx
          clear hz hok o2 m2 k2 gx HS HALL TT
          go_upto_region 14 with fail
          go_wp2_with fail
          refine (num_says _ _).mono ?_
          rintro e w3 ⟨rfl, g3⟩
          have O2 := Lib.hid (O2.out.kept g3)
          have M2 := Lib.hid (M2.out.kept g3)
          have K2 := Lib.hid (K2.out.kept g3)
          have OT := Lib.hid (OT.out.kept g3)
          have GX := Lib.hid (grown_trans GX.out g3)
          clear g3
          have HT := Lib.hid (HT.out.grown GX.out)
          have MA := Lib.hid (MA.out.kept GX.out)
          have hs3 := GX.out.size
          have hzz : (z2 != z2) = false := not_same
          clear D0 D1 D2
          have D0 := kept HT.out.g d0
          have D1 := kept HT.out.g d1
          have D2 := kept HT.out.g d2
          have hgw := HT.out.g
          generalize w3 = wv at *
          go_upto_if 55 with fail
          go_cut [6] from 54 to 62 (fun o wx => ∃ ys : List It, MineE itemE wx (gt + 1) o ys.length ys ∧ HoldsT w gt ys wx)
          case first =>
            by_cases hz0 : z2 = 0
            case neg =>
              have q : (z2 == 0) = false := by simpa using hz0
              clear hz0 hzz
              go_wp2
              go_meet
              exact ⟨xs, MA.out, HT.out⟩
            have HA := Lib.hid (HOK.out hz0)
            subst hz0
            obtain ⟨A1, c1, hA1, _, _, rx⟩ := MA.out.row
            injection hA1 with e1 _ e3
            subst e1 e3
            have RX := Lib.hid rx
            clear rx HOK hzz
            go_wp2_with fail
            refine (With_any x0 x1 x2 Ax xs.length cx xs _ RX.out (Nat.le_refl _) (by omega)).mono ?_
            rintro e w4 ⟨v4, rfl, m4, g4⟩
            have M4 := Lib.hid (m4.wide (show gt + 1 ≤ wv.heap.size by omega))
            have O2 := Lib.hid (O2.out.kept g4)
            have M2 := Lib.hid (M2.out.kept g4)
            have K2 := Lib.hid (K2.out.kept g4)
            have OT := Lib.hid (OT.out.kept g4)
            have G4 := Lib.hid (grown_trans hgw g4)
            clear m4 g4 D0 D1 D2 RX MA HT GX
            obtain ⟨b0, b1, b2⟩ := O2.out.three
            obtain ⟨t0, t1, t2⟩ := OT.out.three
            have f0 := OT.out.frozen 0
            have f1 := OT.out.frozen 1
            have f2 := OT.out.frozen 2
            have HH := Lib.hid (holds_put hs1 hgt G4.out OT.out M2.out K2.out HA.out (r := r2))
            have M5 := Lib.hid (M4.out.kept' (grown_set3 (w := w4) (g := gt) (.slice A2 ns2.length c2) (.int .i64 r2) (.slice FA2 free2.length fc2)) (fun k hk e => by injection e with e; have := M4.out.own_ge k hk; omega))
            clear O2 M2 K2 OT HA M4 G4
            go_wp2
            go_meet
            exact ⟨_, M5.out, HH.out⟩
          case rest =>
            obtain ⟨ys, my, hy⟩ := hcut
            have MA := Lib.hid my
            have HT := Lib.hid hy
            clear my hy hzz HOK O2 M2 K2 GX OT D0 D1 D2 hgw hs3 hg2 hl32 hbr hbc hgt
            have hl32 := HT.out.len
            obtain ⟨Ay, cy, rfl, _, _, ry⟩ := MA.out.row
            have RY := Lib.hid ry
            clear ry
            generalize wc = wu at *
            go_upto_region 19 with fail
            go_cut [71] from 63 to 70 (fun b wx => b = .bool (decide (j < m) && decide (0 < ys.length)) ∧ wx = wu)
            case first =>
              by_cases hjm : j < m
              case neg =>
                have E : Hid ((decide (j < m) && decide (0 < ys.length)) = false) := by rw [Hid, decide_eq_false hjm]; rfl
                have q0 : decide ((j : Int) < (m : Int)) = false := decide_eq_false (by omega)
                have q1 : decide (j < m) = false := decide_eq_false hjm
                clear hjm
                go_wp2
                go_meet
                exact ⟨by rw [E.out], rfl⟩
              have q0 : decide ((j : Int) < (m : Int)) = true := decide_eq_true (by omega)
              have q1 : decide (j < m) = true := decide_eq_true hjm
              by_cases hys : 0 < ys.length
              case neg =>
                have E : Hid ((decide (j < m) && decide (0 < ys.length)) = false) := by rw [Hid, decide_eq_true hjm, decide_eq_false hys]; rfl
                have q2 : decide ((0 : Int) < (ys.length : Int)) = false := decide_eq_false (by omega)
                have q3 : decide (0 < ys.length) = false := decide_eq_false hys
                clear hys hjm
                go_wp2
                go_meet
                exact ⟨by rw [E.out], rfl⟩
              have E : Hid ((decide (j < m) && decide (0 < ys.length)) = true) := by rw [Hid, decide_eq_true hjm, decide_eq_true hys]; rfl
              have q2 : decide ((0 : Int) < (ys.length : Int)) = true := decide_eq_true (by omega)
              have q3 : decide (0 < ys.length) = true := decide_eq_true hys
              clear hys hjm
              go_wp2
              go_meet
              exact ⟨by rw [E.out], rfl⟩
            case rest =>
            obtain ⟨rfl, hwc⟩ := hcut
            subst hwc
            generalize wc = wu at *
            have hjys : (decide (j < m) && decide (0 < ys.length)) = true → j < m ∧ 0 < ys.length := fun h => by
              rw [Bool.and_eq_true, decide_eq_true_eq, decide_eq_true_eq] at h
              exact h
            have HJY := Lib.hid hjys
            clear hjys
            generalize (decide (j < m) && decide (0 < ys.length)) = bb at *
            go_upto_if 71 with fail
            go_cut [6, 11, 12, 13] from 72 to 98 (fun o _ _ _ wx => ∃ zs : List It, MineE itemE wx (gt + 1) o zs.length zs ∧ HoldsT w gt zs wx)
            case first =>
              cases bb
              case false =>
                go_wp2
                go_meet
                exact ⟨ys, MA.out, HT.out⟩
              obtain ⟨hjm, hys⟩ := HJY.out rfl
              obtain ⟨bx, ox, rfl, hbx, hcx⟩ := HX.out.at_ (by omega)
              have y0 := kept HT.out.g (hcx j hjm)
              generalize outs[j]?.getD 0 = oj at *
              obtain ⟨kk, hkk, hkb⟩ := and_31 oj
              obtain ⟨ln, hln⟩ : ∃ ln, ys.length = ln := ⟨_, rfl⟩
              have HLN := Lib.hid hln
              rw [hln] at hys RY MA hl32
              rw [hln]
              clear hln
              have hne : ¬ (ln : Int) = 0 := by omega
              have hrem : (kk : Int).tmod (ln : Int) = ((kk % ln : Nat) : Int) := rfl
              have hkl : kk % ln < ln := Nat.mod_lt _ hys
              generalize kk % ln = k at *
              clear hcx
              go_upto_region 21 with fail
              clear y0 hkb hrem hne
              obtain ⟨by_, oy, hAy, hby, hcy⟩ := RY.out.its hys
              subst hAy
              have E0 := Lib.hid (hcy k hkl).1
              have E1 := Lib.hid (hcy k hkl).2.1
              have E2 := Lib.hid (hcy k hkl).2.2
              have HMEM : Hid (it ys k ∈ ys) := it_mem (by rw [HLN.out]; exact hkl) rfl
              clear hcy
              generalize it ys k = y at *
              obtain ⟨v0, v1, v2⟩ := y
              obtain ⟨A, n', c', ns, r, FA, fn, fc, free, hall, ho, ht, hg⟩ := HT.out
              have HALL := Lib.hid hall
              have TT := Lib.hid ht
              have HS : Hid (SB wu wu [(gt, 25, [.slice A n' c', .int .i64 r, .slice FA fn fc])]) := ⟨World.grownBy.refl _ _, (StS.nil wu).cons ho⟩
              have hgt := ho.lt
              clear hall ho ht hg
              go_cut [12, 13] from 80 to 88 (fun p z wx => InMid wu (DelIs (allF ns r free) (v0, v1, v2)) p z wx)
              case first =>
                go_region_held3 (fun w' : World => w'.cell? ⟨gt, 0, none⟩ = some (.slice A n' c') ∧ w'.cell? ⟨gt, 1, none⟩ = some (.int .i64 r) ∧ w'.cell? ⟨gt, 2, none⟩ = some (.slice FA fn fc) ∧ w'.cell? ⟨by_, oy + k * 3, none⟩ = some (.int .i64 v0) ∧ w'.cell? ⟨by_, oy + k * 3 + 1, none⟩ = some (.int .i64 v1) ∧ w'.cell? ⟨by_, oy + k * 3 + 2, none⟩ = some (.int .i64 v2)) (first | with_reducible exact HS.out.tree6 (by simp) E0.out E1.out E2.out | with_reducible exact HS.out.lit.tree6 (by simp) E0.out E1.out E2.out | with_reducible exact HS.out.drew.tree6 (by simp) E0.out E1.out E2.out | with_reducible exact HS.out.lit.drew.tree6 (by simp) E0.out E1.out E2.out | with_reducible exact HS.out.tree6Put (by simp) E0.out E1.out E2.out (by omega) (by omega) _ _ _)
                  ((go_at_call 28; (first | with_reducible refine (Delete_any A n' c' ns r FA fn fc free v0 v1 v2 _ (TT.out.grown (Nat.le_refl _) HS.out.lit.drew.g) HS.out.lit.drew.g.size).mono ?_ | with_reducible refine (Delete_any A n' c' ns r FA fn fc free v0 v1 v2 _ (TT.out.grown (Nat.le_refl _) HS.out.drew.lit.g) HS.out.drew.lit.g.size).mono ?_ | with_reducible refine (Delete_any A n' c' ns r FA fn fc free v0 v1 v2 _ (TT.out.grown (Nat.le_refl _) HS.out.lit.g) HS.out.lit.g.size).mono ?_ | with_reducible refine (Delete_any A n' c' ns r FA fn fc free v0 v1 v2 _ (TT.out.grown (Nat.le_refl _) HS.out.drew.g) HS.out.drew.g.size).mono ?_ | with_reducible refine (Delete_any A n' c' ns r FA fn fc free v0 v1 v2 _ (TT.out.grown (Nat.le_refl _) HS.out.g) HS.out.g.size).mono ?_); rintro e w2 ⟨ns', r', free', z', v', f', hins, rfl, m4, k4, k⟩; (first | (with_reducible have HS' := Lib.hid (HS.out.lit.drew.kept k)) | (with_reducible have HS' := Lib.hid (HS.out.drew.lit.kept k)) | (with_reducible have HS' := Lib.hid (HS.out.lit.kept k)) | (with_reducible have HS' := Lib.hid (HS.out.drew.kept k)) | (with_reducible have HS' := Lib.hid (HS.out.kept k))); have HS := HS'; have hsz := HS.out.g.size; have hnl := SB.firstLt HS.out; clear HS' k; obtain ⟨Aa, ca, Fa, fa, rfl, rfl, _, _, _⟩ := tre_of m4 k4 (del_okI hins); have M4 := Lib.hid m4; have K4 := Lib.hid k4; have HINS := Lib.hid hins; clear m4 k4 hins; obtain ⟨n0, n1, n2, f0, f1, f2⟩ := SB.first3 HS.out))
                all_goals go_wp2_with fail
                all_goals go_meet
                all_goals first | exact inMid_new HS.out (by first | omega | (simp; done) | (simp; omega)) M4.out K4.out HINS.out | exact inMid_put HS.out (by omega) (by first | omega | (simp; done) | (simp; omega)) M4.out K4.out HINS.out
              case rest =>
                obtain ⟨ns2, r2, free2, z2, g2, A2, c2, FA2, fc2, hins, rfl, rfl, hg2, o2, m2, k2, gx⟩ := hcut
                rw [HALL.out] at hins
                obtain ⟨hz, _, hok⟩ := hins
                have hz0 : z2 = 0 := by rw [hz, delE, if_pos HMEM.out]
                clear hz
                subst hz0
                obtain ⟨ys', hV, hA⟩ := hok rfl
                obtain rfl : ys = ys' := Option.some.inj hV
                have HA := Lib.hid hA
                have O2 := Lib.hid o2
                have M2 := Lib.hid m2
                have K2 := Lib.hid k2
                have GX := Lib.hid gx
                have OT : Hid (Own wc gt 25 [.slice A n' c', .int .i64 r, .slice FA fn fc]) := (HS.out.own (by simp)).kept gx
                clear hok o2 m2 k2 gx HS HALL TT hV hA
                go_upto_region 22 with fail
                go_wp2_with fail
                refine (num_says _ _).mono ?_
                rintro e w3 ⟨rfl, g3⟩
                have O2 := Lib.hid (O2.out.kept g3)
                have M2 := Lib.hid (M2.out.kept g3)
                have K2 := Lib.hid (K2.out.kept g3)
                have OT := Lib.hid (OT.out.kept g3)
                have GX := Lib.hid (grown_trans GX.out g3)
                clear g3
                have HG := Lib.hid (grown_trans HT.out.g GX.out)
                have RY := Lib.hid (RY.out.grown (Nat.le_refl _) GX.out)
                have e0 := kept GX.out E0.out
                have e1 := kept GX.out E1.out
                have e2 := kept GX.out E2.out
                have hs3 := GX.out.size
                clear E0 E1 E2
                go_upto_region 24 with fail
                go_wp2_with fail
                refine (Without_any v0 v1 v2 _ ln cy ys _ RY.out hs3 (by omega)).mono ?_
                rintro e w4 ⟨v4, rfl, m4, g4⟩
                have M4 := Lib.hid (m4.wide (show gt + 1 ≤ w3.heap.size by omega))
                have O2 := Lib.hid (O2.out.kept g4)
                have M2 := Lib.hid (M2.out.kept g4)
                have K2 := Lib.hid (K2.out.kept g4)
                have OT := Lib.hid (OT.out.kept g4)
                have G4 := Lib.hid (grown_trans HG.out g4)
                clear m4 g4 RY MA HT GX HG e0 e1 e2
                obtain ⟨b0, b1, b2⟩ := O2.out.three
                obtain ⟨t0, t1, t2⟩ := OT.out.three
                have f0 := OT.out.frozen 0
                have f1 := OT.out.frozen 1
                have f2 := OT.out.frozen 2
                have HH := Lib.hid (holds_put hs1 hgt G4.out OT.out M2.out K2.out HA.out (r := r2))
                have M5 := Lib.hid (M4.out.kept' (grown_set3 (w := w4) (g := gt) (.slice A2 ns2.length c2) (.int .i64 r2) (.slice FA2 free2.length fc2)) (fun k hk e => by injection e with e; have := M4.out.own_ge k hk; omega))
                clear O2 M2 K2 OT HA M4 G4
                go_wp2
                go_meet
                exact ⟨_, M5.out, HH.out⟩
            case rest =>
              obtain ⟨zs, mz, hz⟩ := hcut
              have MA := Lib.hid mz
              have HT := Lib.hid hz
              obtain ⟨A, n', c', ns, r, FA, fn, fc, free, hall, ho, ht, hg⟩ := hz
              have HALL := Lib.hid hall
              have TT := Lib.hid ht
              obtain ⟨b0, b1, b2⟩ := ho.three
              clear mz hall ho ht hg RY
              go_wp2_with fail
              refine (RAll_any ns n' r A c' free FA fn fc _ TT.out.nodes (Nat.le_refl _) TT.out.free (Nat.le_refl _)).mono ?_
              rw [HALL.out]
              rintro e w5 ⟨v5, rfl, m5, g5⟩
              have M5 : Hid (MineE itemE w5 wc.heap.size v5 zs.length zs) := m5
              have HT := Lib.hid (HT.out.grown g5)
              have MA := Lib.hid (MA.out.kept g5)
              clear m5 g5 b0 b1 b2
              obtain ⟨A5, c5, rfl, _, _, r5⟩ := M5.out.row
              obtain ⟨A6, c6, rfl, _, _, r6⟩ := MA.out.row
              have R5 := Lib.hid r5
              have R6 := Lib.hid r6
              clear r5 r6 M5
              go_wp2_with fail
              refine (SameItems_any A5 _ c5 _ A6 _ c6 _ w5 R5.out (Nat.le_refl _) R6.out (Nat.le_refl _)).mono ?_
              rw [decide_eq_true (rfl : zs = zs)]
              rintro e w6 ⟨rfl, g6⟩
              have HT := Lib.hid (HT.out.grown g6)
              have MA := Lib.hid (MA.out.kept g6)
              clear g6 R5 R6
              go_wp2
              go_roundw
              case rel => exact ⟨j + 1, zs, by omega, by go_num, MA.out, HT.out⟩
              case measure => simp [intOf]; omega
    · obtain rfl : j = n := by omega
      have G := Lib.hid HT.out.g
      clear HT MA
      go_wp2_with fail
      refine (awake17_any _).mono ?_
      rintro e w5 ⟨rfl, g5⟩
      go_wp2
      go_ret
      exact ⟨rfl, below_of (grown_trans G.out g5)⟩

end Go.Proofs.Ytgfehlmiejnonaa
