/-
  TreeHigh, walked.
-/
import Derived.Test.YtgfehlmiejnonaaTreeN
set_option maxRecDepth 20000
namespace Go.Proofs.Ytgfehlmiejnonaa
open Go.RowKit

def HiRel (w : World) (gt k : Nat) (falls : Bool) (i : Value) (wr : World) : Prop :=
  ∃ (j : Nat) (xs : List It), j ≤ k + 1 ∧ i = .int .i64 (j : Nat) ∧ HighInv falls j xs ∧ HoldsT w gt xs wr

set_option maxHeartbeats 4000000 in
theorem TreeHigh_walk (many : Int) (falls : Bool) (w : World) : Calls Try.prog 8 #[.int .i64 many, .bool falls] w (LawPost w) := by
  obtain ⟨k, hk, hkb⟩ := and_31 many
  go_enter Try.func8, Try.ntmps8
  go_upto_region 2 with fail
  clear hkb
  go_wp2_with fail
  refine (New_any _).mono ?_
  rintro e w1 ⟨ns, r, free, v, f, hall, rfl, m1, k1, g1⟩
  obtain ⟨A, c, FA, fc, rfl, rfl, _, _, ta⟩ := tre_of m1 k1 (free_ok hall)
  have hs1 := g1.size
  have kx := grow0 w1 (.cells #[.slice A ns.length c, .int .i64 r, .slice FA free.length fc] 25)
  have HS : Hid (HiRel w w1.heap.size k falls (.int .i64 0) (w1.alloc (.cells #[.slice A ns.length c, .int .i64 r, .slice FA free.length fc] 25))) :=
    ⟨0, [], Nat.zero_le _, rfl, ⟨rfl, fun y hy => by cases hy⟩, _, _, _, ns, r, _, _, _, free, hall, Own.new w1 25 [.slice A ns.length c, .int .i64 r, .slice FA free.length fc], (ta.grown (Nat.le_refl _) kx |> fun t => ⟨t.nodes.wide kx.size, t.free.wide kx.size⟩), grown_trans g1 kx⟩
  clear m1 k1 g1 ta kx hall
  go_wp2
  generalize w1.heap.size = gt at *
  go_loopw [7] (fun i wr => HiRel w gt k falls i wr) (fun i _ => k + 1 - (intOf i).toNat)
  case atStart => exact HS.out
  case round =>
    clear HS
    obtain ⟨j, xs, hj, rfl, hi, A, n, c, ns, r, FA, fn, fc, free, hall, ho, ht, hg⟩ := hrel
    have HI := Lib.hid hi
    have HALL := Lib.hid hall
    have G := Lib.hid hg
    have O := Lib.hid ho
    have T := Lib.hid ht
    clear hi hall hg ho ht
    by_cases hlt : j < k + 1
    · have hle : (j : Int) ≤ (k : Int) := by omega
      have hw1 : IntKind.i64.wrap (100 - (j : Int)) = 100 - (j : Int) := IntWalk.i64_in _ (by omega)
      go_upto_if 22 with fail
      go_cut [8] from 22 to 24 (fun a wx => a = .int .i64 (highAt falls j) ∧ wx = wr)
      case first =>
        clear HI HALL O T
        cases falls
        all_goals go_wp2
        all_goals go_meet
        all_goals exact ⟨rfl, rfl⟩
      case rest =>
        obtain ⟨rfl, rfl⟩ := hcut
        generalize wc = wq at *
        have hb : -100 ≤ highAt falls j ∧ highAt falls j ≤ 100 := by unfold highAt; cases falls <;> simp <;> omega
        have HIT : Hid (highIt falls j = (highAt falls j, highAt falls j + 1, 0)) := rfl
        generalize highAt falls j = av at *
        have hw2 : IntKind.i64.wrap (av + 1) = av + 1 := IntWalk.i64_in _ (by omega)
        clear hw1 hb
        have HS : Hid (SB wq wq [(gt, 25, [.slice A n c, .int .i64 r, .slice FA fn fc])]) := ⟨World.grownBy.refl _ _, (StS.nil wq).cons O.out⟩
        have hgt := O.out.lt
        clear O
        go_upto_region 9 with fail
        go_cut [9, 10] from 25 to 33 (fun p z wx => InMid wq (InsIs (allF ns r free) (av, av + 1, 0)) p z wx)
        case first =>
          go_region_held3 (fun w' : World => w'.cell? ⟨gt, 0, none⟩ = some (.slice A n c) ∧ w'.cell? ⟨gt, 1, none⟩ = some (.int .i64 r) ∧ w'.cell? ⟨gt, 2, none⟩ = some (.slice FA fn fc)) (first | with_reducible exact HS.out.tree (by simp) | with_reducible exact HS.out.lit.tree (by simp) | with_reducible exact HS.out.drew.tree (by simp) | with_reducible exact HS.out.lit.drew.tree (by simp) | with_reducible exact HS.out.treePut (by simp) (by omega) _ _ _)
            (first
              | (go_at_call 33; refine (Item_any _ _ _ _).mono ?_; rintro e w1 ⟨rfl, k⟩; (first | (with_reducible have HS' := Lib.hid (HS.out.lit.drew.kept k)) | (with_reducible have HS' := Lib.hid (HS.out.drew.lit.kept k)) | (with_reducible have HS' := Lib.hid (HS.out.lit.kept k)) | (with_reducible have HS' := Lib.hid (HS.out.drew.kept k)) | (with_reducible have HS' := Lib.hid (HS.out.kept k))); have HS := HS'; have hsz := HS.out.g.size; have hnl := SB.firstLt HS.out; clear HS' k)
              | (go_at_call 24; (first | with_reducible refine (Insert_any A n c ns r FA fn fc free av (av + 1) 0 _ (T.out.grown (Nat.le_refl _) HS.out.lit.drew.g) HS.out.lit.drew.g.size).mono ?_ | with_reducible refine (Insert_any A n c ns r FA fn fc free av (av + 1) 0 _ (T.out.grown (Nat.le_refl _) HS.out.drew.lit.g) HS.out.drew.lit.g.size).mono ?_ | with_reducible refine (Insert_any A n c ns r FA fn fc free av (av + 1) 0 _ (T.out.grown (Nat.le_refl _) HS.out.lit.g) HS.out.lit.g.size).mono ?_ | with_reducible refine (Insert_any A n c ns r FA fn fc free av (av + 1) 0 _ (T.out.grown (Nat.le_refl _) HS.out.drew.g) HS.out.drew.g.size).mono ?_ | with_reducible refine (Insert_any A n c ns r FA fn fc free av (av + 1) 0 _ (T.out.grown (Nat.le_refl _) HS.out.g) HS.out.g.size).mono ?_); rintro e w2 ⟨ns', r', free', z', v', f', hins, rfl, m4, k4, k⟩; (first | (with_reducible have HS' := Lib.hid (HS.out.lit.drew.kept k)) | (with_reducible have HS' := Lib.hid (HS.out.drew.lit.kept k)) | (with_reducible have HS' := Lib.hid (HS.out.lit.kept k)) | (with_reducible have HS' := Lib.hid (HS.out.drew.kept k)) | (with_reducible have HS' := Lib.hid (HS.out.kept k))); have HS := HS'; have hsz := HS.out.g.size; have hnl := SB.firstLt HS.out; clear HS' k; obtain ⟨Aa, ca, Fa, fa, rfl, rfl, _, _, _⟩ := tre_of m4 k4 (ins_okI hins); have M4 := Lib.hid m4; have K4 := Lib.hid k4; have HINS := Lib.hid hins; clear m4 k4 hins; obtain ⟨n0, n1, n2, f0, f1, f2⟩ := SB.first3 HS.out))
          all_goals go_wp2_with fail
          all_goals go_meet
          all_goals first | exact inMid_new HS.out (by first | omega | (simp; done) | (simp; omega)) M4.out K4.out HINS.out | exact inMid_put HS.out (by omega) (by first | omega | (simp; done) | (simp; omega)) M4.out K4.out HINS.out
        case rest =>
          obtain ⟨ns', r', free', z', g', A', c', FA', fc', hins, rfl, rfl, hg', o', m', k', gx⟩ := hcut
          rw [HALL.out, ← HIT.out] at hins
          obtain ⟨hz, _, hok⟩ := hins
          have hz0 : z' = 0 := by rw [hz]; exact ins_ok (high_it (by omega)) (high_new HI.out) (by have := HI.out.1; omega)
          clear hz
          subst hz0
          obtain ⟨xs', hV, hA⟩ := hok rfl
          obtain rfl : xs = xs' := Option.some.inj hV
          have HA := Lib.hid hA
          have HN := Lib.hid (high_next HI.out)
          have O' := Lib.hid o'
          have M' := Lib.hid m'
          have K' := Lib.hid k'
          have GX := Lib.hid gx
          have OT : Hid (Own wc gt 25 [.slice A n c, .int .i64 r, .slice FA fn fc]) := (HS.out.own (by simp)).kept gx
          clear hV hA o' m' k' gx hok HS HIT HI HALL T
          go_upto_region 10 with fail
          go_wp2_with fail
          refine (num_says _ _).mono ?_
          rintro e w3 ⟨rfl, g3⟩
          have O' := Lib.hid (O'.out.kept g3)
          have M' := Lib.hid (M'.out.kept g3)
          have K' := Lib.hid (K'.out.kept g3)
          have OT := Lib.hid (OT.out.kept g3)
          have GX := Lib.hid (grown_trans GX.out g3)
          clear g3
          obtain ⟨c0, c1, c2⟩ := O'.out.three
          obtain ⟨t0, t1, t2⟩ := OT.out.three
          have f0 := OT.out.frozen 0
          have f1 := OT.out.frozen 1
          have f2 := OT.out.frozen 2
          have HH := Lib.hid (holds_put hs1 hgt (grown_trans G.out GX.out) OT.out M'.out K'.out HA.out (r := r'))
          clear O' M' K' OT GX HA
          go_wp2
          go_roundw
          case rel => exact ⟨j + 1, _, by omega, by go_num, HN.out, HH.out⟩
          case measure => simp [intOf]; omega
    · obtain rfl : j = k + 1 := by omega
      have hlen := HI.out.1
      obtain ⟨hr0, hr1, hh⟩ := top_in HALL.out (by omega)
      obtain ⟨rn, rfl⟩ : ∃ rn : Nat, r = (rn : Int) := ⟨r.toNat, by omega⟩
      rw [Int.toNat_natCast] at hh
      have hns := T.out.nodes.len
      have hle : ¬ ((k + 1 : Nat) : Int) ≤ (k : Int) := by omega
      obtain ⟨bn, on, rfl, _, hcell⟩ := T.out.nodes.at_ (by omega)
      have d0 := hcell rn (by omega) 5 _ rfl
      have hnd : Hid ((ns[rn]?.getD nd0).2.2.2.1 = (nd ns rn).2.2.2.1) := rfl
      have d0 : wr.cell? ⟨bn, on + (rn * 7 + 5), none⟩ = some (.int .i64 ((ns[rn]?.getD nd0).2.2.2.1)) := d0
      rw [hnd.out, ← Nat.add_assoc] at d0
      generalize (nd ns rn).2.2.2.1 = hgt6 at *
      obtain ⟨c0, c1, c2⟩ := O.out.three
      have z0 : decide ((rn : Int) < 0) = false := by simp
      have z1 : decide ((n : Int) ≤ (rn : Int)) = false := by simp; omega
      have z1n : decide (n ≤ rn) = false := by simp; omega
      have z2 : decide ((6 : Int) < hgt6) = false := by simp; omega
      have hrn : rn < n := by omega
      clear hcell hnd hr0 hr1
      go_wp2_with fail
      refine (TMay_any _ n c ns _ FA fn fc free _ T.out (Nat.le_refl _)).mono ?_
      rw [HALL.out]
      rintro e w2 ⟨rfl, g2⟩
      have G := Lib.hid (grown_trans G.out g2)
      have O := Lib.hid (O.out.kept g2)
      have T : Hid (Tre w2 w2.heap.size (some ⟨bn, on, none⟩) n ns FA fn free) := (T.out.grown (Nat.le_refl _) g2 |> fun t => ⟨t.nodes.wide g2.size, t.free.wide g2.size⟩)
      have d0 := kept g2 d0
      clear c0 c1 c2 g2
      obtain ⟨c0, c1, c2⟩ := O.out.three
      have HS : Hid (SB w2 w2 [(gt, 25, [.slice (some ⟨bn, on, none⟩) n c, .int .i64 (rn : Nat), .slice FA fn fc])]) := ⟨World.grownBy.refl _ _, (StS.nil w2).cons O.out⟩
      have hgt := O.out.lt
      clear O
      go_upto_region 15 with fail
      clear d0 c0 c1 c2 z0 z1 z1n z2
      go_cut [11, 12] from 64 to 69 (fun p z wx => InMid w2 (InsIs (allF ns (rn : Nat) free) (200, 201, 0)) p z wx)
      case first =>
        go_region_held3 (fun w' : World => w'.cell? ⟨gt, 0, none⟩ = some (.slice (some ⟨bn, on, none⟩) n c) ∧ w'.cell? ⟨gt, 1, none⟩ = some (.int .i64 (rn : Nat)) ∧ w'.cell? ⟨gt, 2, none⟩ = some (.slice FA fn fc)) (first | with_reducible exact HS.out.tree (by simp) | with_reducible exact HS.out.lit.tree (by simp) | with_reducible exact HS.out.drew.tree (by simp) | with_reducible exact HS.out.lit.drew.tree (by simp) | with_reducible exact HS.out.treePut (by simp) (by omega) _ _ _)
          (first
            | (go_at_call 33; refine (Item_any _ _ _ _).mono ?_; rintro e w1 ⟨rfl, k⟩; (first | (with_reducible have HS' := Lib.hid (HS.out.lit.drew.kept k)) | (with_reducible have HS' := Lib.hid (HS.out.drew.lit.kept k)) | (with_reducible have HS' := Lib.hid (HS.out.lit.kept k)) | (with_reducible have HS' := Lib.hid (HS.out.drew.kept k)) | (with_reducible have HS' := Lib.hid (HS.out.kept k))); have HS := HS'; have hsz := HS.out.g.size; have hnl := SB.firstLt HS.out; clear HS' k)
            | (go_at_call 24; (first | with_reducible refine (Insert_any (some ⟨bn, on, none⟩) n c ns (rn : Nat) FA fn fc free 200 201 0 _ (T.out.grown (Nat.le_refl _) HS.out.lit.drew.g) HS.out.lit.drew.g.size).mono ?_ | with_reducible refine (Insert_any (some ⟨bn, on, none⟩) n c ns (rn : Nat) FA fn fc free 200 201 0 _ (T.out.grown (Nat.le_refl _) HS.out.drew.lit.g) HS.out.drew.lit.g.size).mono ?_ | with_reducible refine (Insert_any (some ⟨bn, on, none⟩) n c ns (rn : Nat) FA fn fc free 200 201 0 _ (T.out.grown (Nat.le_refl _) HS.out.lit.g) HS.out.lit.g.size).mono ?_ | with_reducible refine (Insert_any (some ⟨bn, on, none⟩) n c ns (rn : Nat) FA fn fc free 200 201 0 _ (T.out.grown (Nat.le_refl _) HS.out.drew.g) HS.out.drew.g.size).mono ?_ | with_reducible refine (Insert_any (some ⟨bn, on, none⟩) n c ns (rn : Nat) FA fn fc free 200 201 0 _ (T.out.grown (Nat.le_refl _) HS.out.g) HS.out.g.size).mono ?_); rintro e w2 ⟨ns', r', free', z', v', f', hins, rfl, m4, k4, k⟩; (first | (with_reducible have HS' := Lib.hid (HS.out.lit.drew.kept k)) | (with_reducible have HS' := Lib.hid (HS.out.drew.lit.kept k)) | (with_reducible have HS' := Lib.hid (HS.out.lit.kept k)) | (with_reducible have HS' := Lib.hid (HS.out.drew.kept k)) | (with_reducible have HS' := Lib.hid (HS.out.kept k))); have HS := HS'; have hsz := HS.out.g.size; have hnl := SB.firstLt HS.out; clear HS' k; obtain ⟨Aa, ca, Fa, fa, rfl, rfl, _, _, _⟩ := tre_of m4 k4 (ins_okI hins); have M4 := Lib.hid m4; have K4 := Lib.hid k4; have HINS := Lib.hid hins; clear m4 k4 hins; obtain ⟨n0, n1, n2, f0, f1, f2⟩ := SB.first3 HS.out))
        all_goals go_wp2_with fail
        all_goals go_meet
        all_goals first | exact inMid_new HS.out (by first | omega | (simp; done) | (simp; omega)) M4.out K4.out HINS.out | exact inMid_put HS.out (by omega) (by first | omega | (simp; done) | (simp; omega)) M4.out K4.out HINS.out
      case rest =>
        obtain ⟨ns', r', free', z', g', A', c', FA', fc', hins, rfl, rfl, hg', o', m', k', gx⟩ := hcut
        rw [HALL.out] at hins
        have hz : z' = if k = 31 then 1703 else 0 := hins.1.trans (high_last hk HI.out)
        have G := Lib.hid (grown_trans G.out gx)
        clear hins o' m' k' gx HS T HALL HI
        by_cases hk31 : k = 31
        · rw [if_pos hk31] at hz
          subst hz hk31
          go_wp2_with fail
          refine (awake17_any _).mono ?_
          rintro e w5 ⟨rfl, g5⟩
          have G := Lib.hid (grown_trans G.out g5)
          clear g5
          go_wp2_with fail
          refine (num_says _ _).mono ?_
          rintro e w6 ⟨rfl, g6⟩
          have G := Lib.hid (grown_trans G.out g6)
          clear g6
          go_wp2_with fail
          refine (num_says _ _).mono ?_
          rintro e w7 ⟨rfl, g7⟩
          have G := Lib.hid (grown_trans G.out g7)
          clear g7
          go_wp2
          go_ret
          exact ⟨rfl, below_of G.out⟩
        · rw [if_neg hk31] at hz
          subst hz
          have y0 : ((k : Int) == 31) = false := by simp; omega
          have y1 : decide ((k : Int) < 31) = true := by simp; omega
          clear hk31
          go_wp2_with fail
          refine (awake17_any _).mono ?_
          rintro e w5 ⟨rfl, g5⟩
          have G := Lib.hid (grown_trans G.out g5)
          clear g5
          go_wp2_with fail
          refine (num_says _ _).mono ?_
          rintro e w6 ⟨rfl, g6⟩
          have G := Lib.hid (grown_trans G.out g6)
          clear g6
          go_wp2_with fail
          refine (num_says _ _).mono ?_
          rintro e w7 ⟨rfl, g7⟩
          have G := Lib.hid (grown_trans G.out g7)
          clear g7
          go_wp2
          go_ret
          exact ⟨rfl, below_of G.out⟩

end Go.Proofs.Ytgfehlmiejnonaa
