/-
  awake of layer 17's laws.
-/
import Derived.Test.YtgfehlmiejnonaaTreeM
set_option maxRecDepth 20000
namespace Go.Proofs.Ytgfehlmiejnonaa
open Go.RowKit

def itA : It := (5, 9, 1)
def itB2 : It := (2, 6, 2)

theorem aw_ins1 {ns : List Nd} {r : Int} {free : List Int} {z : Int} (h : InsIs (some []) (5, 9, 1) ns r free z) : z = 0 ∧ allF ns r free = some [(5, 9, 1)] := by
  have hz : z = 0 := h.1.trans (by decide)
  obtain ⟨xs, e, k⟩ := h.2.2 hz
  obtain rfl := Option.some.inj e
  exact ⟨hz, k⟩

theorem aw_ins2 {ns : List Nd} {r : Int} {free : List Int} {z : Int} (h : InsIs (some [(5, 9, 1)]) (2, 6, 2) ns r free z) : z = 0 ∧ allF ns r free = some [(2, 6, 2), (5, 9, 1)] := by
  have hz : z = 0 := h.1.trans (by decide)
  obtain ⟨xs, e, k⟩ := h.2.2 hz
  obtain rfl := Option.some.inj e
  exact ⟨hz, k.trans (by decide)⟩

theorem aw_ins3 {ns : List Nd} {r : Int} {free : List Int} {z : Int} (h : InsIs (some [(2, 6, 2), (5, 9, 1)]) (2, 6, 2) ns r free z) : z = 1701 := h.1.trans (by decide)

theorem aw_del1 {ns : List Nd} {r : Int} {free : List Int} {z : Int} (h : DelIs (some [(2, 6, 2), (5, 9, 1)]) (5, 9, 1) ns r free z) : z = 0 ∧ allF ns r free = some [(2, 6, 2)] := by
  have hz : z = 0 := h.1.trans (by decide)
  obtain ⟨xs, e, k⟩ := h.2.2 hz
  obtain rfl := Option.some.inj e
  exact ⟨hz, k.trans (by decide)⟩

theorem aw_del2 {ns : List Nd} {r : Int} {free : List Int} {z : Int} (h : DelIs (some [(2, 6, 2)]) (5, 9, 1) ns r free z) : z = 1702 := h.1.trans (by decide)

theorem aw_meets : meetsV (some [(2, 6, 2), (5, 9, 1)]) 7 8 = [(5, 9, 1)] ∧ spanZ (some [(2, 6, 2), (5, 9, 1)]) 7 8 = 0 := by decide
theorem aw_points : pointsV (some [(2, 6, 2), (5, 9, 1)]) 0 9 = [2, 5, 6] ∧ spanZ (some [(2, 6, 2), (5, 9, 1)]) 0 9 = 0 := by decide

theorem MayNil (w : World) : Calls Try.prog 14 #[.agg #[.slice none 0 0, .int .i64 0, .slice none 0 0]] w (Says w (.bool false)) := by
  have h := TMay_any none 0 0 [] 0 none 0 0 [] w (B := 0) ⟨⟨rfl, by omega, fun h => by omega⟩, ⟨rfl, by omega, fun i => by simp, fun h => by omega⟩⟩ (Nat.zero_le _)
  rwa [show (allF [] 0 []).isSome = false by decide] at h

set_option maxHeartbeats 8000000 in
theorem awake17_any (w : World) : Calls Try.prog 16 #[] w (Says w (.bool true)) := by
  go_enter Try.func16, Try.ntmps16
  go_wp2_with fail
  refine (New_any _).mono ?_
  rintro e w1 ⟨ns, r, free, v, f, hall, rfl, m1, k1, g1⟩
  obtain ⟨A, c, FA, fc, rfl, rfl, _, _, ta⟩ := tre_of m1 k1 (free_ok hall)
  have T := Lib.hid ta
  have HALL := Lib.hid hall
  have G := Lib.hid g1
  clear m1 k1 hall ta g1
  go_wp2_with fail
  refine (Item_any _ _ _ _).mono ?_
  rintro e w2 ⟨rfl, g2⟩
  have G := Lib.hid (grown_trans G.out g2)
  have T := Lib.hid (T.out.on g2)
  clear g2
  go_wp2_with fail
  refine (Insert_any A ns.length c ns r FA free.length fc free 5 9 1 _ T.out (Nat.le_refl _)).mono ?_
  rw [HALL.out]
  rintro e w3 ⟨ns', r', free', z', v', f', hins, rfl, m3, k3, g3⟩
  obtain ⟨A', c', FA', fc', rfl, rfl, _, _, _⟩ := tre_of m3 k3 (ins_okI hins)
  obtain ⟨rfl, hA⟩ := aw_ins1 hins
  have kx := grow0 w3 (.cells #[.slice A' ns'.length c', .int .i64 r', .slice FA' free'.length fc'] 25)
  have H1 : Hid (HoldsT w w3.heap.size [(5, 9, 1)] (w3.alloc (.cells #[.slice A' ns'.length c', .int .i64 r', .slice FA' free'.length fc'] 25))) := holds_new (Own.new w3 25 [.slice A' ns'.length c', .int .i64 r', .slice FA' free'.length fc']) (m3.kept kx) (k3.kept kx) (grown_trans (grown_trans G.out g3) kx) hA
  have G := Lib.hid (grown_trans (grown_trans G.out g3) kx)
  clear m3 k3 hA hins kx g3 HALL T
  go_upto_region 2 with fail
  generalize w3.alloc (.cells #[.slice A' ns'.length c', .int .i64 r', .slice FA' free'.length fc'] 25) = wq at *
  generalize w3.heap.size = g1 at *
  obtain ⟨A, n', c', ns, r, FA, fn, fc, free, hall, ho, ht, hg⟩ := H1.out
  have HALL := Lib.hid hall
  have TT := Lib.hid ht
  have HS : Hid (SB wq wq [(g1, 25, [.slice A n' c', .int .i64 r, .slice FA fn fc])]) := ⟨World.grownBy.refl _ _, (StS.nil wq).cons ho⟩
  have hgt := ho.lt
  clear hall ho ht hg
  go_cut [3, 4] from 25 to 30 (fun p z wx => InMid wq (InsIs (allF ns r free) (2, 6, 2)) p z wx)
  case first =>
    go_region_held3 (fun w' : World => w'.cell? ⟨g1, 0, none⟩ = some (.slice A n' c') ∧ w'.cell? ⟨g1, 1, none⟩ = some (.int .i64 r) ∧ w'.cell? ⟨g1, 2, none⟩ = some (.slice FA fn fc)) (first | with_reducible exact HS.out.tree (by simp) | with_reducible exact HS.out.lit.tree (by simp) | with_reducible exact HS.out.drew.tree (by simp) | with_reducible exact HS.out.lit.drew.tree (by simp) | with_reducible exact HS.out.treePut (by simp) (by omega) _ _ _)
      (first
        | (go_at_call 33; refine (Item_any _ _ _ _).mono ?_; rintro e w1 ⟨rfl, k⟩; (first | (with_reducible have HS' := Lib.hid (HS.out.lit.drew.kept k)) | (with_reducible have HS' := Lib.hid (HS.out.drew.lit.kept k)) | (with_reducible have HS' := Lib.hid (HS.out.lit.kept k)) | (with_reducible have HS' := Lib.hid (HS.out.drew.kept k)) | (with_reducible have HS' := Lib.hid (HS.out.kept k))); have HS := HS'; have hsz := HS.out.g.size; have hnl := SB.firstLt HS.out; clear HS' k)
        | (go_at_call 24; (first | with_reducible refine (Insert_any A n' c' ns r FA fn fc free 2 6 2 _ (TT.out.grown (Nat.le_refl _) HS.out.lit.drew.g) HS.out.lit.drew.g.size).mono ?_ | with_reducible refine (Insert_any A n' c' ns r FA fn fc free 2 6 2 _ (TT.out.grown (Nat.le_refl _) HS.out.drew.lit.g) HS.out.drew.lit.g.size).mono ?_ | with_reducible refine (Insert_any A n' c' ns r FA fn fc free 2 6 2 _ (TT.out.grown (Nat.le_refl _) HS.out.lit.g) HS.out.lit.g.size).mono ?_ | with_reducible refine (Insert_any A n' c' ns r FA fn fc free 2 6 2 _ (TT.out.grown (Nat.le_refl _) HS.out.drew.g) HS.out.drew.g.size).mono ?_ | with_reducible refine (Insert_any A n' c' ns r FA fn fc free 2 6 2 _ (TT.out.grown (Nat.le_refl _) HS.out.g) HS.out.g.size).mono ?_); rintro e w2 ⟨ns', r', free', z', v', f', hins, rfl, m4, k4, k⟩; (first | (with_reducible have HS' := Lib.hid (HS.out.lit.drew.kept k)) | (with_reducible have HS' := Lib.hid (HS.out.drew.lit.kept k)) | (with_reducible have HS' := Lib.hid (HS.out.lit.kept k)) | (with_reducible have HS' := Lib.hid (HS.out.drew.kept k)) | (with_reducible have HS' := Lib.hid (HS.out.kept k))); have HS := HS'; have hsz := HS.out.g.size; have hnl := SB.firstLt HS.out; clear HS' k; obtain ⟨Aa, ca, Fa, fa, rfl, rfl, _, _, _⟩ := tre_of m4 k4 (ins_okI hins); have M4 := Lib.hid m4; have K4 := Lib.hid k4; have HINS := Lib.hid hins; clear m4 k4 hins; obtain ⟨n0, n1, n2, f0, f1, f2⟩ := SB.first3 HS.out))
    all_goals go_wp2_with fail
    all_goals go_meet
    all_goals first | exact inMid_new HS.out (by first | omega | (simp; done) | (simp; omega)) M4.out K4.out HINS.out | exact inMid_put HS.out (by omega) (by first | omega | (simp; done) | (simp; omega)) M4.out K4.out HINS.out
  case rest =>
  rw [HALL.out] at hcut
  obtain ⟨g3, rfl, rfl, _, h3, gx⟩ := inMid_holds hcut (fun _ _ _ _ h => aw_ins2 h) G.out
  have H3 := Lib.hid h3
  have G := Lib.hid (grown_trans G.out gx)
  clear h3 gx HS HALL TT H1 hcut
  generalize wc = wq at *
  obtain ⟨A, n', c', ns, r, FA, fn, fc, free, hall, ho, ht, hg⟩ := H3.out
  have HALL := Lib.hid hall
  have TT := Lib.hid ht
  have HS : Hid (SB wq wq [(g3, 25, [.slice A n' c', .int .i64 r, .slice FA fn fc])]) := ⟨World.grownBy.refl _ _, (StS.nil wq).cons ho⟩
  have hgt := ho.lt
  clear hall ho ht hg
  obtain ⟨b0, b1, b2⟩ := (HS.out.own (List.mem_cons_self ..)).three
  go_wp2_with fail
  refine (Items_any A n' c' ns r FA fn fc free _ TT.out (Nat.le_refl _)).mono ?_
  rw [HALL.out, show formE (some [((2, 6, 2) : It), (5, 9, 1)]) = 0 from rfl]
  rintro e w5 ⟨v5, rfl, m5, g5⟩
  have M5 : Hid (MineE itemE w5 wq.heap.size v5 2 [(2, 6, 2), (5, 9, 1)]) := m5
  have GN := Lib.hid g5
  have O3 := Lib.hid ((HS.out.own (List.mem_cons_self ..)).kept g5)
  clear m5 g5 b0 b1 b2
  obtain ⟨b0, b1, b2⟩ := O3.out.three
  go_wp2_with fail
  refine (TMeets_any A n' c' ns r FA fn fc free 7 8 _ (TT.out.grown (Nat.le_refl _) GN.out) GN.out.size).mono ?_
  rw [HALL.out, aw_meets.1, aw_meets.2]
  rintro e w6 ⟨v6, rfl, m6, g6⟩
  have M6 : Hid (MineE itemE w6 w5.heap.size v6 1 [(5, 9, 1)]) := m6
  have M5 := Lib.hid (M5.out.kept g6)
  have GN := Lib.hid (grown_trans GN.out g6)
  have O3 := Lib.hid (O3.out.kept g6)
  clear m6 g6 b0 b1 b2
  obtain ⟨b0, b1, b2⟩ := O3.out.three
  go_wp2_with fail
  refine (TPoints_any A n' c' ns r FA fn fc free 0 9 _ (TT.out.grown (Nat.le_refl _) GN.out) GN.out.size).mono ?_
  rw [HALL.out, aw_points.1, aw_points.2]
  rintro e w7 ⟨v7, rfl, m7, g7⟩
  have M7 : Hid (Mine w7 w6.heap.size v7 3 [2, 5, 6]) := m7
  have M5 := Lib.hid (M5.out.kept g7)
  have M6 := Lib.hid (M6.out.kept g7)
  have GN := Lib.hid (grown_trans GN.out g7)
  clear m7 g7 b0 b1 b2 O3
  go_upto_region 6 with fail
  have G := Lib.hid (grown_trans G.out GN.out)
  have H3 := Lib.hid (H3.out.grown GN.out)
  clear HS HALL TT GN
  generalize w7 = wq at *
  obtain ⟨A, n', c', ns, r, FA, fn, fc, free, hall, ho, ht, hg⟩ := H3.out
  have HALL := Lib.hid hall
  have TT := Lib.hid ht
  have HS : Hid (SB wq wq [(g3, 25, [.slice A n' c', .int .i64 r, .slice FA fn fc])]) := ⟨World.grownBy.refl _ _, (StS.nil wq).cons ho⟩
  have hgt := ho.lt
  clear hall ho ht hg
  go_cut [11, 12] from 48 to 53 (fun p z wx => InMid wq (InsIs (allF ns r free) (2, 6, 2)) p z wx)
  case first =>
    go_region_held3 (fun w' : World => w'.cell? ⟨g3, 0, none⟩ = some (.slice A n' c') ∧ w'.cell? ⟨g3, 1, none⟩ = some (.int .i64 r) ∧ w'.cell? ⟨g3, 2, none⟩ = some (.slice FA fn fc)) (first | with_reducible exact HS.out.tree (by simp) | with_reducible exact HS.out.lit.tree (by simp) | with_reducible exact HS.out.drew.tree (by simp) | with_reducible exact HS.out.lit.drew.tree (by simp) | with_reducible exact HS.out.treePut (by simp) (by omega) _ _ _)
      (first
        | (go_at_call 33; refine (Item_any _ _ _ _).mono ?_; rintro e w1 ⟨rfl, k⟩; (first | (with_reducible have HS' := Lib.hid (HS.out.lit.drew.kept k)) | (with_reducible have HS' := Lib.hid (HS.out.drew.lit.kept k)) | (with_reducible have HS' := Lib.hid (HS.out.lit.kept k)) | (with_reducible have HS' := Lib.hid (HS.out.drew.kept k)) | (with_reducible have HS' := Lib.hid (HS.out.kept k))); have HS := HS'; have hsz := HS.out.g.size; have hnl := SB.firstLt HS.out; clear HS' k)
        | (go_at_call 24; (first | with_reducible refine (Insert_any A n' c' ns r FA fn fc free 2 6 2 _ (TT.out.grown (Nat.le_refl _) HS.out.lit.drew.g) HS.out.lit.drew.g.size).mono ?_ | with_reducible refine (Insert_any A n' c' ns r FA fn fc free 2 6 2 _ (TT.out.grown (Nat.le_refl _) HS.out.drew.lit.g) HS.out.drew.lit.g.size).mono ?_ | with_reducible refine (Insert_any A n' c' ns r FA fn fc free 2 6 2 _ (TT.out.grown (Nat.le_refl _) HS.out.lit.g) HS.out.lit.g.size).mono ?_ | with_reducible refine (Insert_any A n' c' ns r FA fn fc free 2 6 2 _ (TT.out.grown (Nat.le_refl _) HS.out.drew.g) HS.out.drew.g.size).mono ?_ | with_reducible refine (Insert_any A n' c' ns r FA fn fc free 2 6 2 _ (TT.out.grown (Nat.le_refl _) HS.out.g) HS.out.g.size).mono ?_); rintro e w2 ⟨ns', r', free', z', v', f', hins, rfl, m4, k4, k⟩; (first | (with_reducible have HS' := Lib.hid (HS.out.lit.drew.kept k)) | (with_reducible have HS' := Lib.hid (HS.out.drew.lit.kept k)) | (with_reducible have HS' := Lib.hid (HS.out.lit.kept k)) | (with_reducible have HS' := Lib.hid (HS.out.drew.kept k)) | (with_reducible have HS' := Lib.hid (HS.out.kept k))); have HS := HS'; have hsz := HS.out.g.size; have hnl := SB.firstLt HS.out; clear HS' k; obtain ⟨Aa, ca, Fa, fa, rfl, rfl, _, _, _⟩ := tre_of m4 k4 (ins_okI hins); have M4 := Lib.hid m4; have K4 := Lib.hid k4; have HINS := Lib.hid hins; clear m4 k4 hins; obtain ⟨n0, n1, n2, f0, f1, f2⟩ := SB.first3 HS.out))
    all_goals go_wp2_with fail
    all_goals go_meet
    all_goals first | exact inMid_new HS.out (by first | omega | (simp; done) | (simp; omega)) M4.out K4.out HINS.out | exact inMid_put HS.out (by omega) (by first | omega | (simp; done) | (simp; omega)) M4.out K4.out HINS.out
  case rest =>
  rw [HALL.out] at hcut
  obtain ⟨⟨g11, rfl⟩, rfl, gx⟩ := inMid_fails hcut (fun _ _ _ _ h => aw_ins3 h)
  have G := Lib.hid (grown_trans G.out gx)
  have H3 := Lib.hid (H3.out.grown gx)
  have M5 := Lib.hid (M5.out.kept gx)
  have M6 := Lib.hid (M6.out.kept gx)
  have M7 := Lib.hid (M7.out.kept gx)
  clear gx HS HALL TT hcut
  generalize wc = wq at *
  obtain ⟨A, n', c', ns, r, FA, fn, fc, free, hall, ho, ht, hg⟩ := H3.out
  have HALL := Lib.hid hall
  have TT := Lib.hid ht
  have HS : Hid (SB wq wq [(g3, 25, [.slice A n' c', .int .i64 r, .slice FA fn fc])]) := ⟨World.grownBy.refl _ _, (StS.nil wq).cons ho⟩
  have hgt := ho.lt
  clear hall ho ht hg
  go_upto_region 7 with fail
  go_cut [13, 14] from 54 to 59 (fun p z wx => InMid wq (DelIs (allF ns r free) (5, 9, 1)) p z wx)
  case first =>
    go_region_held3 (fun w' : World => w'.cell? ⟨g3, 0, none⟩ = some (.slice A n' c') ∧ w'.cell? ⟨g3, 1, none⟩ = some (.int .i64 r) ∧ w'.cell? ⟨g3, 2, none⟩ = some (.slice FA fn fc)) (first | with_reducible exact HS.out.tree (by simp) | with_reducible exact HS.out.lit.tree (by simp) | with_reducible exact HS.out.drew.tree (by simp) | with_reducible exact HS.out.lit.drew.tree (by simp) | with_reducible exact HS.out.treePut (by simp) (by omega) _ _ _)
      (first
        | (go_at_call 33; refine (Item_any _ _ _ _).mono ?_; rintro e w1 ⟨rfl, k⟩; (first | (with_reducible have HS' := Lib.hid (HS.out.lit.drew.kept k)) | (with_reducible have HS' := Lib.hid (HS.out.drew.lit.kept k)) | (with_reducible have HS' := Lib.hid (HS.out.lit.kept k)) | (with_reducible have HS' := Lib.hid (HS.out.drew.kept k)) | (with_reducible have HS' := Lib.hid (HS.out.kept k))); have HS := HS'; have hsz := HS.out.g.size; have hnl := SB.firstLt HS.out; clear HS' k)
        | (go_at_call 28; (first | with_reducible refine (Delete_any A n' c' ns r FA fn fc free 5 9 1 _ (TT.out.grown (Nat.le_refl _) HS.out.lit.drew.g) HS.out.lit.drew.g.size).mono ?_ | with_reducible refine (Delete_any A n' c' ns r FA fn fc free 5 9 1 _ (TT.out.grown (Nat.le_refl _) HS.out.drew.lit.g) HS.out.drew.lit.g.size).mono ?_ | with_reducible refine (Delete_any A n' c' ns r FA fn fc free 5 9 1 _ (TT.out.grown (Nat.le_refl _) HS.out.lit.g) HS.out.lit.g.size).mono ?_ | with_reducible refine (Delete_any A n' c' ns r FA fn fc free 5 9 1 _ (TT.out.grown (Nat.le_refl _) HS.out.drew.g) HS.out.drew.g.size).mono ?_ | with_reducible refine (Delete_any A n' c' ns r FA fn fc free 5 9 1 _ (TT.out.grown (Nat.le_refl _) HS.out.g) HS.out.g.size).mono ?_); rintro e w2 ⟨ns', r', free', z', v', f', hins, rfl, m4, k4, k⟩; (first | (with_reducible have HS' := Lib.hid (HS.out.lit.drew.kept k)) | (with_reducible have HS' := Lib.hid (HS.out.drew.lit.kept k)) | (with_reducible have HS' := Lib.hid (HS.out.lit.kept k)) | (with_reducible have HS' := Lib.hid (HS.out.drew.kept k)) | (with_reducible have HS' := Lib.hid (HS.out.kept k))); have HS := HS'; have hsz := HS.out.g.size; have hnl := SB.firstLt HS.out; clear HS' k; obtain ⟨Aa, ca, Fa, fa, rfl, rfl, _, _, _⟩ := tre_of m4 k4 (del_okI hins); have M4 := Lib.hid m4; have K4 := Lib.hid k4; have HINS := Lib.hid hins; clear m4 k4 hins; obtain ⟨n0, n1, n2, f0, f1, f2⟩ := SB.first3 HS.out))
    all_goals go_wp2_with fail
    all_goals go_meet
    all_goals first | exact inMid_new HS.out (by first | omega | (simp; done) | (simp; omega)) M4.out K4.out HINS.out | exact inMid_put HS.out (by omega) (by first | omega | (simp; done) | (simp; omega)) M4.out K4.out HINS.out
  case rest =>
  rw [HALL.out] at hcut
  obtain ⟨g13, rfl, rfl, hg13, h13, gx⟩ := inMid_holds hcut (fun _ _ _ _ h => aw_del1 h) G.out
  have hne : ¬ g13 = g3 := by omega
  have H13 := Lib.hid h13
  have G := Lib.hid (grown_trans G.out gx)
  have H3 := Lib.hid (H3.out.grown gx)
  have M5 := Lib.hid (M5.out.kept gx)
  have M6 := Lib.hid (M6.out.kept gx)
  have M7 := Lib.hid (M7.out.kept gx)
  clear gx HS HALL TT hcut h13
  generalize wc = wq at *
  obtain ⟨A, n', c', ns, r, FA, fn, fc, free, hall, ho, ht, hg⟩ := H13.out
  have HALL := Lib.hid hall
  have TT := Lib.hid ht
  have HS : Hid (SB wq wq [(g13, 25, [.slice A n' c', .int .i64 r, .slice FA fn fc])]) := ⟨World.grownBy.refl _ _, (StS.nil wq).cons ho⟩
  have hgt := ho.lt
  clear hall ho ht hg
  obtain ⟨b0, b1, b2⟩ := (HS.out.own (List.mem_cons_self ..)).three
  go_wp2_with fail
  refine (Items_any A n' c' ns r FA fn fc free _ TT.out (Nat.le_refl _)).mono ?_
  rw [HALL.out, show formE (some [((2, 6, 2) : It)]) = 0 from rfl]
  rintro e w5 ⟨v15, rfl, m5, g5⟩
  have M15 : Hid (MineE itemE w5 wq.heap.size v15 1 [(2, 6, 2)]) := m5
  have G := Lib.hid (grown_trans G.out g5)
  have H3 := Lib.hid (H3.out.grown g5)
  have H13 := Lib.hid (H13.out.grown g5)
  have M5 := Lib.hid (M5.out.kept g5)
  have M6 := Lib.hid (M6.out.kept g5)
  have M7 := Lib.hid (M7.out.kept g5)
  clear m5 g5 b0 b1 b2 HS HALL TT
  generalize w5 = wq at *
  obtain ⟨A, n', c', ns, r, FA, fn, fc, free, hall, ho, ht, hg⟩ := H13.out
  have HALL := Lib.hid hall
  have TT := Lib.hid ht
  have HS : Hid (SB wq wq [(g13, 25, [.slice A n' c', .int .i64 r, .slice FA fn fc])]) := ⟨World.grownBy.refl _ _, (StS.nil wq).cons ho⟩
  have hgt := ho.lt
  clear hall ho ht hg
  go_upto_region 9 with fail
  go_cut [17, 18] from 65 to 70 (fun p z wx => InMid wq (DelIs (allF ns r free) (5, 9, 1)) p z wx)
  case first =>
    go_region_held3 (fun w' : World => w'.cell? ⟨g13, 0, none⟩ = some (.slice A n' c') ∧ w'.cell? ⟨g13, 1, none⟩ = some (.int .i64 r) ∧ w'.cell? ⟨g13, 2, none⟩ = some (.slice FA fn fc)) (first | with_reducible exact HS.out.tree (by simp) | with_reducible exact HS.out.lit.tree (by simp) | with_reducible exact HS.out.drew.tree (by simp) | with_reducible exact HS.out.lit.drew.tree (by simp) | with_reducible exact HS.out.treePut (by simp) (by omega) _ _ _)
      (first
        | (go_at_call 33; refine (Item_any _ _ _ _).mono ?_; rintro e w1 ⟨rfl, k⟩; (first | (with_reducible have HS' := Lib.hid (HS.out.lit.drew.kept k)) | (with_reducible have HS' := Lib.hid (HS.out.drew.lit.kept k)) | (with_reducible have HS' := Lib.hid (HS.out.lit.kept k)) | (with_reducible have HS' := Lib.hid (HS.out.drew.kept k)) | (with_reducible have HS' := Lib.hid (HS.out.kept k))); have HS := HS'; have hsz := HS.out.g.size; have hnl := SB.firstLt HS.out; clear HS' k)
        | (go_at_call 28; (first | with_reducible refine (Delete_any A n' c' ns r FA fn fc free 5 9 1 _ (TT.out.grown (Nat.le_refl _) HS.out.lit.drew.g) HS.out.lit.drew.g.size).mono ?_ | with_reducible refine (Delete_any A n' c' ns r FA fn fc free 5 9 1 _ (TT.out.grown (Nat.le_refl _) HS.out.drew.lit.g) HS.out.drew.lit.g.size).mono ?_ | with_reducible refine (Delete_any A n' c' ns r FA fn fc free 5 9 1 _ (TT.out.grown (Nat.le_refl _) HS.out.lit.g) HS.out.lit.g.size).mono ?_ | with_reducible refine (Delete_any A n' c' ns r FA fn fc free 5 9 1 _ (TT.out.grown (Nat.le_refl _) HS.out.drew.g) HS.out.drew.g.size).mono ?_ | with_reducible refine (Delete_any A n' c' ns r FA fn fc free 5 9 1 _ (TT.out.grown (Nat.le_refl _) HS.out.g) HS.out.g.size).mono ?_); rintro e w2 ⟨ns', r', free', z', v', f', hins, rfl, m4, k4, k⟩; (first | (with_reducible have HS' := Lib.hid (HS.out.lit.drew.kept k)) | (with_reducible have HS' := Lib.hid (HS.out.drew.lit.kept k)) | (with_reducible have HS' := Lib.hid (HS.out.lit.kept k)) | (with_reducible have HS' := Lib.hid (HS.out.drew.kept k)) | (with_reducible have HS' := Lib.hid (HS.out.kept k))); have HS := HS'; have hsz := HS.out.g.size; have hnl := SB.firstLt HS.out; clear HS' k; obtain ⟨Aa, ca, Fa, fa, rfl, rfl, _, _, _⟩ := tre_of m4 k4 (del_okI hins); have M4 := Lib.hid m4; have K4 := Lib.hid k4; have HINS := Lib.hid hins; clear m4 k4 hins; obtain ⟨n0, n1, n2, f0, f1, f2⟩ := SB.first3 HS.out))
    all_goals go_wp2_with fail
    all_goals go_meet
    all_goals first | exact inMid_new HS.out (by first | omega | (simp; done) | (simp; omega)) M4.out K4.out HINS.out | exact inMid_put HS.out (by omega) (by first | omega | (simp; done) | (simp; omega)) M4.out K4.out HINS.out
  case rest =>
  rw [HALL.out] at hcut
  obtain ⟨⟨g17, rfl⟩, rfl, gx⟩ := inMid_fails hcut (fun _ _ _ _ h => aw_del2 h)
  have G := Lib.hid (grown_trans G.out gx)
  have H3 := Lib.hid (H3.out.grown gx)
  have M5 := Lib.hid (M5.out.kept gx)
  have M6 := Lib.hid (M6.out.kept gx)
  have M7 := Lib.hid (M7.out.kept gx)
  have M15 := Lib.hid (M15.out.kept gx)
  clear gx HS HALL TT hcut H13
  generalize wc = wq at *
  obtain ⟨A5, k5, rfl, _, _, r5⟩ := M5.out.row
  obtain ⟨A6, k6, rfl, _, _, r6⟩ := M6.out.row
  obtain ⟨A7, k7, rfl, _, _, r7⟩ := M7.out.rowN (okI_of (by decide))
  obtain ⟨A15, k15, rfl, _, _, r15⟩ := M15.out.row
  have R5 := Lib.hid r5
  have R6 := Lib.hid r6
  have R7 := Lib.hid r7
  have R15 := Lib.hid r15
  clear r5 r6 r7 r15 M5 M6 M7 M15
  obtain ⟨A, n', c', ns, r, FA, fn, fc, free, hall, ho, ht, hg⟩ := H3.out
  have HALL := Lib.hid hall
  have TT := Lib.hid ht
  have HS : Hid (SB wq wq [(g3, 25, [.slice A n' c', .int .i64 r, .slice FA fn fc])]) := ⟨World.grownBy.refl _ _, (StS.nil wq).cons ho⟩
  have hgt := ho.lt
  clear hall ho ht hg
  have O3 := Lib.hid (HS.out.own (List.mem_cons_self ..))
  have HS : Hid (SB wq wq []) := HS.out.less
  clear hgt H3
  go_wp2_with fail
  refine (num_says _ _).mono ?_
  rintro e y4 ⟨rfl, k⟩
  have HS := Lib.hid (HS.out.kept k)
  clear k
  go_wp2_with fail
  refine (num_says _ _).mono ?_
  rintro e y5 ⟨rfl, k⟩
  have HS := Lib.hid (HS.out.kept k)
  clear k
  obtain ⟨b0, b1, b2⟩ := (O3.out.kept HS.out.g).three
  go_wp2_with fail
  refine (TMay_any A n' c' ns r FA fn fc free _ (TT.out.grown (Nat.le_refl _) HS.out.g) HS.out.g.size).mono ?_
  rw [HALL.out]
  rintro e y1 ⟨rfl, k⟩
  have HS := Lib.hid (HS.out.kept k)
  clear k b0 b1 b2 HALL TT O3
  go_wp2_with fail
  refine (Item_any _ _ _ _).mono ?_
  rintro e y6 ⟨rfl, k⟩
  have HS := Lib.hid (HS.out.kept k)
  clear k
  go_wp2_with fail
  refine (Item_any _ _ _ _).mono ?_
  rintro e y7 ⟨rfl, k⟩
  have HS := Lib.hid (HS.out.kept k)
  clear k
  go_wp2_with fail
  refine (SameL R5.out HS.out.lit (Nat.le_refl _) HS.out.lit.g (by simp [Elt.flat, itemE]) rfl (by decide)).mono ?_
  rintro e y8 ⟨rfl, k⟩
  have HS := Lib.hid (HS.out.lit.kept k).less
  clear k
  go_wp2_with fail
  refine (num_says _ _).mono ?_
  rintro e y9 ⟨rfl, k⟩
  have HS := Lib.hid (HS.out.kept k)
  clear k
  go_wp2_with fail
  refine (Item_any _ _ _ _).mono ?_
  rintro e y10 ⟨rfl, k⟩
  have HS := Lib.hid (HS.out.kept k)
  clear k
  go_wp2_with fail
  refine (SameL R6.out HS.out.lit (Nat.le_refl _) HS.out.lit.g (by simp [Elt.flat, itemE]) rfl (by decide)).mono ?_
  rintro e y11 ⟨rfl, k⟩
  have HS := Lib.hid (HS.out.lit.kept k).less
  clear k
  go_wp2_with fail
  refine (num_says _ _).mono ?_
  rintro e y12 ⟨rfl, k⟩
  have HS := Lib.hid (HS.out.kept k)
  clear k
  go_wp2_with fail
  refine (SameS R7.out HS.out.lit (Nat.le_refl _) HS.out.lit.g (by simp [ints]) rfl (by decide) (by decide)).mono ?_
  rintro e y2 ⟨rfl, k⟩
  have HS := Lib.hid (HS.out.lit.kept k).less
  clear k
  go_wp2_with fail
  refine (num_says _ _).mono ?_
  rintro e y13 ⟨rfl, k⟩
  have HS := Lib.hid (HS.out.kept k)
  clear k
  go_wp2_with fail
  refine (num_says _ _).mono ?_
  rintro e y14 ⟨rfl, k⟩
  have HS := Lib.hid (HS.out.kept k)
  clear k
  go_wp2_with fail
  refine (num_says _ _).mono ?_
  rintro e y15 ⟨rfl, k⟩
  have HS := Lib.hid (HS.out.kept k)
  clear k
  go_wp2_with fail
  refine (Item_any _ _ _ _).mono ?_
  rintro e y16 ⟨rfl, k⟩
  have HS := Lib.hid (HS.out.kept k)
  clear k
  go_wp2_with fail
  refine (SameL R15.out HS.out.lit (Nat.le_refl _) HS.out.lit.g (by simp [Elt.flat, itemE]) rfl (by decide)).mono ?_
  rintro e y17 ⟨rfl, k⟩
  have HS := Lib.hid (HS.out.lit.kept k).less
  clear k
  go_wp2_with fail
  refine (num_says _ _).mono ?_
  rintro e y18 ⟨rfl, k⟩
  have HS := Lib.hid (HS.out.kept k)
  clear k
  go_wp2_with fail
  refine (num_says _ _).mono ?_
  rintro e y19 ⟨rfl, k⟩
  have HS := Lib.hid (HS.out.kept k)
  clear k
  go_wp2_with fail
  refine (MayNil _).mono ?_
  rintro e y3 ⟨rfl, k⟩
  have HS := Lib.hid (HS.out.kept k)
  clear k
  go_wp2
  go_ret
  exact ⟨rfl, grown_trans G.out HS.out.g⟩

end Go.Proofs.Ytgfehlmiejnonaa
