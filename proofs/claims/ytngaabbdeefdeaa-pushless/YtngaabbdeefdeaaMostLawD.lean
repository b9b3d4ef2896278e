/-
  The laws PushLess and PushAll, walked: on one link less of it; no set is worth less than what goes.
-/
import Derived.Test.YtngaabbdeefdeaaJB
import Derived.Test.YtngaabbdeefdeaaBlkB
namespace Go.Proofs.Ytngaabbdeefdeaa
open Go.RowKit

set_option maxRecDepth 20000 in
set_option maxHeartbeats 4000000 in
theorem PushLess_walk (V : Int) (A : Option Addr) (n c : Nat) (ls : List Lk) (X : Option Addr) (m d : Nat) (caps : List Int) (s t want at' by' : Int) (w : World) (h : InG w A n c ls) (hX : In w X m d caps) :
    Calls Try.prog 7 #[.agg #[.int .i64 V, .slice A n c], .slice X m d, .int .i64 s, .int .i64 t, .int .i64 want, .int .i64 at', .int .i64 by'] w (LawPost w) := by
  obtain ⟨hs, hnc, hc, hnil⟩ := h
  obtain ⟨hx, hpd, hd, hnilx⟩ := hX
  have HR := Lib.hid hs
  have HL := Lib.hid hs.len
  have HX := Lib.hid hx
  have HLX := Lib.hid hx.len
  have HNIX := Lib.hid hnilx
  have HG0 := Lib.hid (grow0 w (.cells #[.int .i64 V, .slice A n c] 24))
  clear hs hnil hx hnilx
  go_enter Try.func7, Try.ntmps7
  go_wp2_with fail
  refine (Push_any V s t want A n c ls X m d caps _ (HR.out.grown (Nat.le_refl _) HG0.out) (by simp) (HX.out.grown (Nat.le_refl _) HG0.out) (by simp)).mono ?_
  rintro e w1 ⟨b, kk, z, hb, v1, rfl, _, k⟩
  obtain ⟨g1, ob⟩ := box1 [.int .i64 V, .slice A n c] k
  have G := Lib.hid g1
  have OB := Lib.hid ob
  have HB := Lib.hid hb
  clear k ob g1 HG0 hb
  obtain ⟨p0, p1⟩ := OB.out.two
  unfold blkV
  go_wp2_with fail
  refine (num_says _ _).mono ?_
  rintro e w2 ⟨rfl, k⟩
  have G := Lib.hid (grown_trans G.out k)
  have OB := Lib.hid (OB.out.kept k)
  clear k p0 p1
  obtain ⟨p0, p1⟩ := OB.out.two
  rcases HB.out with ⟨hp, rfl, hk⟩ | ⟨_, rfl, rfl, rfl⟩
  case inr =>
    go_wp2
    go_ret
    exact ⟨rfl, below_of G.out⟩
  obtain ⟨hm, hcb, hs1, ht1, hne, m0, m1⟩ := pshB_parts hp
  have h16 := may_small hm
  rw [HL.out] at h16
  obtain ⟨vn, rfl⟩ : ∃ vn : Nat, V = (vn : Nat) := ⟨V.toNat, by omega⟩
  rw [Int.toNat_natCast] at hk
  have hmn : m = n := by have := (capsB_parts hcb).1; have := HL.out; have := HLX.out; omega
  subst hmn
  have HK := Lib.hid hk
  have HP := Lib.hid (⟨hm, hcb, hs1, ht1, hne, m0, m1⟩ : mayG (vn : Nat) ls = true ∧ capsB ls caps = true ∧ (0 ≤ s ∧ s < (vn : Nat)) ∧ (0 ≤ t ∧ t < (vn : Nat)) ∧ s ≠ t ∧ 0 ≤ want ∧ want ≤ 4611686018427387904)
  have hk01 := psh_low hk
  clear hp hk hm hcb hs1 ht1 hne m0 m1 HB
  by_cases a0 : at' < 0
  · go_wp2
    go_ret
    exact ⟨rfl, below_of G.out⟩
  by_cases a1 : (m : Int) ≤ at'
  · go_wp2
    go_ret
    exact ⟨rfl, below_of G.out⟩
  by_cases b0 : by' < 0
  · go_wp2
    go_ret
    exact ⟨rfl, below_of G.out⟩
  obtain ⟨i, rfl⟩ : ∃ i : Nat, at' = (i : Nat) := ⟨at'.toNat, by omega⟩
  have him : i < m := by omega
  obtain ⟨bx, ox, hA, hbx, hcx⟩ := HX.out.at_ (by omega)
  subst hA
  have d0 := kept G.out (hcx i him)
  have hcx0 := hcx i him
  have hx0 : 0 ≤ caps[i]?.getD 0 ∧ caps[i]?.getD 0 ≤ 4611686018427387904 := by
    obtain ⟨hm, hcb, _⟩ := HP.out
    have hb := f_bd hcb (k := i) (by rw [HL.out]; exact him)
    have h5 := may_sum hm (i + 1) (by rw [HL.out]; omega)
    have h6 := (gk_bd (f := caps) 0 hcb i (by rw [HL.out]; omega)).1
    rw [capSum] at h5
    omega
  clear hcx
  have HSET : Hid (∀ y : Int, 0 ≤ y → y ≤ caps[i]?.getD 0 → capsB ls (caps.set i (caps[i]?.getD 0 - y)) = true) := fun y y0 y1 => caps_less HP.out.2.1 (by rw [HLX.out]; exact him) y0 y1
  have HLESS : Hid (∀ (g : List Int) (j : Int), PshIs vn ls (caps.set i (caps[i]?.getD 0 - by')) s t want g j → j ≤ kk ∧ kk - j ≤ by') := fun g j hj => psh_less HK.out hj (by rw [HLX.out]; exact him) (by omega)
  obtain ⟨xi, hxi⟩ : ∃ xi, caps[i]?.getD 0 = xi := ⟨_, rfl⟩
  have HXI := Lib.hid hxi
  rw [hxi] at d0 hcx0 hx0 HSET HLESS
  clear hxi
  by_cases b1 : xi < by'
  · go_wp2
    go_ret
    exact ⟨rfl, below_of G.out⟩
  go_wp2_with fail
  refine (CopyInts_any (some ⟨bx, ox, none⟩) m d caps _ (HX.out.grown (Nat.le_refl _) G.out) G.out.size HNIX.out (by omega)).mono ?_
  rintro e w3 ⟨v3, rfl, m3, bel⟩
  have k := grown_of_below bel
  have l1 := OB.out.lt
  have s3 := k.size
  obtain ⟨g3, c3, rfl, _, _, r3⟩ := m3.shape (by omega) HX.out.ok
  have hg3 := m3.own_ge g3 rfl
  obtain ⟨bb, oo, hA, _, hcell⟩ := r3.at_ (by omega)
  injection hA with hA
  injection hA with e1 e2
  subst e1 e2
  have x0 := hcell i him
  rw [HXI.out, Nat.zero_add] at x0
  have f0 := m3.frozen i
  have G3 := grown_trans G.out k
  have k4 : w3.grownBy (w3.setCell ⟨g3, i, none⟩ (.int .i64 (xi - by'))) (some g3) := grown_set (World.grownBy.refl w3 _) _
  have M4 := Lib.hid (m3.set i (xi - by') him)
  have OKC := Lib.hid (caps_okI HP.out.1 (HSET.out by' (by omega) (by omega)))
  have R4 := Lib.hid (M4.out.rowAt OKC.out)
  have G4 := Lib.hid (grown_none G3 k4 (fun g hg => by injection hg with hg; have := G.out.size; omega))
  have O4 := Lib.hid ((OB.out.kept k).kept' k4 (fun e => by injection e with e; omega))
  have hw : IntKind.i64.wrap (xi - by') = xi - by' := IntWalk.i64_in _ (by omega)
  have HPN : Hid (pshB (vn : Nat) ls (caps.set i (xi - by')) s t want = true) := by
    obtain ⟨q1, _, q3, q4, q5, q6, q7⟩ := HP.out
    exact pshB_mk q1 (HSET.out by' (by omega) (by omega)) q3 q4 q5 q6 q7
  clear k4 M4 OKC G3 m3 r3 hcell bel k HK HP HSET
  go_upto_region 6 with fail
  generalize w3.setCell ⟨g3, i, none⟩ (.int .i64 (xi - by')) = w4 at *
  clear x0 f0 p0 p1 d0 hcx0 OB G
  obtain ⟨p0, p1⟩ := O4.out.two
  generalize hcs : caps.set i (xi - by') = cs at *
  go_wp2_with fail
  refine (Push_any (vn : Nat) s t want A m c ls (some ⟨g3, 0, none⟩) m c3 cs _ (HR.out.grown (Nat.le_refl _) G4.out) G4.out.size R4.out (Nat.le_refl _)).mono ?_
  rintro e w5 ⟨b5, j, z5, hb5, v5, rfl, _, k5⟩
  have G := Lib.hid (grown_trans G4.out k5)
  obtain ⟨rfl, hj⟩ := push_yes hb5 HPN.out
  obtain ⟨j1, j2⟩ := HLESS.out _ _ hj
  have jlo := psh_low hj
  clear k5 hb5 hj p0 p1 O4 R4 HPN HLESS
  have hw2 : IntKind.i64.wrap (kk - j) = kk - j := IntWalk.i64_in _ (by omega)
  unfold blkV
  go_wp2_with fail
  refine (awake12_any _).mono ?_
  rintro e w6 ⟨rfl, k6⟩
  have G := Lib.hid (grown_trans G.out k6)
  clear k6
  go_wp2_with fail
  refine (num_says _ _).mono ?_
  rintro e w7 ⟨rfl, k7⟩
  have G := Lib.hid (grown_trans G.out k7)
  clear k7
  go_wp2
  go_ret
  exact ⟨rfl, below_of G.out⟩

theorem cut_parts {V : Int} {ls : List Lk} {s t : Int} {vs : List Int} (h : cutB V ls s t vs = true) : leavB V ls vs = true ∧ s ∈ vs ∧ t ∉ vs := by
  simp only [cutB, Bool.and_eq_true, decide_eq_true_eq, Bool.not_eq_true', decide_eq_false_iff_not] at h
  exact ⟨h.1.1.1, h.1.1.2, h.2⟩

set_option maxRecDepth 20000 in
set_option maxHeartbeats 4000000 in
theorem PushAll_walk (V : Int) (A : Option Addr) (n c : Nat) (ls : List Lk) (X : Option Addr) (m d : Nat) (caps : List Int) (s t : Int) (Y : Option Addr) (r e0 : Nat) (vs : List Int) (w : World) (h : InG w A n c ls) (hX : In w X m d caps) (hY : In w Y r e0 vs) :
    Calls Try.prog 8 #[.agg #[.int .i64 V, .slice A n c], .slice X m d, .int .i64 s, .int .i64 t, .slice Y r e0] w (LawPost w) := by
  obtain ⟨hs, hnc, hc, hnil⟩ := h
  obtain ⟨hx, hpd, hd, hnilx⟩ := hX
  obtain ⟨hy, hqf, hf, hnily⟩ := hY
  have HR := Lib.hid hs
  have HL := Lib.hid hs.len
  have HX := Lib.hid hx
  have HY := Lib.hid hy
  have HG0 := Lib.hid (grow0 w (.cells #[.int .i64 V, .slice A n c] 24))
  clear hs hnil hx hnilx hy hnily
  go_enter Try.func8, Try.ntmps8
  go_wp2_with fail
  refine (Push_any V s t 4611686018427387904 A n c ls X m d caps _ (HR.out.grown (Nat.le_refl _) HG0.out) (by simp) (HX.out.grown (Nat.le_refl _) HG0.out) (by simp)).mono ?_
  rintro e w1 ⟨b, kk, z, hb, v1, rfl, _, k⟩
  obtain ⟨g1, ob⟩ := box1 [.int .i64 V, .slice A n c] k
  have G := Lib.hid g1
  have OB := Lib.hid ob
  have HB := Lib.hid hb
  clear k ob g1 HG0 hb
  obtain ⟨p0, p1⟩ := OB.out.two
  unfold blkV
  go_wp2_with fail
  refine (num_says _ _).mono ?_
  rintro e w2 ⟨rfl, k⟩
  have G := Lib.hid (grown_trans G.out k)
  have OB := Lib.hid (OB.out.kept k)
  clear k p0 p1
  obtain ⟨p0, p1⟩ := OB.out.two
  rcases HB.out with ⟨hp, rfl, hk⟩ | ⟨_, rfl, rfl, rfl⟩
  case inr =>
    go_wp2
    go_ret
    exact ⟨rfl, below_of G.out⟩
  obtain ⟨hm, hcb, hs1, ht1, hne, m0, m1⟩ := pshB_parts hp
  have h16 := may_small hm
  obtain ⟨vn, rfl⟩ : ∃ vn : Nat, V = (vn : Nat) := ⟨V.toNat, by omega⟩
  obtain ⟨sn, rfl⟩ : ∃ sn : Nat, s = (sn : Nat) := ⟨s.toNat, by omega⟩
  obtain ⟨tn, rfl⟩ : ∃ tn : Nat, t = (tn : Nat) := ⟨t.toNat, by omega⟩
  rw [Int.toNat_natCast] at hk
  have hsn : sn < vn := by omega
  have htn : tn < vn := by omega
  have HMAY := Lib.hid hm
  have HCAP := Lib.hid hcb
  have HK := Lib.hid hk
  have hk01 := psh_low hk
  have HLE : Hid (kk = leastN (okC sn tn) (wtC ls caps) (2 ^ vn)) := by
    have e := psh_least hk
    have l := least_most (ok := okC sn tn) (w := wtC ls caps) (2 ^ vn)
    have e2 : leastC vn ls caps sn tn = leastN (okC sn tn) (wtC ls caps) (2 ^ vn) := rfl
    rw [e2] at e
    rw [if_neg (by omega)] at e
    exact e
  clear hm hcb hs1 ht1 hne hk m0 m1 hp HB h16
  go_wp2_with fail
  refine (RCutMay_any (vn : Nat) (sn : Nat) (tn : Nat) A n c ls Y r e0 vs _ (HR.out.grown (Nat.le_refl _) G.out) G.out.size (HY.out.grown (Nat.le_refl _) G.out) G.out.size).mono ?_
  rintro e w3 ⟨rfl, k⟩
  have G := Lib.hid (grown_trans G.out k)
  have OB := Lib.hid (OB.out.kept k)
  clear k p0 p1
  obtain ⟨p0, p1⟩ := OB.out.two
  cases hcut : cutB (vn : Nat) ls (sn : Nat) (tn : Nat) vs
  · clear hcut
    go_wp2_with fail
    refine (awake12_any _).mono ?_
    rintro e w4 ⟨rfl, k⟩
    have G := Lib.hid (grown_trans G.out k)
    have OB := Lib.hid (OB.out.kept k)
    clear k p0 p1
    obtain ⟨p0, p1⟩ := OB.out.two
    go_wp2_with fail
    refine (RLeast_any vn sn tn A n c ls X m d caps _ (HR.out.grown (Nat.le_refl _) G.out) G.out.size (HX.out.grown (Nat.le_refl _) G.out) G.out.size HMAY.out HCAP.out hsn htn).mono ?_
    rintro e w5 ⟨he, k⟩
    rw [← HLE.out] at he
    subst he
    have G := Lib.hid (grown_trans G.out k)
    have q : (kk == kk) = true := by simp
    clear k p0 p1 OB
    go_wp2
    go_ret
    exact ⟨rfl, below_of G.out⟩
  obtain ⟨c1, c2, c3⟩ := cut_parts hcut
  have HW : Hid (wthV (vn : Nat) ls caps vs = .tuple #[.int .i64 (cutW (fun v => decide ((v : Int) ∈ vs)) ls caps ls.length), .int .i64 0]) := by
    have hbb : worthB (vn : Nat) ls caps vs = true := by rw [worthB, c1, HCAP.out]; rfl
    rw [Hid, wthV, worthX, worthE, if_pos hbb, if_pos hbb, wk_mem ls caps vs HMAY.out _ (Nat.le_refl _)]
  have hle : kk ≤ cutW (fun v => decide ((v : Int) ∈ vs)) ls caps ls.length := psh_under HK.out (p := fun v => decide ((v : Int) ∈ vs)) (by simp [c2]) (by simp [c3])
  clear c1 c2 c3 hcut
  go_wp2_with fail
  refine (RWorth_any (vn : Nat) A n c ls X m d caps Y r e0 vs _ (HR.out.grown (Nat.le_refl _) G.out) G.out.size (HX.out.grown (Nat.le_refl _) G.out) G.out.size (HY.out.grown (Nat.le_refl _) G.out) G.out.size).mono ?_
  rintro e w4 ⟨he, k⟩
  rw [HW.out] at he
  subst he
  have G := Lib.hid (grown_trans G.out k)
  clear k p0 p1 OB
  generalize cutW (fun v => decide ((v : Int) ∈ vs)) ls caps ls.length = wx at *
  go_wp2_with fail
  refine (awake12_any _).mono ?_
  rintro e w5 ⟨rfl, k⟩
  have G := Lib.hid (grown_trans G.out k)
  clear k
  go_wp2
  go_ret
  exact ⟨rfl, below_of G.out⟩

end Go.Proofs.Ytngaabbdeefdeaa
