/-
  The laws ReachCuts and ReachEmpty, walked: what can be reached is a cut that proves it; caps that are all 0.
-/
import Derived.Test.YtppcncblmakekaaJB
import Derived.Test.YtppcncblmakekaaJA
set_option maxRecDepth 20000
namespace Go.Proofs.Ytppcncblmakekaa
open Go.RowKit

theorem flow_lvB {vn : Nat} {ls : List Lk} {caps f : List Int} {s t : Int} (h : flowB (vn : Nat) ls caps f s t = true) : lvB (vn : Nat) ls caps f s = true := by
  obtain ⟨h1, h2, _⟩ := flow_parts h
  rw [lvB, h1, Bool.true_and]
  exact isV_yes h2.1 h2.2

/-- What can be reached is a cut that is worth what goes. -/
theorem reach_cut {vn : Nat} {ls : List Lk} {caps b M : List Int} {s t want k : Int} (hc : capsB ls caps = true) (h : PshIs vn ls caps s t want b k) (hM : IsLv vn (Leads ls caps b (2 * ls.length)) s M) (hk : k < want) :
    cutB (vn : Nat) ls s t (reachL M) = true ∧ wthV (vn : Nat) ls caps (reachL M) = .tuple #[.int .i64 k, .int .i64 0] ∧ prvV (vn : Nat) ls caps s t want (reachL M) = .tuple #[.bool true, .int .i64 0] := by
  obtain ⟨h1, h2, h3, _⟩ := flow_parts h.flow
  have hm := (fits_parts h1).1
  have hlt : lvAt M t < 0 := by
    rcases h.shut with e | e
    · omega
    · exact e M hM
  have hl := hM.len
  have ms : s ∈ reachL M := (reach_mem h2.1 (by rw [hl]; exact h2.2)).2 (by rw [hM.src]; decide)
  have mt : t ∉ reachL M := fun hx => by have := (reach_mem h3.1 (by rw [hl]; exact h3.2)).1 hx; omega
  have hv : vertsB (vn : Nat) (reachL M) = true := by rw [reachL, hl]; exact verts_pick _ _
  have hlv : leavB (vn : Nat) ls (reachL M) = true := by rw [leavB, hm, hv]; rfl
  have hcut : cutB (vn : Nat) ls s t (reachL M) = true := by
    have e1 : decide (s ∈ reachL M) = true := decide_eq_true ms
    have e2 : decide (t ∈ reachL M) = false := decide_eq_false mt
    rw [cutB, hlv, e1, e2, isV_yes h3.1 h3.2]; rfl
  have hwb : worthB (vn : Nat) ls caps (reachL M) = true := by rw [worthB, hlv, hc]; rfl
  have hw : wk ls caps (reachL M) ls.length = k := by
    rw [wk_mem ls caps _ hm _ (Nat.le_refl _), ← h.val, flow_reach h.flow hM hlt]
    refine cutW_congr hm fun v hv => ?_
    have := reach_mem (M := M) (x := (v : Int)) (by omega) (by rw [hl]; omega)
    exact decide_eq_decide.2 this
  have hx : worthX (vn : Nat) ls caps (reachL M) = k := by rw [worthX, if_pos hwb, hw]
  refine ⟨hcut, ?_, ?_⟩
  · rw [wthV, hx, worthE, if_pos hwb]
  · have e : decide (k < want) = true := decide_eq_true hk
    rw [prvV, provB, provE, hm, hc, hcut, hx, e]
    rfl

set_option maxHeartbeats 4000000 in
theorem ReachCuts_walk (V : Int) (A : Option Addr) (n c : Nat) (ls : List Lk) (X : Option Addr) (m d : Nat) (caps : List Int) (s t want : Int) (w : World) (h : InG w A n c ls) (hX : In w X m d caps) :
    Calls Try.prog 4 #[.agg #[.int .i64 V, .slice A n c], .slice X m d, .int .i64 s, .int .i64 t, .int .i64 want] w (LawPost w) := by
  obtain ⟨hs, hnc, hc, hnil⟩ := h
  obtain ⟨hx, hpd, hd, hnilx⟩ := hX
  have HR := Lib.hid hs
  have HL := Lib.hid hs.len
  have HX := Lib.hid hx
  have HG0 := Lib.hid (grow0 w (.cells #[.int .i64 V, .slice A n c] 24))
  clear hs hnil hx hnilx
  go_enter Try.func4, Try.ntmps4
  go_wp2_with fail
  refine (Push_any V s t want A n c ls X m d caps _ (HR.out.grown (Nat.le_refl _) HG0.out) (by simp) (HX.out.grown (Nat.le_refl _) HG0.out) (by simp)).mono ?_
  rintro e w1 ⟨b, kk, z, hb, v1, rfl, h1, k⟩
  obtain ⟨g1, ob⟩ := box1 [.int .i64 V, .slice A n c] k
  have G := Lib.hid g1
  have OB := Lib.hid ob
  have HB := Lib.hid hb
  have M1 := Lib.hid h1
  clear k ob g1 HG0 hb h1
  obtain ⟨p0, p1⟩ := OB.out.two
  unfold blkV
  go_wp2_with fail
  refine (num_says _ _).mono ?_
  rintro e w2 ⟨rfl, k⟩
  have G := Lib.hid (grown_trans G.out k)
  have OB := Lib.hid (OB.out.kept k)
  have M1 := Lib.hid (M1.out.kept k)
  clear k p0 p1
  obtain ⟨p0, p1⟩ := OB.out.two
  rcases HB.out with ⟨hp, rfl, hk⟩ | ⟨hp, rfl, rfl, rfl⟩
  case inr =>
    clear hp
    go_wp2
    go_ret
    exact ⟨rfl, below_of G.out⟩
  by_cases hkw : kk = want
  · have q : (kk == want) = true := by simp [hkw]
    clear hkw
    go_wp2
    go_ret
    exact ⟨rfl, below_of G.out⟩
  have q : (kk == want) = false := by simp [hkw]
  obtain ⟨hm, hcb, hs1, ht1, hne, m0, m1⟩ := pshB_parts hp
  have h8 := may_small hm
  obtain ⟨vn, rfl⟩ : ∃ vn : Nat, V = (vn : Nat) := ⟨V.toNat, by omega⟩
  rw [Int.toNat_natCast] at hk
  obtain ⟨M, hM⟩ := lev_there (caps := caps) (f := b) hm rfl (flow_parts hk.flow).2.1
  have HLV : Hid (LvIs (vn : Nat) ls caps b s M 0) := lev_yes (flow_lvB hk.flow) rfl hM
  have hkh : kk < want := by have := hk.high; omega
  obtain ⟨c1, c2, c3⟩ := reach_cut hcb hk hM hkh
  have C1 := Lib.hid c1
  have C2 := Lib.hid c2
  have C3 := Lib.hid c3
  have OKR := Lib.hid (reach_ok (lvIs_okI HLV.out).2).1
  have OKB := Lib.hid (flow_okI hk.flow)
  obtain ⟨Ab, cb, rfl, _, _, rB⟩ := M1.out.rowN OKB.out
  have RB := Lib.hid rB
  clear hm hcb hs1 ht1 hne m0 m1 hk hM hp HB M1 rB hkw c1 c2 c3 hkh
  generalize b.length = bl at *
  go_wp2_with fail
  refine (Reach_any (vn : Nat) s A n c ls X m d caps Ab bl cb b _ (HR.out.grown (Nat.le_refl _) G.out) G.out.size (HX.out.grown (Nat.le_refl _) G.out) G.out.size RB.out (Nat.le_refl _) M 0 HLV.out).mono ?_
  rintro e w3 ⟨v3, rfl, h3, k⟩
  obtain ⟨Am, cm, rfl, _, _, rM⟩ := h3.rowN OKR.out
  have e3 : reachE 0 = 0 := by simp [reachE]
  rw [e3]
  have RM := Lib.hid rM
  have G := Lib.hid (grown_trans G.out k)
  have OB := Lib.hid (OB.out.kept k)
  clear k h3 rM p0 p1 RB e3
  obtain ⟨p0, p1⟩ := OB.out.two
  generalize (reachL M).length = rl at *
  generalize reachL M = rL at *
  go_wp2_with fail
  refine (RWorth_any (vn : Nat) A n c ls X m d caps Am rl cm rL _ (HR.out.grown (Nat.le_refl _) G.out) G.out.size (HX.out.grown (Nat.le_refl _) G.out) G.out.size RM.out (Nat.le_refl _)).mono ?_
  rintro e w4 ⟨he, k⟩
  rw [C2.out] at he
  subst he
  have RM := Lib.hid ((RM.out.grown (Nat.le_refl _) k).wide k.size)
  have G := Lib.hid (grown_trans G.out k)
  have OB := Lib.hid (OB.out.kept k)
  clear k p0 p1
  obtain ⟨p0, p1⟩ := OB.out.two
  go_wp2_with fail
  refine (RProves_any (vn : Nat) s t want A n c ls X m d caps Am rl cm rL _ (HR.out.grown (Nat.le_refl _) G.out) G.out.size (HX.out.grown (Nat.le_refl _) G.out) G.out.size RM.out (Nat.le_refl _)).mono ?_
  rintro e w5 ⟨he, k⟩
  rw [C3.out] at he
  subst he
  have RM := Lib.hid ((RM.out.grown (Nat.le_refl _) k).wide k.size)
  have G := Lib.hid (grown_trans G.out k)
  have OB := Lib.hid (OB.out.kept k)
  clear k p0 p1
  go_wp2_with fail
  refine (awake13_any _).mono ?_
  rintro e w6 ⟨rfl, k⟩
  have RM := Lib.hid ((RM.out.grown (Nat.le_refl _) k).wide k.size)
  have G := Lib.hid (grown_trans G.out k)
  have OB := Lib.hid (OB.out.kept k)
  clear k
  go_wp2_with fail
  refine (num_says _ _).mono ?_
  rintro e w7 ⟨rfl, k⟩
  have RM := Lib.hid ((RM.out.grown (Nat.le_refl _) k).wide k.size)
  have G := Lib.hid (grown_trans G.out k)
  have OB := Lib.hid (OB.out.kept k)
  clear k
  obtain ⟨p0, p1⟩ := OB.out.two
  go_wp2_with fail
  refine (RCutMay_any (vn : Nat) s t A n c ls Am rl cm rL _ (HR.out.grown (Nat.le_refl _) G.out) G.out.size RM.out (Nat.le_refl _)).mono ?_
  rintro e w8 ⟨he, k⟩
  rw [C1.out] at he
  subst he
  have G := Lib.hid (grown_trans G.out k)
  have qq : (kk == kk) = true := by simp
  clear k p0 p1
  go_wp2
  go_ret
  exact ⟨rfl, below_of G.out⟩

/-- Caps that are all 0: the source alone has a level. -/
def oneL (vn s : Nat) : List Int := (List.range vn).map fun v => if v = s then 0 else -1

theorem one_at {vn s v : Nat} (h : v < vn) : lvAt (oneL vn s) (v : Int) = if v = s then 0 else -1 := by
  simp [lvAt, oneL, h]

theorem one_is {vn s : Nat} {ls : List Lk} {m : Nat} (hs : s < vn) : IsLv vn (Leads ls (List.replicate m 0) (List.replicate m 0) (2 * ls.length)) (s : Int) (oneL vn s) := by
  have at' : ∀ v, inV vn v → lvAt (oneL vn s) v = if v = (s : Int) then 0 else -1 := by
    intro v hv
    obtain ⟨k, rfl⟩ : ∃ k : Nat, v = (k : Nat) := ⟨v.toNat, by have := hv.1; omega⟩
    rw [one_at (by have := hv.2; omega)]
    by_cases e : k = s
    · simp [e]
    · rw [if_neg e, if_neg (by omega)]
  have zr : ∀ i : Nat, (List.replicate m (0 : Int))[i]?.getD 0 = 0 := fun i => by
    by_cases h : i < m
    · simp [h]
    · rw [List.getElem?_eq_none (by simp; omega)]; rfl
  have no : ∀ u v, ¬ Leads ls (List.replicate m 0) (List.replicate m 0) (2 * ls.length) u v := by
    rintro u v ⟨a, _, _, _, hr⟩
    rcases Nat.mod_two_eq_zero_or_one a with e | e
    · rw [show a = 2 * (a / 2) by omega, roomE2, zr] at hr; omega
    · rw [show a = 2 * (a / 2) + 1 by omega, roomO2, zr] at hr; omega
  refine ⟨by simp [oneL], ?_, fun v hv => ?_, fun v hv h => ?_, fun u v h => absurd h (no u v), fun v hv h => ?_⟩
  · rw [at' _ ⟨by omega, by omega⟩, if_pos rfl]
  · rw [at' v hv]; split <;> omega
  · rw [at' v hv] at h
    by_cases e : v = (s : Int)
    · exact e
    · rw [if_neg e] at h; omega
  · rw [at' v hv] at h
    split at h <;> omega

theorem one_reach {vn s : Nat} (hs : s < vn) : reachL (oneL vn s) = [(s : Int)] := by
  refine lt_uniq _ _ (pick_rise _ _) (by simp) fun x => ?_
  rw [reachL, pick_mem]
  have hl : (oneL vn s).length = vn := by simp [oneL]
  rw [hl]
  constructor
  · rintro ⟨i, hi, h, rfl⟩
    rw [one_at hi] at h
    by_cases e : i = s
    · simp [e]
    · rw [if_neg e] at h; exact absurd h (by decide)
  · intro h
    have hx : x = (s : Int) := by simpa using h
    exact ⟨s, hs, by rw [one_at hs, if_pos rfl]; rfl, hx⟩

theorem zero_caps {ls : List Lk} {V : Int} (hm : mayG V ls = true) : capsB ls (List.replicate ls.length 0) = true := by
  refine capsB_all (by simp) (List.all_eq_true.2 fun i hi => ?_)
  rw [List.mem_range] at hi
  have hi : i < ls.length := by simpa using hi
  have h5 := may_cap hm hi
  simp only [capB, Bool.and_eq_true, decide_eq_true_eq]
  have zr : (List.replicate ls.length (0 : Int))[i]?.getD 0 = 0 := by simp [hi]
  rw [zr]
  omega

set_option maxHeartbeats 4000000 in
theorem ReachEmpty_walk (V : Int) (A : Option Addr) (n c : Nat) (ls : List Lk) (s t : Int) (w : World) (h : InG w A n c ls) (bs : bd64 s) :
    Calls Try.prog 5 #[.agg #[.int .i64 V, .slice A n c], .int .i64 s, .int .i64 t] w (LawPost w) := by
  obtain ⟨hs, hnc, hc, hnil⟩ := h
  have HR := Lib.hid hs
  have HL := Lib.hid hs.len
  have HG0 := Lib.hid (grow0 w (.cells #[.int .i64 V, .slice A n c] 24))
  clear hs hnil
  go_enter Try.func5, Try.ntmps5
  go_wp2_with fail
  refine (RMay_any V A n c ls _ (HR.out.grown (Nat.le_refl _) HG0.out)).mono ?_
  rintro e w1 ⟨rfl, k⟩
  obtain ⟨g1, ob⟩ := box1 [.int .i64 V, .slice A n c] k
  have G := Lib.hid g1
  have OB := Lib.hid ob
  clear k ob g1 HG0
  obtain ⟨p0, p1⟩ := OB.out.two
  cases hm : mayG V ls
  · clear hm
    go_wp2
    go_ret
    exact ⟨rfl, below_of G.out⟩
  have h16 := may_small hm
  rw [HL.out] at h16
  obtain ⟨vn, rfl⟩ : ∃ vn : Nat, V = (vn : Nat) := ⟨V.toNat, by omega⟩
  have HMAY := Lib.hid hm
  clear hm
  by_cases s0 : s < 0
  · go_wp2
    go_ret
    exact ⟨rfl, below_of G.out⟩
  by_cases s1 : (vn : Int) ≤ s
  · go_wp2
    go_ret
    exact ⟨rfl, below_of G.out⟩
  by_cases t0 : t < 0
  · go_wp2
    go_ret
    exact ⟨rfl, below_of G.out⟩
  by_cases t1 : (vn : Int) ≤ t
  · go_wp2
    go_ret
    exact ⟨rfl, below_of G.out⟩
  obtain ⟨sn, rfl⟩ : ∃ sn : Nat, s = (sn : Nat) := ⟨s.toNat, by omega⟩
  obtain ⟨tn, rfl⟩ : ∃ tn : Nat, t = (tn : Nat) := ⟨t.toNat, by omega⟩
  have hsn : sn < vn := by omega
  have htn : tn < vn := by omega
  have HLV : Hid (LvIs (vn : Nat) ls (List.replicate n 0) (List.replicate n 0) (sn : Nat) (oneL vn sn) 0) := by
    have e := HL.out
    subst e
    have zc := zero_caps HMAY.out
    refine lev_yes (lvB_all HMAY.out zc ?_ (isV_yes (by omega) (by omega))) rfl (one_is hsn)
    exact ratesB_mk rfl fun j hj => ⟨((capsB_parts zc).2 j (by simpa using hj)).1, Int.le_refl _⟩
  have HRE := Lib.hid (one_reach hsn)
  have HSH : Hid (shutB (vn : Nat) (oneL vn sn) 0 (tn : Nat) = ((sn : Int) != (tn : Int)) ∧ shutE (vn : Nat) 0 (tn : Nat) = 0) := by
    have e : isV (vn : Int) (tn : Int) = true := isV_yes (by omega) (by omega)
    constructor
    · rw [shutB, e, one_at htn]
      by_cases q : tn = sn
      · subst q; simp
      · rw [if_neg q]
        have : ((sn : Int) != (tn : Int)) = true := by simp; omega
        rw [this]; rfl
    · rw [shutE, e]; rfl
  obtain ⟨i0, hi, hz0, hz1, hz2⟩ := info_parts info3
  have HI := Lib.hid hi
  have HZ0 := Lib.hid hz0
  have HZ1 := Lib.hid hz1
  have HZ2 := Lib.hid hz2
  clear hi hz0 hz1 hz2
  go_wp2_with (first | (refine wpList_make_full _ rfl _ _ 25 rfl w1.heap.size 3 i0 (.int .i64 0) 1 Try.underlying25 HI.out HZ0.out HZ1.out .i64 .i64 (n : Int) (n : Int) n rfl rfl rfl rfl (by rw [HZ2.out]; omega) (by unfold maxLen; omega) (Nat.le_refl _) ?_))
  intro w2 hmk k2
  rw [toList_madeCells_one, ints_zero] at hmk
  have oz := Own.of_made hmk
  have RZ : Hid (Row w2 w2.heap.size (some ⟨w1.heap.size, 0, none⟩) n (List.replicate n 0)) := (Own.mine (n := n) (base := 0) oz (Nat.zero_le _) (by simp) (by omega)).rowAt (get_ok fun x hx => by rw [List.eq_of_mem_replicate hx]; omega)
  have G := Lib.hid (grown_trans G.out k2)
  have OB := Lib.hid (OB.out.kept k2)
  clear hmk k2 oz p0 p1 HI HZ0 HZ1 HZ2
  obtain ⟨p0, p1⟩ := OB.out.two
  generalize w1.heap.size = gz at *
  go_wp2_with fail
  refine (Reach_any (vn : Nat) (sn : Nat) A n c ls (some ⟨gz, 0, none⟩) n n (List.replicate n 0) (some ⟨gz, 0, none⟩) n n (List.replicate n 0) _ (HR.out.grown (Nat.le_refl _) G.out) G.out.size RZ.out (Nat.le_refl _) RZ.out (Nat.le_refl _) (oneL vn sn) 0 HLV.out).mono ?_
  rintro e w3 ⟨v3, rfl, h3, k⟩
  rw [HRE.out] at h3
  have e3 : reachE 0 = 0 := by simp [reachE]
  rw [e3]
  obtain ⟨Am, cm, rfl, _, _, rM⟩ := h3.rowN (get_ok fun x hx => by have : x = (sn : Int) := by simpa using hx
                                                                   omega)
  have RM := Lib.hid rM
  have RZ := Lib.hid ((RZ.out.grown (Nat.le_refl _) k).wide k.size)
  have G := Lib.hid (grown_trans G.out k)
  have OB := Lib.hid (OB.out.kept k)
  clear k h3 rM p0 p1 e3
  obtain ⟨p0, p1⟩ := OB.out.two
  go_wp2_with fail
  refine (Shut_any (vn : Nat) (sn : Nat) (tn : Nat) A n c ls (some ⟨gz, 0, none⟩) n n (List.replicate n 0) (some ⟨gz, 0, none⟩) n n (List.replicate n 0) _ (HR.out.grown (Nat.le_refl _) G.out) G.out.size RZ.out (Nat.le_refl _) RZ.out (Nat.le_refl _) (oneL vn sn) 0 HLV.out).mono ?_
  rintro e w4 ⟨he, k⟩
  rw [HSH.out.1, HSH.out.2] at he
  subst he
  have RM := Lib.hid ((RM.out.grown (Nat.le_refl _) k).wide k.size)
  have G := Lib.hid (grown_trans G.out k)
  clear k p0 p1 OB RZ
  go_wp2_with fail
  refine (awake13_any _).mono ?_
  rintro e w5 ⟨rfl, k⟩
  have RM := Lib.hid ((RM.out.grown (Nat.le_refl _) k).wide k.size)
  have G := Lib.hid (grown_trans G.out k)
  clear k
  go_wp2_with fail
  refine (num_says _ _).mono ?_
  rintro e w6 ⟨rfl, k⟩
  have RM := Lib.hid ((RM.out.grown (Nat.le_refl _) k).wide k.size)
  have G := Lib.hid (grown_trans G.out k)
  clear k
  go_wp2_with fail
  refine (num_says _ _).mono ?_
  rintro e w7 ⟨rfl, k⟩
  have RM := Lib.hid ((RM.out.grown (Nat.le_refl _) k).wide k.size)
  have G := Lib.hid (grown_trans G.out k)
  clear k
  have kl := grow0 w7 (.cells #[.int .i64 (sn : Nat)] 3)
  have RM := Lib.hid (RM.out.grown (Nat.le_refl _) kl)
  have GE := Lib.hid (grown_trans G.out kl)
  have HROW := Lib.hid (Row.newAt (w := w7) (g := w7.heap.size) (n := 1) (vs := #[.int .i64 (sn : Nat)]) [(sn : Int)] (by simp) rfl rfl (by simp) (by simp; omega))
  clear kl
  go_wp2_with fail
  refine (same_says (SameInts0_any Am _ cm [(sn : Int)] _ 1 1 [(sn : Int)] _ RM.out HROW.out)).mono ?_
  rintro e w8 ⟨he, k⟩
  rw [sameB_refl] at he
  subst he
  have G := Lib.hid (grown_trans GE.out k)
  have qb : ∀ b : Bool, (b == b) = true := fun b => by simp
  have q := qb ((sn : Int) != (tn : Int))
  clear k qb
  go_wp2
  go_ret
  exact ⟨rfl, below_of G.out⟩

end Go.Proofs.Ytppcncblmakekaa
