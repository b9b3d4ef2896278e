/-
  The laws StrandWhole and StrandBack, walked.
-/
import Derived.Test.YtodjehljnmfbpaaStrandG
set_option maxRecDepth 20000
namespace Go.Proofs.Ytodjehljnmfbpaa
open Go.RowKit

theorem loads_okI {V : Int} {L : List Lk} {ps : List Pth} : okI (loadsV V L ps) := fun i => by
  have := loads_bd (V := V) (L := L) (ps := ps) i
  omega

set_option maxHeartbeats 4000000 in
theorem StrandWhole_walk (V : Int) (A : Option Addr) (n c : Nat) (ls : List Lk) (X : Option Addr) (m d : Nat) (f : List Int) (s t : Int) (w : World) (h : InG w A n c ls) (hX : In w X m d f) :
    Calls Try.prog 4 #[.agg #[.int .i64 V, .slice A n c], .slice X m d, .int .i64 s, .int .i64 t] w (LawPost w) := by
  obtain ⟨hs, hnc, hc, hnil⟩ := h
  obtain ⟨hx, hpd, hd, hnilx⟩ := hX
  have HR := Lib.hid hs
  have HL := Lib.hid hs.len
  have HX := Lib.hid hx
  have HLX := Lib.hid hx.len
  have HG0 := Lib.hid (grow0 w (.cells #[.int .i64 V, .slice A n c] 24))
  clear hs hnil hx hnilx
  go_enter Try.func4, Try.ntmps4
  go_wp2_with fail
  refine (RFlow_any V s t A n c ls X m d f X m d f _ (HR.out.grown (Nat.le_refl _) HG0.out) (by simp) (HX.out.grown (Nat.le_refl _) HG0.out) (by simp) (HX.out.grown (Nat.le_refl _) HG0.out) (by simp)).mono ?_
  rintro e w1 ⟨rfl, k⟩
  obtain ⟨g1, ob⟩ := box1 [.int .i64 V, .slice A n c] k
  have G := Lib.hid g1
  have OB := Lib.hid ob
  clear k ob g1 HG0
  obtain ⟨p0, p1⟩ := OB.out.two
  cases hfl : flowB V ls f f s t
  · clear hfl
    go_wp2
    go_ret
    exact ⟨rfl, below_of G.out⟩
  obtain ⟨hm, hcf⟩ := flow_v hfl
  have h16 := may_small hm
  obtain ⟨vn, rfl⟩ : ∃ vn : Nat, V = (vn : Nat) := ⟨V.toNat, by omega⟩
  have HM := Lib.hid hm
  have HFL := Lib.hid hfl
  have hmn : m = n := by have := (capsB_parts hcf).1; have := HL.out; have := HLX.out; omega
  subst hmn
  clear hm hcf hfl
  go_wp2_with fail
  refine (RCyclic_any vn A m c ls X m d f _ (HR.out.grown (Nat.le_refl _) G.out) G.out.size (HX.out.grown (Nat.le_refl _) G.out) HM.out rfl).mono ?_
  rintro e w2 ⟨zc, rfl, hz, k⟩
  have G := Lib.hid (grown_trans G.out k)
  have OB := Lib.hid (OB.out.kept k)
  clear k p0 p1
  obtain ⟨p0, p1⟩ := OB.out.two
  cases zc with
  | true =>
    clear hz
    go_wp2
    go_ret
    exact ⟨rfl, below_of G.out⟩
  | false =>
    have HN : Hid (¬ CycP ls f) := fun q => by have := hz.2 q; cases this
    clear hz
    go_wp2_with fail
    refine (Split_any (vn : Nat) s t A m c ls X m d f _ (HR.out.grown (Nat.le_refl _) G.out) G.out.size (HX.out.grown (Nat.le_refl _) G.out) G.out.size).mono ?_
    rintro e w3 ⟨ps, z, hb, v3, rfl, h3, k⟩
    obtain ⟨rfl, sf⟩ := split_flow HFL.out hb
    obtain ⟨hp16, hok, hoks⟩ := splitF_ok HFL.out sf
    obtain ⟨Ab, cb, rfl, rP⟩ := h3.pths hp16 hok hoks
    have RP := Lib.hid rP
    have LV : Hid (loadsV (vn : Nat) ls ps = f) := sf.loads.trans (split_whole HFL.out sf HN.out)
    have LE := Lib.hid sf.err
    have G := Lib.hid (grown_trans G.out k)
    have OB := Lib.hid (OB.out.kept k)
    clear k p0 p1 hb h3 sf hok hoks rP HN
    obtain ⟨p0, p1⟩ := OB.out.two
    generalize ps.length = pl at *
    go_wp2_with fail
    refine (RLoads_any (vn : Nat) A m c ls Ab pl cb ps _ (HR.out.grown (Nat.le_refl _) G.out) G.out.size RP.out (Nat.le_refl _)).mono ?_
    rintro e w4 ⟨v4, he, h4, k⟩
    rw [LE.out] at he
    subst he
    rw [LV.out] at h4
    obtain ⟨Al, cl, rfl, _, _, rl⟩ := h4.rowN HX.out.ok
    have RL := Lib.hid rl
    have G := Lib.hid (grown_trans G.out k)
    clear k h4 rl p0 p1 OB RP
    generalize f.length = fl at *
    go_wp2_with fail
    refine (awake15_any _).mono ?_
    rintro e w5 ⟨rfl, k⟩
    have RL := Lib.hid ((RL.out.grown (Nat.le_refl _) k).wide k.size)
    have G := Lib.hid (grown_trans G.out k)
    clear k
    go_wp2_with fail
    refine (num_says _ _).mono ?_
    rintro e w6 ⟨rfl, k⟩
    have RL := Lib.hid ((RL.out.grown (Nat.le_refl _) k).wide k.size)
    have G := Lib.hid (grown_trans G.out k)
    clear k
    go_wp2_with fail
    refine (same_says (SameInts0_any Al fl cl f X m d f _ RL.out (HX.out.grown (Nat.le_refl _) G.out))).mono ?_
    rintro e w7 ⟨he, k⟩
    rw [sameB_refl] at he
    subst he
    have G := Lib.hid (grown_trans G.out k)
    clear k
    go_wp2
    go_ret
    exact ⟨rfl, below_of G.out⟩

set_option maxHeartbeats 4000000 in
theorem StrandBack_walk (V : Int) (A : Option Addr) (n c : Nat) (ls : List Lk) (s t R : Int) (P : Option Addr) (m d : Nat) (ps : List Pth) (w : World) (h : InG w A n c ls) (hP : InP w P m d ps) :
    Calls Try.prog 5 #[.agg #[.int .i64 V, .slice A n c], .int .i64 s, .int .i64 t, .int .i64 R, .slice P m d] w (LawPost w) := by
  obtain ⟨hs, hnc, hc, hnil⟩ := h
  obtain ⟨hp, _⟩ := hP
  have HR := Lib.hid hs
  have HL := Lib.hid hs.len
  have HP := Lib.hid hp
  have HG0 := Lib.hid (grow0 w (.cells #[.int .i64 V, .slice A n c] 24))
  clear hs hnil hp
  go_enter Try.func5, Try.ntmps5
  go_wp2_with fail
  refine (RBMay_any V s t R A n c ls P m d ps _ (HR.out.grown (Nat.le_refl _) HG0.out) (by simp) (HP.out.grown (Nat.le_refl _) HG0.out) (by simp)).mono ?_
  rintro e w1 ⟨rfl, k⟩
  obtain ⟨g1, ob⟩ := box1 [.int .i64 V, .slice A n c] k
  have G := Lib.hid g1
  have OB := Lib.hid ob
  clear k ob g1 HG0
  obtain ⟨p0, p1⟩ := OB.out.two
  cases hbm : bmay V ls s t R ps
  · clear hbm
    go_wp2
    go_ret
    exact ⟨rfl, below_of G.out⟩
  have hm : mayG V ls = true := by
    cases q : mayG V ls
    · rw [bmay_graph q] at hbm; cases hbm
    · rfl
  have h16 := may_small hm
  rw [HL.out] at h16
  obtain ⟨vn, rfl⟩ : ∃ vn : Nat, V = (vn : Nat) := ⟨V.toNat, by omega⟩
  have HBM := Lib.hid hbm
  clear hm hbm
  go_wp2_with fail
  refine (RLoads_any (vn : Nat) A n c ls P m d ps _ (HR.out.grown (Nat.le_refl _) G.out) G.out.size (HP.out.grown (Nat.le_refl _) G.out) G.out.size).mono ?_
  rintro e w2 ⟨v2, rfl, h2, k⟩
  obtain ⟨Al, cl, rfl, _, _, rl⟩ := h2.rowN loads_okI
  have RL := Lib.hid rl
  have G := Lib.hid (grown_trans G.out k)
  have OB := Lib.hid (OB.out.kept k)
  clear k h2 rl p0 p1
  obtain ⟨p0, p1⟩ := OB.out.two
  generalize hlv : loadsV (vn : Nat) ls ps = fL at *
  have HLV := Lib.hid hlv
  generalize fL.length = fl at *
  clear hlv
  have OKO := Lib.hid (own_ok (HR.out.grown (Nat.le_refl _) G.out))
  go_wp2_with fail
  refine (ROwn_any (vn : Nat) A n c ls _ (HR.out.grown (Nat.le_refl _) G.out) (by omega)).mono ?_
  rintro e w3 ⟨v3, rfl, h3, k⟩
  obtain ⟨Ao, co, rfl, _, _, ro⟩ := h3.rowN OKO.out
  have RO := Lib.hid ro
  have RL := Lib.hid ((RL.out.grown (Nat.le_refl _) k).wide k.size)
  have G := Lib.hid (grown_trans G.out k)
  have OB := Lib.hid (OB.out.kept k)
  clear k h3 ro p0 p1
  go_wp2_with fail
  refine (RWithin_any Ao n co (ownC ls) Al fl cl fL _ RO.out RL.out).mono ?_
  rintro e w4 ⟨rfl, k⟩
  have RL := Lib.hid ((RL.out.grown (Nat.le_refl _) k).wide k.size)
  have G := Lib.hid (grown_trans G.out k)
  have OB := Lib.hid (OB.out.kept k)
  clear k RO
  obtain ⟨p0, p1⟩ := OB.out.two
  cases hw : ratesB (ownC ls) fL
  · clear hw
    go_wp2
    go_ret
    exact ⟨rfl, below_of G.out⟩
  have hw2 : ratesB (ownC ls) (loadsV (vn : Nat) ls ps) = true := by rw [HLV.out]; exact hw
  obtain ⟨bf, bg, br⟩ := back_flow HBM.out hw2
  rw [HLV.out] at bf bg
  have BF := Lib.hid bf
  have BG := Lib.hid bg
  have BR := Lib.hid br
  clear hw hw2 bf bg br
  go_wp2_with fail
  refine (Split_any (vn : Nat) s t A n c ls Al fl cl fL _ (HR.out.grown (Nat.le_refl _) G.out) G.out.size RL.out (Nat.le_refl _)).mono ?_
  rintro e w5 ⟨qs, z, hb, v5, rfl, h5, k⟩
  obtain ⟨rfl, sf⟩ := split_flow BF.out hb
  obtain ⟨hp16, hok, hoks⟩ := splitF_ok BF.out sf
  obtain ⟨Ab, cb, rfl, rP⟩ := h5.pths hp16 hok hoks
  have BM2 : Hid (bmay (vn : Nat) ls s t R qs = true) := by
    have q := (splitF_may BF.out sf).2 (by rw [BG.out]; exact BR.out)
    rw [BG.out] at q
    exact q
  have RP := Lib.hid rP
  have G := Lib.hid (grown_trans G.out k)
  have OB := Lib.hid (OB.out.kept k)
  clear k p0 p1 hb h5 sf hok hoks rP RL
  generalize qs.length = ql at *
  go_wp2_with fail
  refine (awake15_any _).mono ?_
  rintro e w6 ⟨rfl, k⟩
  have RP := Lib.hid ((RP.out.grown (Nat.le_refl _) k).wide k.size)
  have G := Lib.hid (grown_trans G.out k)
  have OB := Lib.hid (OB.out.kept k)
  clear k
  go_wp2_with fail
  refine (num_says _ _).mono ?_
  rintro e w7 ⟨rfl, k⟩
  have RP := Lib.hid ((RP.out.grown (Nat.le_refl _) k).wide k.size)
  have G := Lib.hid (grown_trans G.out k)
  have OB := Lib.hid (OB.out.kept k)
  clear k
  obtain ⟨p0, p1⟩ := OB.out.two
  go_wp2_with fail
  refine (RBMay_any (vn : Nat) s t R A n c ls Ab ql cb qs _ (HR.out.grown (Nat.le_refl _) G.out) G.out.size RP.out (Nat.le_refl _)).mono ?_
  rintro e w8 ⟨he, k⟩
  rw [BM2.out] at he
  subst he
  have G := Lib.hid (grown_trans G.out k)
  clear k p0 p1
  go_wp2
  go_ret
  exact ⟨rfl, below_of G.out⟩

end Go.Proofs.Ytodjehljnmfbpaa
