/-
  The laws CycleCancels, CycleLeaves and CycleFlows, walked.
-/
import Derived.Test.YtefgnaldiggnnaaCycG
import Derived.Test.YtefgnaldiggnnaaFlowC
set_option maxRecDepth 20000
namespace Go.Proofs.Ytefgnaldiggnnaa
open Go.RowKit

/-- What is left is a list within the links' Caps. -/
theorem cancel_caps {L : List Lk} {f b : List Int} (hc : capsB L f = true) (hl : b.length = L.length) (hb : ∀ i, i < L.length → 0 ≤ b[i]?.getD 0 ∧ b[i]?.getD 0 ≤ f[i]?.getD 0) : capsB L b = true ∧ ratesB f b = true := by
  obtain ⟨h1, h2⟩ := capsB_parts hc
  have hr : ratesB f b = true := ratesB_mk (by omega) fun i hi => hb i (by omega)
  exact ⟨caps_in hc hr, hr⟩

theorem caps_okI14 {V : Int} {ls : List Lk} {f : List Int} (f1 : mayG V ls = true) (f4 : capsB ls f = true) : okI f := by
  intro i
  have hl := (capsB_parts f4).1
  by_cases hi : i < ls.length
  · have hb := f_bd f4 hi
    have h5 := may_sum f1 (i + 1) (by omega)
    have h6 := (gk_bd (f := f) 0 f4 i (by omega)).1
    rw [capSum] at h5
    omega
  · rw [List.getElem?_eq_none (by omega)]
    simp

def CanRel (w : World) (gl vn : Nat) (A : Option Addr) (n c : Nat) (f : List Int) (B : Nat) (m : Nat) (b : List Int) (Ab : Option Addr) (nb cb : Nat) (i : Value) (wr : World) : Prop :=
  ∃ k : Nat, k ≤ vn ∧ i = .int .i64 (k : Nat) ∧ w.grownBy wr none ∧ Own wr w.heap.size 24 [.int .i64 (vn : Nat), .slice A n c] ∧ Row wr B (some ⟨gl, 0, none⟩) (m + 2) (f ++ [-7777, -8888]) ∧ Mine wr B (.slice Ab nb cb) nb b ∧ B ≤ wr.heap.size

set_option maxHeartbeats 4000000 in
theorem CycleCancels_walk (V : Int) (A : Option Addr) (n c : Nat) (ls : List Lk) (X : Option Addr) (m d : Nat) (f : List Int) (w : World) (h : InG w A n c ls) (hX : In w X m d f) :
    Calls Try.prog 4 #[.agg #[.int .i64 V, .slice A n c], .slice X m d] w (LawPost w) := by
  obtain ⟨hs, hnc, hc, hnil⟩ := h
  obtain ⟨hx, hpd, hd, hnilx⟩ := hX
  have HR := Lib.hid hs
  have HL := Lib.hid hs.len
  have HX := Lib.hid hx
  have HLX := Lib.hid hx.len
  have HNIX := Lib.hid hnilx
  have HX1 := Lib.hid (hx.grown (Nat.le_refl _) (grow0 w (.cells #[.int .i64 V, .slice A n c] 24)))
  clear hs hnil hx hnilx
  go_enter Try.func4, Try.ntmps4
  go_wp2_with fail
  refine (LendInts_any X m d f _ HX1.out (by simp) HNIX.out (by omega)).mono ?_
  rintro e w1 ⟨gl, cl, rfl, hcl, hrow, bel⟩
  obtain ⟨g1, ob⟩ := box1 [.int .i64 V, .slice A n c] (grown_of_below bel)
  have RX := Lib.hid hrow
  have G := Lib.hid g1
  have OB := Lib.hid ob
  have HCL := Lib.hid hcl
  clear bel g1 ob hrow HX1 hcl
  obtain ⟨p0, p1⟩ := OB.out.two
  go_wp2_with fail
  refine (Cancel_any V A n c ls (some ⟨gl, 0, none⟩) m cl f _ (HR.out.grown (Nat.le_refl _) G.out) G.out.size (RX.out.unmark HLX.out) (Nat.le_refl _)).mono ?_
  rintro e w2 ⟨b, z, hb, v2, rfl, h2, k⟩
  have HB := Lib.hid hb
  have M2 := Lib.hid h2
  have hba := h2.own_ge
  have hlg := G.out.size
  have s2 := k.size
  have G := Lib.hid (grown_trans G.out k)
  have OB := Lib.hid (OB.out.kept k)
  have RX := Lib.hid (RX.out.grown (Nat.le_refl _) k)
  clear k p0 p1 hb h2
  obtain ⟨p0, p1⟩ := OB.out.two
  go_wp2_with fail
  refine (RFine14_any V A n c ls X m d f _ (HR.out.grown (Nat.le_refl _) G.out) G.out.size (HX.out.grown (Nat.le_refl _) G.out) G.out.size).mono ?_
  rintro e w3 ⟨rfl, k⟩
  have s3 := k.size
  have G := Lib.hid (grown_trans G.out k)
  have OB := Lib.hid (OB.out.kept k)
  have RX := Lib.hid (RX.out.grown s2 k)
  have M2 := Lib.hid (M2.out.kept k)
  clear k p0 p1
  obtain ⟨p0, p1⟩ := OB.out.two
  rcases HB.out with ⟨hf, rfl, hl, hb, hg, hn⟩ | ⟨hf, rfl, rfl⟩
  case inr =>
    rw [hf]
    obtain ⟨Ab, cb, rfl, _⟩ := M2.out.sl
    clear hf HB
    go_wp2_with fail
    refine (awake14_any _).mono ?_
    rintro e w4 ⟨rfl, k⟩
    have G := Lib.hid (grown_trans G.out k)
    clear k
    go_wp2_with fail
    refine (num_says _ _).mono ?_
    rintro e w5 ⟨rfl, k⟩
    have G := Lib.hid (grown_trans G.out k)
    clear k
    go_wp2
    go_ret
    exact ⟨rfl, below_of G.out⟩
  rw [hf]
  rw [Bool.and_eq_true] at hf
  obtain ⟨hm, hcb⟩ := hf
  have h16 := may_small hm
  rw [HL.out] at h16
  obtain ⟨vn, rfl⟩ : ∃ vn : Nat, V = (vn : Nat) := ⟨V.toNat, by omega⟩
  have hmn : m = n := by have := (capsB_parts hcb).1; have := HL.out; have := HLX.out; omega
  subst hmn
  have HMAY := Lib.hid hm
  have HCF := Lib.hid hcb
  obtain ⟨hcB, hrB⟩ := cancel_caps hcb hl hb
  have HCB := Lib.hid hcB
  have HRB := Lib.hid hrB
  have OKB := Lib.hid (caps_okI14 hm hcB)
  have HG := Lib.hid hg
  have HN := Lib.hid hn
  have hbm : b.length = m := by rw [hl, HL.out]
  clear hm hcb HB hl hb hg hn hcB hrB
  obtain ⟨Ab, cb, rfl, _, _, rB⟩ := M2.out.rowN OKB.out
  rw [hbm] at rB M2 hba ⊢
  have RB := Lib.hid rB
  clear rB hbm
  go_wp2_with fail
  refine (num_says _ _).mono ?_
  rintro e w4 ⟨rfl, k⟩
  have s4 := k.size
  have G := Lib.hid (grown_trans G.out k)
  have OB := Lib.hid (OB.out.kept k)
  have RX := Lib.hid (RX.out.grown (by omega) k)
  have M2 := Lib.hid (M2.out.kept k)
  have RB := Lib.hid ((RB.out.grown (Nat.le_refl _) k).wide k.size)
  clear k p0 p1
  obtain ⟨p0, p1⟩ := OB.out.two
  go_wp2_with fail
  refine (RWithin_any X m d f Ab m cb b _ (HX.out.grown (Nat.le_refl _) G.out) RB.out).mono ?_
  rintro e w5 ⟨he, k⟩
  rw [HRB.out] at he
  subst he
  have s5 := k.size
  have G := Lib.hid (grown_trans G.out k)
  have OB := Lib.hid (OB.out.kept k)
  have RX := Lib.hid (RX.out.grown (by omega) k)
  have M2 := Lib.hid (M2.out.kept k)
  have RB := Lib.hid ((RB.out.grown (Nat.le_refl _) k).wide k.size)
  clear k p0 p1
  obtain ⟨p0, p1⟩ := OB.out.two
  go_wp2_with fail
  refine (RCyclic_any vn A m c ls Ab m cb b _ (HR.out.grown (Nat.le_refl _) G.out) G.out.size RB.out HMAY.out rfl).mono ?_
  rintro e w6 ⟨zc, rfl, hz, k⟩
  obtain rfl : zc = false := by
    cases zc
    · rfl
    · exact absurd (hz.1 rfl) HN.out
  have s6 := k.size
  have HS : Hid (CanRel w gl vn A m c f w1.heap.size m b Ab m cb (.int .i64 0) w6) := ⟨0, Nat.zero_le _, rfl, grown_trans G.out k, OB.out.kept k, RX.out.grown (by omega) k, M2.out.kept k, by omega⟩
  have hw6 : w1.heap.size ≤ w6.heap.size := by omega
  clear k p0 p1 hz HN G OB RX M2 RB
  have hw0 : w.heap.size ≤ w1.heap.size := hlg
  generalize w1.heap.size = wb at *
  go_wp2
  go_loopw [8] (fun i wr => CanRel w gl vn A m c f wb m b Ab m cb i wr) (fun i _ => vn - (intOf i).toNat)
  case atStart => exact HS.out
  case round =>
    clear HS
    obtain ⟨k, hk, rfl, hg, ob, rx, m2, hwbr⟩ := hrel
    have hwb := Lib.hid hwbr
    have G := Lib.hid hg
    have OB := Lib.hid ob
    have RX := Lib.hid rx
    have M2 := Lib.hid m2
    have RB := Lib.hid (m2.rowAt OKB.out)
    obtain ⟨p0, p1⟩ := ob.two
    have hlb := ob.lt
    clear hg ob rx m2
    by_cases hlt : k < vn
    · have C1 : Hid (∀ wx : World, wr.grownBy wx none → Calls Try.prog 19 #[.agg #[.int .i64 (vn : Nat), .slice A m c], .slice Ab m cb, .int .i64 (k : Nat)] wx (Says wx (.int .i64 (gainOf ls b (k : Nat))))) := fun wx g => RGain_any (vn : Nat) A m c ls Ab m cb b (k : Nat) wx (HR.out.grown (Nat.le_refl _) (grown_trans G.out g)) (RB.out.grown (Nat.le_refl _) g) HMAY.out HCB.out
      have C2 : Hid (∀ wx : World, wr.grownBy wx none → Calls Try.prog 19 #[.agg #[.int .i64 (vn : Nat), .slice A m c], .slice X m d, .int .i64 (k : Nat)] wx (Says wx (.int .i64 (gainOf ls b (k : Nat))))) := fun wx g => by
        have q := RGain_any (vn : Nat) A m c ls X m d f (k : Nat) wx (HR.out.grown (Nat.le_refl _) (grown_trans G.out g)) (HX.out.grown (Nat.le_refl _) (grown_trans G.out g)) HMAY.out HCF.out
        rw [← HG.out k (by omega)] at q
        exact q
      generalize gainOf ls b (k : Nat) = gv at *
      have qg : (gv != gv) = false := by simp
      have HS := Lib.hid (show (fun w' : World => w'.cell? ⟨w.heap.size, 0, none⟩ = some (.int .i64 (vn : Nat)) ∧ w'.cell? ⟨w.heap.size, 1, none⟩ = some (.slice A m c)) wr from ⟨p0, p1⟩)
      have GK := Lib.hid (World.grownBy.refl wr none)
      go_upto_region 10 with fail
      go_region_held3 (fun w' : World => w'.cell? ⟨w.heap.size, 0, none⟩ = some (.int .i64 (vn : Nat)) ∧ w'.cell? ⟨w.heap.size, 1, none⟩ = some (.slice A m c))
        (exact HS.out)
        (first
          | (go_at_call 19; refine (C1.out _ (by first | exact GK.out | exact grown_drew GK.out | exact grown_drewN GK.out _)).mono ?_; clear C1; rintro e w8 ⟨rfl, g⟩; have GK : Hid (wr.grownBy w8 none) := (by first | exact grown_trans GK.out g | exact grown_trans (grown_drew GK.out) g | exact grown_trans (grown_drewN GK.out _) g); have HS := Lib.hid (held2L g HS.out); clear g)
          | (go_at_call 19; refine (C2.out _ (by first | exact GK.out | exact grown_drew GK.out | exact grown_drewN GK.out _)).mono ?_; clear C2; rintro e w8 ⟨rfl, g⟩; have GK : Hid (wr.grownBy w8 none) := (by first | exact grown_trans GK.out g | exact grown_trans (grown_drew GK.out) g | exact grown_trans (grown_drewN GK.out _) g); have HS := Lib.hid (held2L g HS.out); clear g))
      have G2 := Lib.hid (grown_trans G.out GK.out)
      have O2 := Lib.hid (OB.out.kept GK.out)
      have RX2 := Lib.hid (RX.out.grown hwb.out GK.out)
      have M22 := Lib.hid (M2.out.kept GK.out)
      have HSZ := Lib.hid GK.out.size
      clear GK HS G OB RX M2 RB p0 p1
      go_wp2
      go_roundw
      case rel => exact ⟨k + 1, by omega, by go_num, by first | exact G2.out | exact grown_drew G2.out | exact grown_drewN G2.out _, by first | exact O2.out | exact O2.out.drewN _, by first | exact RX2.out | exact RX2.out.drewN _, by first | exact M22.out | exact M22.out.drewN _, Nat.le_trans hwb.out HSZ.out⟩
      case measure => simp [intOf]; omega
    · obtain rfl : k = vn := by omega
      go_wp2_with fail
      refine (SpoilInts_any (.slice Ab m cb) m b _ M2.out).mono ?_
      rintro e w7 ⟨rfl, k7⟩
      have s7 := k7.size
      have hwr : wb ≤ wr.heap.size := hwb.out
      have G := Lib.hid (grown_none G.out k7 (fun g hg => by have := hba g hg; have := hw0; omega))
      have RX := Lib.hid (RX.out.grown' hwr k7 hba)
      clear k7 M2 RB p0 p1 OB
      go_wp2_with fail
      refine (awake14_any _).mono ?_
      rintro e w8 ⟨rfl, k8⟩
      have G := Lib.hid (grown_trans G.out k8)
      have RX := Lib.hid (RX.out.grown (by omega) k8)
      clear k8
      go_wp2_with fail
      refine (KeptInts_any gl m cl f X d _ RX.out HLX.out HCL.out (HX.out.grown (Nat.le_refl _) G.out)).mono ?_
      rintro e w9 ⟨rfl, j, rfl⟩
      go_wp2
      go_ret
      exact ⟨rfl, below_of (grown_drewN G.out _)⟩

set_option maxHeartbeats 4000000 in
theorem CycleLeaves_walk (V : Int) (A : Option Addr) (n c : Nat) (ls : List Lk) (X : Option Addr) (m d : Nat) (f : List Int) (w : World) (h : InG w A n c ls) (hX : In w X m d f) :
    Calls Try.prog 5 #[.agg #[.int .i64 V, .slice A n c], .slice X m d] w (LawPost w) := by
  obtain ⟨hs, hnc, hc, hnil⟩ := h
  obtain ⟨hx, hpd, hd, hnilx⟩ := hX
  have HR := Lib.hid hs
  have HL := Lib.hid hs.len
  have HX := Lib.hid hx
  have HLX := Lib.hid hx.len
  have HG0 := Lib.hid (grow0 w (.cells #[.int .i64 V, .slice A n c] 24))
  clear hs hnil hx hnilx
  go_enter Try.func5, Try.ntmps5
  go_wp2_with fail
  refine (Cancel_any V A n c ls X m d f _ (HR.out.grown (Nat.le_refl _) HG0.out) (by simp) (HX.out.grown (Nat.le_refl _) HG0.out) (by simp)).mono ?_
  rintro e w1 ⟨a, z, hb, v1, rfl, h1, k⟩
  obtain ⟨g1, ob⟩ := box1 [.int .i64 V, .slice A n c] k
  have HB := Lib.hid hb
  have M1 := Lib.hid h1
  have G := Lib.hid g1
  have OB := Lib.hid ob
  clear k g1 ob hb h1 HG0
  obtain ⟨p0, p1⟩ := OB.out.two
  go_wp2_with fail
  refine (num_says _ _).mono ?_
  rintro e w2 ⟨rfl, k⟩
  have G := Lib.hid (grown_trans G.out k)
  have OB := Lib.hid (OB.out.kept k)
  have M1 := Lib.hid (M1.out.kept k)
  clear k p0 p1
  obtain ⟨p0, p1⟩ := OB.out.two
  rcases HB.out with ⟨hf, rfl, hl, hb, hg, hn⟩ | ⟨_, rfl, rfl⟩
  case inr =>
    go_wp2
    go_ret
    exact ⟨rfl, below_of G.out⟩
  have HF := Lib.hid hf
  rw [Bool.and_eq_true] at hf
  obtain ⟨hm, hcb⟩ := hf
  have h16 := may_small hm
  rw [HL.out] at h16
  obtain ⟨vn, rfl⟩ : ∃ vn : Nat, V = (vn : Nat) := ⟨V.toNat, by omega⟩
  have hmn : m = n := by have := (capsB_parts hcb).1; have := HL.out; have := HLX.out; omega
  subst hmn
  obtain ⟨hcA, _⟩ := cancel_caps hcb hl hb
  have OKA := Lib.hid (caps_okI14 hm hcA)
  have HFA : Hid ((mayG (vn : Nat) ls && capsB ls a) = true) := by rw [Hid, hm, hcA]; rfl
  have SAME : Hid (¬ CycP ls f → a = f) := fun hc => same_list (n := ls.length) (by rw [HLX.out, HL.out]) hl (same_gains hm hb (fun v hv => hg v (by omega)) hc)
  have SAMEA : Hid (∀ b z, CancelIs (vn : Nat) ls a b z → z = 0 ∧ b = a) := fun b z hq => by
    rcases hq with ⟨_, hz, hl2, hb2, hg2, _⟩ | ⟨q, _⟩
    · exact ⟨hz, same_list (n := ls.length) hl hl2 (same_gains hm hb2 (fun v hv => hg2 v (by omega)) hn)⟩
    · rw [HFA.out] at q; cases q
  have ham : a.length = m := by rw [hl, HL.out]
  obtain ⟨Aa, ca, rfl, _, _, rA⟩ := M1.out.rowN OKA.out
  rw [ham] at rA ⊢
  have RA := Lib.hid rA
  clear hm hcb hl hb hg hn hcA rA M1 HB ham
  go_wp2_with fail
  refine (Cancel_any (vn : Nat) A m c ls Aa m ca a _ (HR.out.grown (Nat.le_refl _) G.out) G.out.size RA.out (Nat.le_refl _)).mono ?_
  rintro e w3 ⟨b, z, hb, v3, rfl, h3, k⟩
  obtain ⟨rfl, rfl⟩ := SAMEA.out _ _ hb
  obtain ⟨Ab, cb, rfl, _, _, rB⟩ := h3.rowN OKA.out
  have RB := Lib.hid rB
  have RA := Lib.hid ((RA.out.grown (Nat.le_refl _) k).wide k.size)
  have G := Lib.hid (grown_trans G.out k)
  have OB := Lib.hid (OB.out.kept k)
  clear k p0 p1 hb h3 rB SAMEA
  obtain ⟨p0, p1⟩ := OB.out.two
  generalize hbl : b.length = bl at *
  go_wp2_with fail
  refine (Find_any (vn : Nat) A m c ls X m d f _ (HR.out.grown (Nat.le_refl _) G.out) G.out.size (HX.out.grown (Nat.le_refl _) G.out) G.out.size).mono ?_
  rintro e w4 ⟨ks, is, z4, hf4, v4, rfl, _, k⟩
  have HF4 : Hid (z4 = 0 ∧ (is = true ∨ (is = false ∧ b = f))) := by
    rcases hf4 with ⟨_, hz, ⟨hi, _⟩ | ⟨hi, _, hc⟩⟩ | ⟨q, _⟩
    · exact ⟨hz, .inl hi⟩
    · exact ⟨hz, .inr ⟨hi, SAME.out hc⟩⟩
    · rw [HF.out] at q; cases q
  obtain ⟨rfl, hor⟩ := HF4.out
  have HOR := Lib.hid hor
  have RA := Lib.hid ((RA.out.grown (Nat.le_refl _) k).wide k.size)
  have RB := Lib.hid ((RB.out.grown (Nat.le_refl _) k).wide k.size)
  have G := Lib.hid (grown_trans G.out k)
  clear k p0 p1 hf4 HF4 SAME OB hor
  go_wp2_with fail
  refine (awake14_any _).mono ?_
  rintro e w5 ⟨rfl, k⟩
  have RA := Lib.hid ((RA.out.grown (Nat.le_refl _) k).wide k.size)
  have RB := Lib.hid ((RB.out.grown (Nat.le_refl _) k).wide k.size)
  have G := Lib.hid (grown_trans G.out k)
  clear k
  go_wp2_with fail
  refine (num_says _ _).mono ?_
  rintro e w6 ⟨rfl, k⟩
  have RA := Lib.hid ((RA.out.grown (Nat.le_refl _) k).wide k.size)
  have RB := Lib.hid ((RB.out.grown (Nat.le_refl _) k).wide k.size)
  have G := Lib.hid (grown_trans G.out k)
  clear k
  go_wp2_with fail
  refine (same_says (SameInts0_any Aa m ca b Ab bl cb b _ RA.out RB.out)).mono ?_
  rintro e w7 ⟨he, k⟩
  rw [sameB_refl] at he
  subst he
  have RA := Lib.hid ((RA.out.grown (Nat.le_refl _) k).wide k.size)
  have G := Lib.hid (grown_trans G.out k)
  clear k RB
  go_wp2_with fail
  refine (num_says _ _).mono ?_
  rintro e w8 ⟨rfl, k⟩
  have RA := Lib.hid ((RA.out.grown (Nat.le_refl _) k).wide k.size)
  have G := Lib.hid (grown_trans G.out k)
  clear k
  rcases HOR.out with rfl | ⟨rfl, rfl⟩
  · go_wp2
    go_ret
    exact ⟨rfl, below_of G.out⟩
  · go_wp2_with fail
    refine (same_says (SameInts0_any Aa m ca b X m d b _ RA.out (HX.out.grown (Nat.le_refl _) G.out))).mono ?_
    rintro e w9 ⟨he, k⟩
    rw [sameB_refl] at he
    subst he
    have G := Lib.hid (grown_trans G.out k)
    clear k
    go_wp2
    go_ret
    exact ⟨rfl, below_of G.out⟩

set_option maxHeartbeats 4000000 in
theorem CycleFlows_walk (V : Int) (A : Option Addr) (n c : Nat) (ls : List Lk) (X : Option Addr) (m d : Nat) (caps : List Int) (Y : Option Addr) (r e0 : Nat) (f : List Int) (s t : Int) (w : World) (h : InG w A n c ls) (hX : In w X m d caps) (hY : In w Y r e0 f) :
    Calls Try.prog 6 #[.agg #[.int .i64 V, .slice A n c], .slice X m d, .slice Y r e0, .int .i64 s, .int .i64 t] w (LawPost w) := by
  obtain ⟨hs, hnc, hc, hnil⟩ := h
  obtain ⟨hx, hpd, hd, hnilx⟩ := hX
  obtain ⟨hy, hqf, hf, hnily⟩ := hY
  have HR := Lib.hid hs
  have HL := Lib.hid hs.len
  have HX := Lib.hid hx
  have HY := Lib.hid hy
  have HG0 := Lib.hid (grow0 w (.cells #[.int .i64 V, .slice A n c] 24))
  clear hs hnil hx hnilx hy hnily
  go_enter Try.func6, Try.ntmps6
  go_wp2_with fail
  refine (RFlow_any V s t A n c ls X m d caps Y r e0 f _ (HR.out.grown (Nat.le_refl _) HG0.out) (by simp) (HX.out.grown (Nat.le_refl _) HG0.out) (by simp) (HY.out.grown (Nat.le_refl _) HG0.out) (by simp)).mono ?_
  rintro e w1 ⟨rfl, k⟩
  obtain ⟨g1, ob⟩ := box1 [.int .i64 V, .slice A n c] k
  have G := Lib.hid g1
  have OB := Lib.hid ob
  clear k ob g1 HG0
  obtain ⟨p0, p1⟩ := OB.out.two
  cases hfl : flowB V ls caps f s t
  · clear hfl
    go_wp2
    go_ret
    exact ⟨rfl, below_of G.out⟩
  have hfit : fitsF V ls caps f = true := by
    simp only [flowB, Bool.and_eq_true] at hfl
    exact hfl.1.1.1.1
  obtain ⟨hm, _, _, hcf⟩ := fits_parts hfit
  have h8 := may_small hm
  obtain ⟨vn, rfl⟩ : ∃ vn : Nat, V = (vn : Nat) := ⟨V.toNat, by omega⟩
  have HFL := Lib.hid hfl
  have HM := Lib.hid hm
  have HCF := Lib.hid hcf
  clear hfl hfit hm hcf
  go_wp2_with fail
  refine (Cancel_any (vn : Nat) A n c ls Y r e0 f _ (HR.out.grown (Nat.le_refl _) G.out) G.out.size (HY.out.grown (Nat.le_refl _) G.out) G.out.size).mono ?_
  rintro e w2 ⟨a, z, hb, v2, rfl, h2, k⟩
  obtain ⟨rfl, hl, hbb, hg⟩ : z = 0 ∧ a.length = ls.length ∧ (∀ i, i < ls.length → 0 ≤ a[i]?.getD 0 ∧ a[i]?.getD 0 ≤ f[i]?.getD 0) ∧ (∀ v : Nat, (v : Int) < (vn : Nat) → gainOf ls a (v : Int) = gainOf ls f (v : Int)) := by
    rcases hb with ⟨_, hz, hl, hb, hg, _⟩ | ⟨q, _⟩
    · exact ⟨hz, hl, hb, hg⟩
    · rw [HM.out, HCF.out] at q; cases q
  obtain ⟨hcA, _⟩ := cancel_caps HCF.out hl hbb
  have HCA := Lib.hid hcA
  obtain ⟨fl2, gg2⟩ := flow_below HFL.out hl hbb (fun v hv => hg v (by omega))
  have FL2 := Lib.hid fl2
  have GG2 := Lib.hid gg2
  have OKA := Lib.hid (caps_okI14 HM.out hcA)
  obtain ⟨Aa, ca, rfl, _, _, rA⟩ := h2.rowN OKA.out
  have RA := Lib.hid rA
  have G := Lib.hid (grown_trans G.out k)
  have OB := Lib.hid (OB.out.kept k)
  clear k p0 p1 hb h2 hl hbb hg hcA fl2 gg2 rA
  obtain ⟨p0, p1⟩ := OB.out.two
  generalize a.length = al at *
  have C1 : Hid (∀ wx : World, w2.grownBy wx none → Calls Try.prog 21 #[.agg #[.int .i64 (vn : Nat), .slice A n c], .slice X m d, .slice Aa al ca, .int .i64 s, .int .i64 t] wx (Says wx (.bool true))) := fun wx g => by
    have q := RFlow_any (vn : Nat) s t A n c ls X m d caps Aa al ca a wx (HR.out.grown (Nat.le_refl _) (grown_trans G.out g)) (grown_trans G.out g).size (HX.out.grown (Nat.le_refl _) (grown_trans G.out g)) (grown_trans G.out g).size (RA.out.grown (Nat.le_refl _) g) g.size
    rw [FL2.out] at q
    exact q
  have C2 : Hid (∀ wx : World, w2.grownBy wx none → Calls Try.prog 19 #[.agg #[.int .i64 (vn : Nat), .slice A n c], .slice Aa al ca, .int .i64 s] wx (Says wx (.int .i64 (gainOf ls f s)))) := fun wx g => by
    have q := RGain_any (vn : Nat) A n c ls Aa al ca a s wx (HR.out.grown (Nat.le_refl _) (grown_trans G.out g)) (RA.out.grown (Nat.le_refl _) g) HM.out HCA.out
    rw [GG2.out] at q
    exact q
  have C3 : Hid (∀ wx : World, w2.grownBy wx none → Calls Try.prog 19 #[.agg #[.int .i64 (vn : Nat), .slice A n c], .slice Y r e0, .int .i64 s] wx (Says wx (.int .i64 (gainOf ls f s)))) := fun wx g => RGain_any (vn : Nat) A n c ls Y r e0 f s wx (HR.out.grown (Nat.le_refl _) (grown_trans G.out g)) (HY.out.grown (Nat.le_refl _) (grown_trans G.out g)) HM.out HCF.out
  generalize gainOf ls f s = gv at *
  have qg : (gv == gv) = true := by simp
  have HS := Lib.hid (show (fun w' : World => w'.cell? ⟨w.heap.size, 0, none⟩ = some (.int .i64 (vn : Nat)) ∧ w'.cell? ⟨w.heap.size, 1, none⟩ = some (.slice A n c)) w2 from ⟨p0, p1⟩)
  have GK := Lib.hid (World.grownBy.refl w2 none)
  go_upto_region 4 with fail
  go_region_held3 (fun w' : World => w'.cell? ⟨w.heap.size, 0, none⟩ = some (.int .i64 (vn : Nat)) ∧ w'.cell? ⟨w.heap.size, 1, none⟩ = some (.slice A n c))
    (exact HS.out)
    (first
      | (go_at_call 11; refine (awake14_any _).mono ?_; rintro e w8 ⟨rfl, g⟩; have GK : Hid (w2.grownBy w8 none) := (by first | exact grown_trans GK.out g | exact grown_trans (grown_drew GK.out) g | exact grown_trans (grown_drewN GK.out _) g); have HS := Lib.hid (held2L g HS.out); clear g)
      | (go_at_call 12; refine (num_says _ _).mono ?_; rintro e w8 ⟨rfl, g⟩; have GK : Hid (w2.grownBy w8 none) := (by first | exact grown_trans GK.out g | exact grown_trans (grown_drew GK.out) g | exact grown_trans (grown_drewN GK.out _) g); have HS := Lib.hid (held2L g HS.out); clear g)
      | (go_at_call 21; refine (C1.out _ (by first | exact GK.out | exact grown_drew GK.out | exact grown_drewN GK.out _)).mono ?_; rintro e w8 ⟨rfl, g⟩; have GK : Hid (w2.grownBy w8 none) := (by first | exact grown_trans GK.out g | exact grown_trans (grown_drew GK.out) g | exact grown_trans (grown_drewN GK.out _) g); have HS := Lib.hid (held2L g HS.out); clear g)
      | (go_at_call 19; refine (C2.out _ (by first | exact GK.out | exact grown_drew GK.out | exact grown_drewN GK.out _)).mono ?_; clear C2; rintro e w8 ⟨rfl, g⟩; have GK : Hid (w2.grownBy w8 none) := (by first | exact grown_trans GK.out g | exact grown_trans (grown_drew GK.out) g | exact grown_trans (grown_drewN GK.out _) g); have HS := Lib.hid (held2L g HS.out); clear g)
      | (go_at_call 19; refine (C3.out _ (by first | exact GK.out | exact grown_drew GK.out | exact grown_drewN GK.out _)).mono ?_; clear C3; rintro e w8 ⟨rfl, g⟩; have GK : Hid (w2.grownBy w8 none) := (by first | exact grown_trans GK.out g | exact grown_trans (grown_drew GK.out) g | exact grown_trans (grown_drewN GK.out _) g); have HS := Lib.hid (held2L g HS.out); clear g))
  have G := Lib.hid (grown_trans G.out GK.out)
  clear GK HS C1 OB RA p0 p1
  go_wp2
  go_ret
  exact ⟨rfl, below_of (by first | exact G.out | exact grown_drew G.out | exact grown_drewN G.out _)⟩

end Go.Proofs.Ytefgnaldiggnnaa
