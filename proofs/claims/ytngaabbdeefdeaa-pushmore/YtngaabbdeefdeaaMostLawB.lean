/-
  The laws PushShut and PushMore, walked: less than was wanted, the sink can't be reached any more; more wanted is never less.
-/
import Derived.Test.YtngaabbdeefdeaaJB
namespace Go.Proofs.Ytngaabbdeefdeaa
open Go.RowKit

theorem flow_lvB {vn : Nat} {ls : List Lk} {caps f : List Int} {s t : Int} (h : flowB (vn : Nat) ls caps f s t = true) : lvB (vn : Nat) ls caps f s = true := by
  obtain ⟨h1, h2, _⟩ := flow_parts h
  rw [lvB, h1, Bool.true_and]
  exact isV_yes h2.1 h2.2

set_option maxRecDepth 20000 in
set_option maxHeartbeats 4000000 in
theorem PushShut_walk (V : Int) (A : Option Addr) (n c : Nat) (ls : List Lk) (X : Option Addr) (m d : Nat) (caps : List Int) (s t want : Int) (w : World) (h : InG w A n c ls) (hX : In w X m d caps) :
    Calls Try.prog 4 #[.agg #[.int .i64 V, .slice A n c], .slice X m d, .int .i64 s, .int .i64 t, .int .i64 want] w (LawPost w) := by
  obtain ⟨hs, hnc, hc, hnil⟩ := h
  obtain ⟨hx, hpd, hd, hnilx⟩ := hX
  have HR := Lib.hid hs
  have HL := Lib.hid hs.len
  have HX := Lib.hid hx
  have HG0 := Lib.hid (grow0 w (.cells #[.int .i64 V, .slice A n c] 24))
  clear hs hnil hx hnilx
  go_enter Try.func4, Try.ntmps4
  go_wp2_with fail
  refine (Push_any V s t want A n c ls X m d caps _ (HR.out.grown (Nat.le_refl _) HG0.out) (by simp) (HX.out.grown (Nat.le_refl _) HG0.out) (by simp)).mono ?_
  rintro e w1 ⟨b, kk, z, hb, v1, rfl, h1, k⟩
  obtain ⟨g1, ob⟩ := box1 [.int .i64 V, .slice A n c] k
  have G := Lib.hid g1
  have OB := Lib.hid ob
  have HB := Lib.hid hb
  have M1 := Lib.hid h1
  clear k ob g1 HG0 hb h1
  obtain ⟨p0, p1⟩ := OB.out.two
  unfold blkV
  go_wp2_with fail
  refine (num_says _ _).mono ?_
  rintro e w2 ⟨rfl, k⟩
  have G := Lib.hid (grown_trans G.out k)
  have OB := Lib.hid (OB.out.kept k)
  have M1 := Lib.hid (M1.out.kept k)
  clear k p0 p1
  obtain ⟨p0, p1⟩ := OB.out.two
  rcases HB.out with ⟨hp, rfl, hk⟩ | ⟨hp, rfl, rfl, rfl⟩
  case inr =>
    clear hp
    go_wp2
    go_ret
    exact ⟨rfl, below_of G.out⟩
  by_cases hkw : kk = want
  · have q : (kk == want) = true := by simp [hkw]
    clear hkw
    go_wp2
    go_ret
    exact ⟨rfl, below_of G.out⟩
  have q : (kk == want) = false := by simp [hkw]
  obtain ⟨hm, hcb, hs1, ht1, hne, m0, m1⟩ := pshB_parts hp
  have h8 := may_small hm
  obtain ⟨vn, rfl⟩ : ∃ vn : Nat, V = (vn : Nat) := ⟨V.toNat, by omega⟩
  obtain ⟨tn, rfl⟩ : ∃ tn : Nat, t = (tn : Nat) := ⟨t.toNat, by omega⟩
  rw [Int.toNat_natCast] at hk
  have htn : tn < vn := by omega
  obtain ⟨M, hM⟩ := lev_there (caps := caps) (f := b) hm rfl (flow_parts hk.flow).2.1
  have HLV : Hid (LvIs (vn : Nat) ls caps b s M 0) := lev_yes (flow_lvB hk.flow) rfl hM
  have OKM := Lib.hid (lvIs_okI HLV.out).1
  have hml := hM.len
  have hlt : lvAt M (tn : Int) < 0 := by
    rcases hk.shut with e | e
    · exact absurd e hkw
    · exact e M hM
  have hkh : kk < want := by have := hk.high; omega
  have OKB := Lib.hid (flow_okI hk.flow)
  obtain ⟨Ab, cb, rfl, _, _, rB⟩ := M1.out.rowN OKB.out
  have RB := Lib.hid rB
  clear hm hcb hs1 ht1 hne m0 m1 hk hM hp HB M1 rB hkw
  generalize b.length = bl at *
  go_wp2_with fail
  refine (RLevels_any (vn : Nat) s A n c ls X m d caps Ab bl cb b _ (HR.out.grown (Nat.le_refl _) G.out) G.out.size (HX.out.grown (Nat.le_refl _) G.out) G.out.size RB.out (Nat.le_refl _) M 0 HLV.out).mono ?_
  rintro e w3 ⟨v3, rfl, h3, k⟩
  obtain ⟨Am, cm, rfl, _, _, rM⟩ := h3.rowN OKM.out
  rw [hml] at rM ⊢
  have RM := Lib.hid rM
  have G := Lib.hid (grown_trans G.out k)
  clear k h3 rM p0 p1 OB RB
  go_wp2_with fail
  refine (awake12_any _).mono ?_
  rintro e w4 ⟨rfl, k⟩
  have RM := Lib.hid ((RM.out.grown (Nat.le_refl _) k).wide k.size)
  have G := Lib.hid (grown_trans G.out k)
  clear k
  obtain ⟨bm, offm, rfl, _, hcm⟩ := RM.out.at_ (by omega)
  have d0 := hcm tn htn
  rw [show M[tn]?.getD 0 = lvAt M (tn : Int) by simp [lvAt]] at d0
  clear hcm hml
  generalize lvAt M (tn : Int) = lt at *
  go_wp2
  go_ret
  exact ⟨rfl, below_of G.out⟩

set_option maxRecDepth 20000 in
set_option maxHeartbeats 4000000 in
theorem PushMore_walk (V : Int) (A : Option Addr) (n c : Nat) (ls : List Lk) (X : Option Addr) (m d : Nat) (caps : List Int) (s t a b : Int) (w : World) (h : InG w A n c ls) (hX : In w X m d caps) :
    Calls Try.prog 5 #[.agg #[.int .i64 V, .slice A n c], .slice X m d, .int .i64 s, .int .i64 t, .int .i64 a, .int .i64 b] w (LawPost w) := by
  obtain ⟨hs, hnc, hc, hnil⟩ := h
  obtain ⟨hx, hpd, hd, hnilx⟩ := hX
  have HR := Lib.hid hs
  have HX := Lib.hid hx
  have HG0 := Lib.hid (grow0 w (.cells #[.int .i64 V, .slice A n c] 24))
  clear hs hnil hx hnilx
  by_cases hab : b < a
  · go_enter Try.func5, Try.ntmps5
    go_wp2
    go_ret
    exact ⟨rfl, below_of HG0.out⟩
  go_enter Try.func5, Try.ntmps5
  go_wp2_with fail
  refine (Push_any V s t a A n c ls X m d caps _ (HR.out.grown (Nat.le_refl _) HG0.out) (by simp) (HX.out.grown (Nat.le_refl _) HG0.out) (by simp)).mono ?_
  rintro e w1 ⟨f, x, z, hb, v1, rfl, _, k⟩
  obtain ⟨g1, ob⟩ := box1 [.int .i64 V, .slice A n c] k
  have G := Lib.hid g1
  have OB := Lib.hid ob
  have HB := Lib.hid hb
  clear k ob g1 HG0 hb
  obtain ⟨p0, p1⟩ := OB.out.two
  unfold blkV
  go_wp2_with fail
  refine (Push_any V s t b A n c ls X m d caps _ (HR.out.grown (Nat.le_refl _) G.out) G.out.size (HX.out.grown (Nat.le_refl _) G.out) G.out.size).mono ?_
  rintro e w2 ⟨f2, y, z2, hb, v2, rfl, _, k⟩
  have G := Lib.hid (grown_trans G.out k)
  have HB2 := Lib.hid hb
  clear k hb p0 p1 OB
  unfold blkV
  go_wp2_with fail
  refine (num_says _ _).mono ?_
  rintro e w3 ⟨rfl, k⟩
  have G := Lib.hid (grown_trans G.out k)
  clear k
  rcases HB.out with ⟨_, rfl, hk⟩ | ⟨_, rfl, _, _⟩
  case inr =>
    go_wp2
    go_ret
    exact ⟨rfl, below_of G.out⟩
  go_wp2_with fail
  refine (num_says _ _).mono ?_
  rintro e w4 ⟨rfl, k⟩
  have G := Lib.hid (grown_trans G.out k)
  clear k
  rcases HB2.out with ⟨_, rfl, hk2⟩ | ⟨_, rfl, _, _⟩
  case inr =>
    clear hk
    go_wp2
    go_ret
    exact ⟨rfl, below_of G.out⟩
  obtain ⟨l1, l2, l3⟩ := psh_more hk hk2 (by omega)
  clear hk hk2 HB HB2
  go_wp2_with fail
  refine (awake12_any _).mono ?_
  rintro e w5 ⟨rfl, k⟩
  have G := Lib.hid (grown_trans G.out k)
  clear k
  by_cases e1 : x = a
  · have q1 : (x == a) = true := by simp [e1]
    clear l2 l3 e1
    by_cases e2 : y < a
    · go_wp2
      go_ret
      exact ⟨rfl, below_of G.out⟩
    · go_wp2
      go_ret
      exact ⟨rfl, below_of G.out⟩
  · have q1 : (x == a) = false := by simp [e1]
    have e2 : y < a := by omega
    have q2 : (x == y) = true := by simp; omega
    clear l2 l3 e1
    go_wp2
    go_ret
    exact ⟨rfl, below_of G.out⟩

end Go.Proofs.Ytngaabbdeefdeaa
