/-
  The law PushTurned, walked: all links turned, from the sink to the source, as much goes.
-/
import Derived.Test.YtngaabbdeefdeaaJB
import Derived.Test.YtngaabbdeefdeaaTurn
namespace Go.Proofs.Ytngaabbdeefdeaa
open Go.RowKit

def TurnRel2 (w : World) (p r vn : Nat) (A : Option Addr) (n c : Nat) (ls : List Lk) (A1 : Option Addr) (c1 : Nat) (i : Value) (wr : World) : Prop :=
  ∃ (k : Nat), k ≤ n ∧ i = .int .i64 (k : Nat) ∧ w.grownBy wr none ∧ Own wr w.heap.size 24 [.int .i64 (vn : Nat), .slice A n c] ∧
    Own wr r 24 [.int .i64 (vn : Nat), .slice A1 n c1] ∧ MineE linkE wr p (.slice A1 n c1) n (turnK ls k)

set_option maxRecDepth 20000 in
set_option maxHeartbeats 4000000 in
theorem PushTurned_walk (V : Int) (A : Option Addr) (n c : Nat) (ls : List Lk) (X : Option Addr) (m d : Nat) (caps : List Int) (s t want : Int) (w : World) (h : InG w A n c ls) (hX : In w X m d caps) :
    Calls Try.prog 6 #[.agg #[.int .i64 V, .slice A n c], .slice X m d, .int .i64 s, .int .i64 t, .int .i64 want] w (LawPost w) := by
  obtain ⟨hs, hnc, hc, hnil⟩ := h
  obtain ⟨hx, hpd, hd, hnilx⟩ := hX
  have HR := Lib.hid hs
  have HL := Lib.hid hs.len
  have HNIL := Lib.hid hnil
  have HX := Lib.hid hx
  have HG0 := Lib.hid (grow0 w (.cells #[.int .i64 V, .slice A n c] 24))
  clear hs hnil hx hnilx
  go_enter Try.func6, Try.ntmps6
  go_wp2_with fail
  refine (Push_any V s t want A n c ls X m d caps _ (HR.out.grown (Nat.le_refl _) HG0.out) (by simp) (HX.out.grown (Nat.le_refl _) HG0.out) (by simp)).mono ?_
  rintro e w1 ⟨b, kk, z, hb, v1, rfl, _, k⟩
  obtain ⟨g1, ob⟩ := box1 [.int .i64 V, .slice A n c] k
  have G := Lib.hid g1
  have OB := Lib.hid ob
  have HB := Lib.hid hb
  clear k ob g1 HG0 hb
  obtain ⟨p0, p1⟩ := OB.out.two
  unfold blkV
  go_wp2_with fail
  refine (num_says _ _).mono ?_
  rintro e w2 ⟨rfl, k⟩
  have G := Lib.hid (grown_trans G.out k)
  have OB := Lib.hid (OB.out.kept k)
  clear k p0 p1
  obtain ⟨p0, p1⟩ := OB.out.two
  rcases HB.out with ⟨hp, rfl, hk⟩ | ⟨_, rfl, rfl, rfl⟩
  case inr =>
    go_wp2
    go_ret
    exact ⟨rfl, below_of G.out⟩
  obtain ⟨hm, hcb, hs1, ht1, hne, m0, m1⟩ := pshB_parts hp
  have h16 := may_small hm
  rw [HL.out] at h16
  obtain ⟨vn, rfl⟩ : ∃ vn : Nat, V = (vn : Nat) := ⟨V.toNat, by omega⟩
  have HK := Lib.hid hk
  have HPT : Hid (pshB (vn : Nat) (turnK ls n) caps t s want = true) := by
    have e := HL.out
    subst e
    exact pshB_mk (may_turn hm) (capsB_turn hcb) ht1 hs1 (fun e => hne e.symm) m0 m1
  clear hp hk hm hcb hs1 ht1 hne m0 m1 HB
  go_wp2_with fail
  refine (CopyGraph_any _ A n c ls _ (HR.out.grown (Nat.le_refl _) G.out) G.out.size HNIL.out (by omega)).mono ?_
  rintro e w3 ⟨x, rfl, mx, k⟩
  have s2 := k.size
  have l1 := OB.out.lt
  have hge := mx.own_ge
  have hlt := mx.own_lt
  obtain ⟨A1, c1, rfl, _, _, _⟩ := mx.row
  have k' := grown_trans k (grow0 w3 (.cells #[.int .i64 (vn : Nat), .slice A1 n c1] 24))
  have HS : Hid (TurnRel2 w w2.heap.size w3.heap.size vn A n c ls A1 c1 (.int .i64 0) (w3.alloc (.cells #[.int .i64 (vn : Nat), .slice A1 n c1] 24))) :=
    ⟨0, Nat.zero_le _, rfl, grown_trans G.out k', OB.out.kept k', Own.new w3 24 [.int .i64 (vn : Nat), .slice A1 n c1], mx.kept (grow0 w3 (.cells #[.int .i64 (vn : Nat), .slice A1 n c1] 24))⟩
  clear mx k k' G OB p0 p1
  go_wp2
  go_loopw [15] (fun i wr => TurnRel2 w w2.heap.size w3.heap.size vn A n c ls A1 c1 i wr) (fun i _ => n - (intOf i).toNat)
  case atStart => exact HS.out
  case round =>
    clear HS
    obtain ⟨k, hk, rfl, hg, ob, ox, mx⟩ := hrel
    have G := Lib.hid hg
    have s1 := hg.size
    have OB := Lib.hid ob
    have OX := Lib.hid ox
    have MX := Lib.hid mx
    have l2 := ox.lt
    obtain ⟨p0, p1⟩ := OB.out.two
    obtain ⟨q0, q1⟩ := OX.out.two
    by_cases hkn : k < n
    · obtain ⟨gx, cx', hA, _, _, re⟩ := mx.shape (by omega)
      injection hA with hA _ hcx
      subst hA hcx
      have g0 := hge gx rfl
      have g1 := hlt gx rfl
      obtain ⟨b2, off2, hA2, hb2, hcell2⟩ := HR.out.cells (by omega)
      subst hA2
      obtain ⟨d0, d1, _⟩ := hcell2 k hkn
      have d0 := kept hg d0
      have d1 := kept hg d1
      have th := turn_here (ls := ls) (k := k) (by rw [HL.out]; exact hkn)
      have lx : Lks wr wr.heap.size (some ⟨gx, 0, none⟩) n (turnK ls k) := ⟨re, turn_ok bd64 HR.out.ok k⟩
      obtain ⟨bx, offx, hAx, _, hcellx⟩ := lx.cells (by omega)
      injection hAx with hAx
      injection hAx with e1 e2
      subst e1 e2
      obtain ⟨x0, x1, _⟩ := hcellx k hkn
      have hat : at3 (turnK ls k) k = at3 ls k := by have := turn_at ls k k (by rw [HL.out]; exact hkn); rw [if_neg (by omega)] at this; exact this
      rw [hat, Nat.zero_add] at x0 x1
      have TN := Lib.hid (turn_next (ls := ls) (k := k))
      have TH := Lib.hid th
      have f0 := mx.frozen (k * 3)
      clear hcell2 hcellx lx re hg ob ox mx th hat
      generalize at3 ls k = l at *
      obtain ⟨f, t, cp⟩ := l
      simp only at d0 d1 x0 x1
      go_upto_region 8 with fail
      go_still_tail 11, (by kernel_rfl)
      go_wp2_with fail
      have k3 : wr.grownBy (wr.setCell ⟨gx, k * 3, none⟩ (.int .i64 t)).drew (some gx) := grown_drew (grown_set (World.grownBy.refl wr _) _)
      have G := Lib.hid (grown_none G.out k3 (fun g hg => by injection hg with hg; omega))
      have OB := Lib.hid (OB.out.kept' k3 (fun e => by injection e with e; omega))
      have OX := Lib.hid (OX.out.kept' k3 (fun e => by injection e with e; omega))
      have MX : Hid (MineE linkE (wr.setCell ⟨gx, k * 3, none⟩ (.int .i64 t)).drew w2.heap.size (.slice (some ⟨gx, 0, none⟩) n c1) n ((turnK ls k).set k (t, t, cp))) := (MX.out.put k 0 (f, t, cp) (t, t, cp) (.int .i64 t) TH.out (by decide) rfl).kept (grown_drew (World.grownBy.refl _ none))
      have x1 : (wr.setCell ⟨gx, k * 3, none⟩ (.int .i64 t)).drew.cell? ⟨gx, k * 3 + 1, none⟩ = some (.int .i64 t) := (World.cell?_setCell_other _ _ _ _ (by simp)).trans x1
      have d0 : (wr.setCell ⟨gx, k * 3, none⟩ (.int .i64 t)).drew.cell? ⟨b2, off2 + k * 3, none⟩ = some (.int .i64 f) := other_get (by omega) d0
      have s3 : (wr.setCell ⟨gx, k * 3, none⟩ (.int .i64 t)).drew.heap.size = wr.heap.size := by simp [World.setCell]
      have TH : Hid (((turnK ls k).set k (t, t, cp))[k]? = some (t, t, cp)) := List.getElem?_set_self (by rw [turn_len, HL.out]; exact hkn)
      have f1 := MX.out.frozen (k * 3 + 1)
      clear k3 f0 p0 p1 q0 q1
      generalize (wr.setCell ⟨gx, k * 3, none⟩ (.int .i64 t)).drew = w5 at *
      obtain ⟨p0, p1⟩ := OB.out.two
      obtain ⟨q0, q1⟩ := OX.out.two
      go_still_tail 11, (by kernel_rfl)
      go_wp2
      have k3 : w5.grownBy (w5.setCell ⟨gx, k * 3 + 1, none⟩ (.int .i64 f)).drew (some gx) := grown_drew (grown_set (World.grownBy.refl w5 _) _)
      go_roundw
      case rel => exact ⟨k + 1, by omega, by go_num, grown_none G.out k3 (fun g hg => by injection hg with hg; omega), OB.out.kept' k3 (fun e => by injection e with e; omega), OX.out.kept' k3 (fun e => by injection e with e; omega), by rw [← TN.out]; exact (MX.out.put k 1 (t, t, cp) (t, f, cp) (.int .i64 f) TH.out (by decide) rfl).kept (grown_drew (World.grownBy.refl _ none))⟩
      case measure => simp [intOf]; omega
    · obtain rfl : n = k := by omega
      obtain ⟨A', c', hv, _, _, re⟩ := mx.row
      injection hv with e1 _ e3
      subst e1 e3
      have LX : Hid (Lks wr wr.heap.size A1 n (turnK ls n)) := ⟨re, turn_ok bd64 HR.out.ok n⟩
      clear re hg ob ox mx MX hge hlt p0 p1 OB
      go_wp2_with fail
      refine (Push_any (vn : Nat) t s want A1 n c1 (turnK ls n) X m d caps _ LX.out (Nat.le_refl _) (HX.out.grown (Nat.le_refl _) G.out) G.out.size).mono ?_
      rintro e w5 ⟨b5, j, z5, hb5, v5, rfl, _, k5⟩
      have G := Lib.hid (grown_trans G.out k5)
      obtain ⟨rfl, hj⟩ := push_yes hb5 HPT.out
      have hjk : j = kk := by
        have e := HL.out
        subst e
        exact psh_turn HK.out hj
      have q5 : (j == kk) = true := by simp [hjk]
      clear k5 hb5 hj hjk q0 q1 OX LX
      unfold blkV
      go_wp2_with fail
      refine (awake12_any _).mono ?_
      rintro e w6 ⟨rfl, k6⟩
      have G := Lib.hid (grown_trans G.out k6)
      clear k6
      go_wp2_with fail
      refine (num_says _ _).mono ?_
      rintro e w7 ⟨rfl, k7⟩
      have G := Lib.hid (grown_trans G.out k7)
      clear k7
      go_wp2
      go_ret
      exact ⟨rfl, below_of G.out⟩

end Go.Proofs.Ytngaabbdeefdeaa
