/-
  The law LevelFilled, walked: all filled, the levels are those of the turned graph when it is empty.
-/
import Derived.Test.YtmamnjnmcipjbaaLevelLawC
import Derived.Test.YtmamnjnmcipjbaaTurn
namespace Go.Proofs.Ytmamnjnmcipjbaa
open Go.RowKit

theorem lv_iff {V : Nat} {E E' : Int → Int → Prop} {s : Int} {M : List Int} (hE : ∀ u v, E u v ↔ E' u v) (h : IsLv V E s M) : IsLv V E' s M :=
  ⟨h.len, h.src, h.bd, h.zero, fun u v k => h.up u v ((hE u v).2 k), fun v hv k => by
    obtain ⟨u, hu, e⟩ := h.led v hv k
    exact ⟨u, (hE u v).1 hu, e⟩⟩

theorem zero_at (k i : Nat) : (List.replicate k (0 : Int))[i]?.getD 0 = 0 := by
  rw [List.getElem?_replicate]
  split <;> rfl

theorem full_B {V : Int} {ls : List Lk} {caps : List Int} {s : Int} (h1 : mayG V ls = true) (h2 : capsB ls caps = true) (h3 : isV V s = true) : lvB V ls caps caps s = true :=
  lvB_all h1 h2 (ratesB_mk rfl fun i hi => ⟨((capsB_parts h2).2 i (by have := (capsB_parts h2).1; omega)).1, Int.le_refl _⟩) h3

theorem zero_rates {ls : List Lk} {caps : List Int} (h2 : capsB ls caps = true) : ratesB caps (List.replicate caps.length 0) = true :=
  ratesB_mk (by simp) fun i hi => by
    have := ((capsB_parts h2).2 i (by have := (capsB_parts h2).1; omega)).1
    unfold capI at *
    rw [zero_at]
    omega

theorem turn_caps {ls : List Lk} {caps : List Int} (h : capsB ls caps = true) : capsB (turnK ls ls.length) caps = true := by
  obtain ⟨h1, h2⟩ := capsB_parts h
  refine capsB_all (by rw [turn_len]; exact h1) (List.all_eq_true.2 fun i hi => ?_)
  rw [List.mem_range] at hi
  have := h2 i (by omega)
  unfold capI at this
  unfold capB
  rw [turn_at ls _ i (by omega), if_pos (by omega)]
  simpa using this

theorem fill_leads {ls : List Lk} {caps : List Int} {n : Nat} (hl : ls.length = n) (u v : Int) : Leads ls caps caps (2 * n) u v ↔ Leads (turnK ls n) caps (List.replicate n 0) (2 * n) u v := by
  constructor
  · rintro ⟨a, ha, h2, h3, h4⟩
    rcases Nat.mod_two_eq_zero_or_one a with e | e
    · rw [room_even (i := a / 2) (by omega) (by omega)] at h4
      omega
    · obtain ⟨i, rfl⟩ : ∃ i, a = 2 * i + 1 := ⟨a / 2, by omega⟩
      rw [room_odd (i := i) (by omega) (by omega)] at h4
      obtain ⟨t1, _⟩ := tail_turn ls i (by omega)
      obtain ⟨g1, _⟩ := head_turn ls i (by omega)
      rw [hl] at t1 g1
      refine ⟨2 * i, by omega, t1.trans h2, g1.trans h3, ?_⟩
      rw [room_even (i := i) (by omega) (by omega), zero_at]
      omega
  · rintro ⟨a, ha, h2, h3, h4⟩
    rcases Nat.mod_two_eq_zero_or_one a with e | e
    · obtain ⟨i, rfl⟩ : ∃ i, a = 2 * i := ⟨a / 2, by omega⟩
      rw [room_even (i := i) (by omega) (by omega), zero_at] at h4
      obtain ⟨t1, _⟩ := tail_turn ls i (by omega)
      obtain ⟨g1, _⟩ := head_turn ls i (by omega)
      rw [hl] at t1 g1
      refine ⟨2 * i + 1, by omega, t1.symm.trans h2, g1.symm.trans h3, ?_⟩
      rw [room_odd (i := i) (by omega) (by omega)]
      omega
    · rw [room_odd (i := a / 2) (by omega) (by omega), zero_at] at h4
      omega

theorem fill_is {vn n : Nat} {ls : List Lk} {caps : List Int} {s : Int} {M : List Int} {z : Int} (hl : ls.length = n) (h1 : mayG (vn : Nat) ls = true) (h2 : capsB ls caps = true) (h3 : isV (vn : Nat) s = true) (h : LvIs (vn : Nat) ls caps caps s M z) :
    z = 0 ∧ LvIs (vn : Nat) (turnK ls n) caps (List.replicate n 0) s M 0 := by
  obtain ⟨hz, hi⟩ := lvIs_yes h (full_B h1 h2 h3)
  subst hl
  rw [Int.toNat_natCast] at hi
  have hc := (capsB_parts h2).1
  refine ⟨hz, lv_yes (n := ls.length) (lvB_all (may_turn h1) (turn_caps h2) ?_ h3) (turn_len _ _) (lv_iff (fill_leads rfl) hi)⟩
  have := zero_rates h2
  rw [hc] at this
  exact this

def TurnRel2 (w : World) (p r vn : Nat) (A : Option Addr) (n c : Nat) (ls : List Lk) (A1 : Option Addr) (c1 : Nat) (i : Value) (wr : World) : Prop :=
  ∃ (k : Nat), k ≤ n ∧ i = .int .i64 (k : Nat) ∧ w.grownBy wr none ∧ Own wr w.heap.size 24 [.int .i64 (vn : Nat), .slice A n c] ∧
    Own wr r 24 [.int .i64 (vn : Nat), .slice A1 n c1] ∧ MineE linkE wr p (.slice A1 n c1) n (turnK ls k)

set_option maxRecDepth 20000 in
set_option maxHeartbeats 4000000 in
theorem LevelFilled_walk (V : Int) (A : Option Addr) (n c : Nat) (ls : List Lk) (X : Option Addr) (m d : Nat) (caps : List Int) (s : Int) (w : World) (h : InG w A n c ls) (hX : In w X m d caps) :
    Calls Try.prog 5 #[.agg #[.int .i64 V, .slice A n c], .slice X m d, .int .i64 s] w (LawPost w) := by
  obtain ⟨hs, hnc, hc, hnil⟩ := h
  obtain ⟨hx, hpd, hd, hnilx⟩ := hX
  have HR := Lib.hid hs
  have HL := Lib.hid hs.len
  have HNIL := Lib.hid hnil
  have HX := Lib.hid hx
  have HLX := Lib.hid hx.len
  have HG0 := Lib.hid (grow0 w (.cells #[.int .i64 V, .slice A n c] 24))
  clear hs hnil hx hnilx
  go_enter Try.func5, Try.ntmps5
  go_wp2_with fail
  refine (RCaps_any V A n c ls X m d caps _ (HR.out.grown (Nat.le_refl _) HG0.out) (by simp) (HX.out.grown (Nat.le_refl _) HG0.out)).mono ?_
  rintro e w1 ⟨rfl, g1⟩
  obtain ⟨g, o2⟩ := box1 [.int .i64 V, .slice A n c] g1
  have G := Lib.hid g
  have OB := Lib.hid o2
  have l1 := o2.lt
  clear g g1 o2 HG0
  cases hf : (mayG V ls && capsB ls caps)
  · clear hf
    go_wp2
    go_ret
    exact ⟨rfl, below_of G.out⟩
  rw [Bool.and_eq_true] at hf
  have HF := Lib.hid hf
  have h16 := may_small hf.1
  rw [HL.out] at h16
  have hmn : m = n := by have := (capsB_parts hf.2).1; have := HL.out; have := HLX.out; omega
  subst hmn
  obtain ⟨vn, rfl⟩ : ∃ vn : Nat, V = (vn : Nat) := ⟨V.toNat, by omega⟩
  clear hf
  obtain ⟨p0, p1⟩ := OB.out.two
  by_cases h0 : s < 0
  · go_wp2
    go_ret
    exact ⟨rfl, below_of G.out⟩
  by_cases h1 : s < (vn : Int)
  case neg =>
    go_wp2
    go_ret
    exact ⟨rfl, below_of G.out⟩
  have HS0 : Hid (isV (vn : Nat) s = true) := isV_yes (by omega) h1
  go_wp2_with fail
  refine (CopyGraph_any _ A m c ls _ (HR.out.grown (Nat.le_refl _) G.out) G.out.size HNIL.out (by omega)).mono ?_
  rintro e w2 ⟨x, rfl, mx, k⟩
  have s2 := k.size
  have hge := mx.own_ge
  have hlt := mx.own_lt
  obtain ⟨A1, c1, rfl, _, _, _⟩ := mx.row
  have k' := grown_trans k (grow0 w2 (.cells #[.int .i64 (vn : Nat), .slice A1 m c1] 24))
  have HS : Hid (TurnRel2 w w1.heap.size w2.heap.size vn A m c ls A1 c1 (.int .i64 0) (w2.alloc (.cells #[.int .i64 (vn : Nat), .slice A1 m c1] 24))) :=
    ⟨0, Nat.zero_le _, rfl, grown_trans G.out k', OB.out.kept k', Own.new w2 24 [.int .i64 (vn : Nat), .slice A1 m c1], mx.kept (grow0 w2 (.cells #[.int .i64 (vn : Nat), .slice A1 m c1] 24))⟩
  clear mx k k' G OB p0 p1
  go_wp2
  go_loopw [8] (fun i wr => TurnRel2 w w1.heap.size w2.heap.size vn A m c ls A1 c1 i wr) (fun i _ => m - (intOf i).toNat)
  case atStart => exact HS.out
  case round =>
    clear HS
    obtain ⟨k, hk, rfl, hg, ob, ox, mx⟩ := hrel
    have G := Lib.hid hg
    have s1 := hg.size
    have OB := Lib.hid ob
    have OX := Lib.hid ox
    have MX := Lib.hid mx
    have l2 := ox.lt
    obtain ⟨p0, p1⟩ := OB.out.two
    obtain ⟨q0, q1⟩ := OX.out.two
    by_cases hkn : k < m
    · obtain ⟨gx, cx', hA, _, _, re⟩ := mx.shape (by omega)
      injection hA with hA _ hcx
      subst hA hcx
      have g0 := hge gx rfl
      have g1 := hlt gx rfl
      obtain ⟨b2, off2, hA2, hb2, hcell2⟩ := HR.out.cells (by omega)
      subst hA2
      obtain ⟨d0, d1, _⟩ := hcell2 k hkn
      have d0 := kept hg d0
      have d1 := kept hg d1
      have th := turn_here (ls := ls) (k := k) (by rw [HL.out]; exact hkn)
      have lx : Lks wr wr.heap.size (some ⟨gx, 0, none⟩) m (turnK ls k) := ⟨re, turn_ok bd64 HR.out.ok k⟩
      obtain ⟨bx, offx, hAx, _, hcellx⟩ := lx.cells (by omega)
      injection hAx with hAx
      injection hAx with e1 e2
      subst e1 e2
      obtain ⟨x0, x1, _⟩ := hcellx k hkn
      have hat : at3 (turnK ls k) k = at3 ls k := by have := turn_at ls k k (by rw [HL.out]; exact hkn); rw [if_neg (by omega)] at this; exact this
      rw [hat, Nat.zero_add] at x0 x1
      have TN := Lib.hid (turn_next (ls := ls) (k := k))
      have TH := Lib.hid th
      have f0 := mx.frozen (k * 3)
      clear hcell2 hcellx lx re hg ob ox mx th hat
      generalize at3 ls k = l at *
      obtain ⟨f, t, cp⟩ := l
      simp only at d0 d1 x0 x1
      go_upto_region 7 with fail
      go_still_tail 11, (by kernel_rfl)
      go_wp2_with fail
      have k3 : wr.grownBy (wr.setCell ⟨gx, k * 3, none⟩ (.int .i64 t)).drew (some gx) := grown_drew (grown_set (World.grownBy.refl wr _) _)
      have G := Lib.hid (grown_none G.out k3 (fun g hg => by injection hg with hg; omega))
      have OB := Lib.hid (OB.out.kept' k3 (fun e => by injection e with e; omega))
      have OX := Lib.hid (OX.out.kept' k3 (fun e => by injection e with e; omega))
      have MX : Hid (MineE linkE (wr.setCell ⟨gx, k * 3, none⟩ (.int .i64 t)).drew w1.heap.size (.slice (some ⟨gx, 0, none⟩) m c1) m ((turnK ls k).set k (t, t, cp))) := (MX.out.put k 0 (f, t, cp) (t, t, cp) (.int .i64 t) TH.out (by decide) rfl).kept (grown_drew (World.grownBy.refl _ none))
      have x1 : (wr.setCell ⟨gx, k * 3, none⟩ (.int .i64 t)).drew.cell? ⟨gx, k * 3 + 1, none⟩ = some (.int .i64 t) := (World.cell?_setCell_other _ _ _ _ (by simp)).trans x1
      have d0 : (wr.setCell ⟨gx, k * 3, none⟩ (.int .i64 t)).drew.cell? ⟨b2, off2 + k * 3, none⟩ = some (.int .i64 f) := other_get (by omega) d0
      have s3 : (wr.setCell ⟨gx, k * 3, none⟩ (.int .i64 t)).drew.heap.size = wr.heap.size := by simp [World.setCell]
      have TH : Hid (((turnK ls k).set k (t, t, cp))[k]? = some (t, t, cp)) := List.getElem?_set_self (by rw [turn_len, HL.out]; exact hkn)
      have f1 := MX.out.frozen (k * 3 + 1)
      clear k3 f0 p0 p1 q0 q1
      generalize (wr.setCell ⟨gx, k * 3, none⟩ (.int .i64 t)).drew = w5 at *
      obtain ⟨p0, p1⟩ := OB.out.two
      obtain ⟨q0, q1⟩ := OX.out.two
      go_still_tail 11, (by kernel_rfl)
      go_wp2
      have k3 : w5.grownBy (w5.setCell ⟨gx, k * 3 + 1, none⟩ (.int .i64 f)).drew (some gx) := grown_drew (grown_set (World.grownBy.refl w5 _) _)
      go_roundw
      case rel => exact ⟨k + 1, by omega, by go_num, grown_none G.out k3 (fun g hg => by injection hg with hg; omega), OB.out.kept' k3 (fun e => by injection e with e; omega), OX.out.kept' k3 (fun e => by injection e with e; omega), by rw [← TN.out]; exact (MX.out.put k 1 (t, t, cp) (t, f, cp) (.int .i64 f) TH.out (by decide) rfl).kept (grown_drew (World.grownBy.refl _ none))⟩
      case measure => simp [intOf]; omega
    · obtain rfl : m = k := by omega
      obtain ⟨A', c', hv, _, _, re⟩ := mx.row
      injection hv with e1 _ e3
      subst e1 e3
      have LX : Hid (Lks wr wr.heap.size A1 m (turnK ls m)) := ⟨re, turn_ok bd64 HR.out.ok m⟩
      clear re hg ob ox mx MX hge hlt
      go_wp2_with fail
      refine (Levels_any (vn : Nat) s A m c ls X m d caps X m d caps _ (HR.out.grown (Nat.le_refl _) G.out) G.out.size (HX.out.grown (Nat.le_refl _) G.out) G.out.size (HX.out.grown (Nat.le_refl _) G.out) G.out.size).mono ?_
      rintro e w5 ⟨M, z, hM, va, rfl, ha, k5⟩
      obtain ⟨rfl, hT⟩ := fill_is HL.out HF.out.1 HF.out.2 HS0.out hM
      have OKM := Lib.hid (lvIs_okI hM).1
      have HT := Lib.hid hT
      obtain ⟨Aa, ca, rfl, _, hna, ra⟩ := ha.rowN OKM.out
      have RA := Lib.hid ra
      have LX := Lib.hid (LX.out.grown (Nat.le_refl _) k5)
      have OX := Lib.hid (OX.out.kept k5)
      have G := Lib.hid (grown_trans G.out k5)
      have s5 := k5.size
      clear k5 ha ra hM hT p0 p1 OB q0 q1
      obtain ⟨q0, q1⟩ := OX.out.two
      obtain ⟨i0, hi, hz0, hz1, hz2⟩ := info_parts info3
      obtain ⟨w6, hrun, hmk, k6⟩ := run_make_full (P := Try.prog) w5.drew w5.drew.heap.size 25 3 i0 (.int .i64 0) 1 Try.underlying25 hi hz0 hz1 .i64 .i64 m (by rw [hz2]; omega) (by unfold maxLen; omega) (Nat.le_refl _)
      rw [show (Value.int .i64 0).cells = #[Value.int .i64 0] from rfl, Nat.mul_one, toList_madeCells_one, ints_zero] at hmk
      have k6' := grown_undrew k6
      have OZ : Hid (Own w6 w5.heap.size 3 (ints (List.replicate m 0))) := Own.of_made hmk
      have RZ := Lib.hid (Own.rowW (n := m) (List.replicate m 0) OZ.out (by simp) (by simp; omega) (get_ok fun x hx => by rw [List.eq_of_mem_replicate hx]; omega))
      have q0' := kept k6' q0
      have q1' := kept k6' q1
      have s6 := k6'.size
      have RA := Lib.hid (RA.out.grown (Nat.le_refl _) k6')
      have LX := Lib.hid (LX.out.grown s5 k6')
      have G := Lib.hid (grown_trans G.out k6')
      have CL := Lib.hid (Levels_is (vn : Nat) s A1 m c1 (turnK ls m) X m d caps (some ⟨w5.heap.size, 0, none⟩) m m (List.replicate m 0) w6 LX.out (by omega) (HX.out.grown (Nat.le_refl _) G.out) G.out.size RZ.out (Nat.le_refl _) M 0 HT.out)
      clear hi hz0 hz1 hz2 hmk k6 k6' OZ RZ LX
      have hrun' : (Instr.makeSlice 25 (.int .i64 (m : Nat)) (.int .i64 (m : Nat))).run Try.prog w5.drew = .ok (.slice (some ⟨w5.heap.size, 0, none⟩) m m) w6 := hrun
      clear hrun
      go_upto_region 10 with fail
      go_region_law (first | (go_simp; go_at_call 9; refine (CL.out).mono ?_; rintro e w7 ⟨vb, rfl, hb, k7⟩; obtain ⟨Ab, cb, rfl, _, _, rb⟩ := hb.rowN OKM.out; have RB := Lib.hid rb; have RA := Lib.hid (RA.out.grown (by omega) k7); have G := Lib.hid (grown_trans G.out k7); have s7 := k7.size; clear k7 hb rb))
      all_goals go_wp2_with fail
      all_goals refine (awake10_any _).mono ?_
      all_goals rintro e w8 ⟨rfl, k8⟩
      all_goals have RB := Lib.hid (RB.out.grown (Nat.le_refl _) k8)
      all_goals have RA := Lib.hid (RA.out.grown (by omega) k8)
      all_goals have G := Lib.hid (grown_trans G.out k8)
      all_goals have s8 := k8.size
      all_goals clear k8
      all_goals go_wp2_with fail
      all_goals refine (num_says _ _).mono ?_
      all_goals rintro e w9 ⟨rfl, k9⟩
      all_goals have RB := Lib.hid (RB.out.grown (by omega) k9)
      all_goals have RA := Lib.hid (RA.out.grown (by omega) k9)
      all_goals have G := Lib.hid (grown_trans G.out k9)
      all_goals have s9 := k9.size
      all_goals clear k9
      all_goals go_wp2_with fail
      all_goals refine (num_says _ _).mono ?_
      all_goals rintro e w10 ⟨rfl, k10⟩
      all_goals have RB := Lib.hid (RB.out.grown (by omega) k10)
      all_goals have RA := Lib.hid (RA.out.grown (by omega) k10)
      all_goals have G := Lib.hid (grown_trans G.out k10)
      all_goals clear k10
      all_goals go_wp2_with fail
      all_goals refine (same_says (SameInts0_any Aa M.length ca M Ab M.length cb M _ RA.out RB.out)).mono ?_
      all_goals rintro e w11 ⟨he, k11⟩
      all_goals rw [sameB_refl] at he
      all_goals subst he
      all_goals have G := Lib.hid (grown_trans G.out k11)
      all_goals clear k11
      all_goals go_wp2
      all_goals go_ret
      all_goals exact ⟨rfl, below_of G.out⟩

end Go.Proofs.Ytmamnjnmcipjbaa
