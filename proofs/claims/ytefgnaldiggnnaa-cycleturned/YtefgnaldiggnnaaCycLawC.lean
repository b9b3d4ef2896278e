/-
  The law CycleTurned, walked: all links turned, a cycle just if there was one.
-/
import Derived.Test.YtefgnaldiggnnaaCycG
import Derived.Test.YtefgnaldiggnnaaTurn
set_option maxRecDepth 20000
namespace Go.Proofs.Ytefgnaldiggnnaa
open Go.RowKit

def TurnRel2 (w : World) (p r vn : Nat) (A : Option Addr) (n c : Nat) (ls : List Lk) (A1 : Option Addr) (c1 : Nat) (i : Value) (wr : World) : Prop :=
  ∃ (k : Nat), k ≤ n ∧ i = .int .i64 (k : Nat) ∧ w.grownBy wr none ∧ Own wr w.heap.size 24 [.int .i64 (vn : Nat), .slice A n c] ∧
    Own wr r 24 [.int .i64 (vn : Nat), .slice A1 n c1] ∧ MineE linkE wr p (.slice A1 n c1) n (turnK ls k)

theorem turn_back (L : List Lk) : turnK (turnK L L.length) L.length = L := by
  have e : turnK (turnK L L.length) (turnK L L.length).length = L := by
    rw [turn_map, turn_map, List.map_map]
    have : turnL ∘ turnL = id := by funext l; rfl
    rw [this, List.map_id]
  rw [turn_len] at e
  exact e

theorem caps_turn14 {L : List Lk} {f : List Int} (h : capsB L f = true) : capsB (turnK L L.length) f = true := by
  obtain ⟨h1, h2⟩ := capsB_parts h
  refine capsB_all (by rw [turn_len]; exact h1) ?_
  rw [List.all_eq_true]
  intro i hi
  rw [List.mem_range, h1] at hi
  have := h2 i hi
  unfold capI at this
  rw [capB, turn_at L _ i hi, if_pos hi]
  simp only [Bool.and_eq_true, decide_eq_true_eq]
  exact this

theorem find_turn {vn : Nat} {L : List Lk} {f ks ks2 : List Int} {is is2 : Bool} {z2 : Int} (hf : (mayG (vn : Nat) L && capsB L f) = true) (h : (is = true ∧ TurnsIs L f ks) ∨ (is = false ∧ ks = [] ∧ ¬ CycP L f)) (h2 : FindIs (vn : Nat) (turnK L L.length) f ks2 is2 z2) : z2 = 0 ∧ is2 = is := by
  rw [Bool.and_eq_true] at hf
  rcases h2 with ⟨_, hz, q⟩ | ⟨q, _⟩
  · refine ⟨hz, ?_⟩
    rcases h with ⟨rfl, ht⟩ | ⟨rfl, _, hn⟩
    · rcases q with ⟨hi, _⟩ | ⟨_, _, hn⟩
      · exact hi
      · exact absurd (cyc_turn (turns_cyc ht)) hn
    · rcases q with ⟨_, ht⟩ | ⟨hi, _⟩
      · have c := cyc_turn (turns_cyc ht)
        rw [turn_len, turn_back] at c
        exact absurd c hn
      · exact hi
  · rw [may_turn hf.1, caps_turn14 hf.2] at q; cases q

set_option maxHeartbeats 4000000 in
theorem CycleTurned_walk (V : Int) (A : Option Addr) (n c : Nat) (ls : List Lk) (X : Option Addr) (m d : Nat) (f0 : List Int) (w : World) (h : InG w A n c ls) (hX : In w X m d f0) :
    Calls Try.prog 7 #[.agg #[.int .i64 V, .slice A n c], .slice X m d] w (LawPost w) := by
  obtain ⟨hs, hnc, hc, hnil⟩ := h
  obtain ⟨hx, hpd, hd, hnilx⟩ := hX
  have HR := Lib.hid hs
  have HL := Lib.hid hs.len
  have HNIL := Lib.hid hnil
  have HX := Lib.hid hx
  have HG0 := Lib.hid (grow0 w (.cells #[.int .i64 V, .slice A n c] 24))
  clear hs hnil hx hnilx
  go_enter Try.func7, Try.ntmps7
  go_wp2_with fail
  refine (Find_any V A n c ls X m d f0 _ (HR.out.grown (Nat.le_refl _) HG0.out) (by simp) (HX.out.grown (Nat.le_refl _) HG0.out) (by simp)).mono ?_
  rintro e w1 ⟨ks, is, z, hb, v1, rfl, _, k⟩
  obtain ⟨g1, ob⟩ := box1 [.int .i64 V, .slice A n c] k
  have G := Lib.hid g1
  have OB := Lib.hid ob
  have HB := Lib.hid hb
  clear k ob g1 HG0 hb
  obtain ⟨p0, p1⟩ := OB.out.two
  go_wp2_with fail
  refine (num_says _ _).mono ?_
  rintro e w2 ⟨rfl, k⟩
  have G := Lib.hid (grown_trans G.out k)
  have OB := Lib.hid (OB.out.kept k)
  clear k p0 p1
  obtain ⟨p0, p1⟩ := OB.out.two
  rcases HB.out with ⟨hp, rfl, hk⟩ | ⟨_, rfl, rfl, rfl⟩
  case inr =>
    go_wp2
    go_ret
    exact ⟨rfl, below_of G.out⟩
  have hm : mayG V ls = true := by rw [Bool.and_eq_true] at hp; exact hp.1
  have h16 := may_small hm
  rw [HL.out] at h16
  obtain ⟨vn, rfl⟩ : ∃ vn : Nat, V = (vn : Nat) := ⟨V.toNat, by omega⟩
  have FT : Hid (∀ ks2 is2 z2, FindIs (vn : Nat) (turnK ls n) f0 ks2 is2 z2 → z2 = 0 ∧ is2 = is) := fun ks2 is2 z2 q => by
    have e := HL.out
    subst e
    exact find_turn hp hk q
  clear hp hk hm HB
  go_wp2_with fail
  refine (CopyGraph_any _ A n c ls _ (HR.out.grown (Nat.le_refl _) G.out) G.out.size HNIL.out (by omega)).mono ?_
  rintro e w3 ⟨x, rfl, mx, k⟩
  have s2 := k.size
  have l1 := OB.out.lt
  have hge := mx.own_ge
  have hlt := mx.own_lt
  obtain ⟨A1, c1, rfl, _, _, _⟩ := mx.row
  have k' := grown_trans k (grow0 w3 (.cells #[.int .i64 (vn : Nat), .slice A1 n c1] 24))
  have HS : Hid (TurnRel2 w w2.heap.size w3.heap.size vn A n c ls A1 c1 (.int .i64 0) (w3.alloc (.cells #[.int .i64 (vn : Nat), .slice A1 n c1] 24))) :=
    ⟨0, Nat.zero_le _, rfl, grown_trans G.out k', OB.out.kept k', Own.new w3 24 [.int .i64 (vn : Nat), .slice A1 n c1], mx.kept (grow0 w3 (.cells #[.int .i64 (vn : Nat), .slice A1 n c1] 24))⟩
  clear mx k k' G OB p0 p1
  generalize w2.heap.size = wb at *
  go_wp2
  go_loopw [9] (fun i wr => TurnRel2 w wb w3.heap.size vn A n c ls A1 c1 i wr) (fun i _ => n - (intOf i).toNat)
  case atStart => exact HS.out
  case round =>
    clear HS
    obtain ⟨k, hk, rfl, hg, ob, ox, mx⟩ := hrel
    have G := Lib.hid hg
    have s1 := hg.size
    have OB := Lib.hid ob
    have OX := Lib.hid ox
    have MX := Lib.hid mx
    have l2 := ox.lt
    obtain ⟨p0, p1⟩ := OB.out.two
    obtain ⟨q0, q1⟩ := OX.out.two
    by_cases hkn : k < n
    · obtain ⟨gx, cx', hA, _, _, re⟩ := mx.shape (by omega)
      injection hA with hA _ hcx
      subst hA hcx
      have g0 := hge gx rfl
      have g1 := hlt gx rfl
      obtain ⟨b2, off2, hA2, hb2, hcell2⟩ := HR.out.cells (by omega)
      subst hA2
      obtain ⟨d0, d1, _⟩ := hcell2 k hkn
      have d0 := kept hg d0
      have d1 := kept hg d1
      have th := turn_here (ls := ls) (k := k) (by rw [HL.out]; exact hkn)
      have lx : Lks wr wr.heap.size (some ⟨gx, 0, none⟩) n (turnK ls k) := ⟨re, turn_ok bd64 HR.out.ok k⟩
      obtain ⟨bx, offx, hAx, _, hcellx⟩ := lx.cells (by omega)
      injection hAx with hAx
      injection hAx with e1 e2
      subst e1 e2
      obtain ⟨x0, x1, _⟩ := hcellx k hkn
      have hat : at3 (turnK ls k) k = at3 ls k := by have := turn_at ls k k (by rw [HL.out]; exact hkn); rw [if_neg (by omega)] at this; exact this
      rw [hat, Nat.zero_add] at x0 x1
      have TN := Lib.hid (turn_next (ls := ls) (k := k))
      have TH := Lib.hid th
      have f0 := mx.frozen (k * 3)
      clear hcell2 hcellx lx re hg ob ox mx th hat
      generalize at3 ls k = l at *
      obtain ⟨f, t, cp⟩ := l
      simp only at d0 d1 x0 x1
      go_upto_region 8 with fail
      go_still_tail 11, (by kernel_rfl)
      go_wp2_with fail
      have k3 : wr.grownBy (wr.setCell ⟨gx, k * 3, none⟩ (.int .i64 t)).drew (some gx) := grown_drew (grown_set (World.grownBy.refl wr _) _)
      have G := Lib.hid (grown_none G.out k3 (fun g hg => by injection hg with hg; omega))
      have OB := Lib.hid (OB.out.kept' k3 (fun e => by injection e with e; omega))
      have OX := Lib.hid (OX.out.kept' k3 (fun e => by injection e with e; omega))
      have MX : Hid (MineE linkE (wr.setCell ⟨gx, k * 3, none⟩ (.int .i64 t)).drew wb (.slice (some ⟨gx, 0, none⟩) n c1) n ((turnK ls k).set k (t, t, cp))) := (MX.out.put k 0 (f, t, cp) (t, t, cp) (.int .i64 t) TH.out (by decide) rfl).kept (grown_drew (World.grownBy.refl _ none))
      have x1 : (wr.setCell ⟨gx, k * 3, none⟩ (.int .i64 t)).drew.cell? ⟨gx, k * 3 + 1, none⟩ = some (.int .i64 t) := (World.cell?_setCell_other _ _ _ _ (by simp)).trans x1
      have d0 : (wr.setCell ⟨gx, k * 3, none⟩ (.int .i64 t)).drew.cell? ⟨b2, off2 + k * 3, none⟩ = some (.int .i64 f) := other_get (by omega) d0
      have s3 : (wr.setCell ⟨gx, k * 3, none⟩ (.int .i64 t)).drew.heap.size = wr.heap.size := by simp [World.setCell]
      have TH : Hid (((turnK ls k).set k (t, t, cp))[k]? = some (t, t, cp)) := List.getElem?_set_self (by rw [turn_len, HL.out]; exact hkn)
      have f1 := MX.out.frozen (k * 3 + 1)
      clear k3 f0 p0 p1 q0 q1
      generalize (wr.setCell ⟨gx, k * 3, none⟩ (.int .i64 t)).drew = w5 at *
      obtain ⟨p0, p1⟩ := OB.out.two
      obtain ⟨q0, q1⟩ := OX.out.two
      go_still_tail 11, (by kernel_rfl)
      go_wp2
      have k3 : w5.grownBy (w5.setCell ⟨gx, k * 3 + 1, none⟩ (.int .i64 f)).drew (some gx) := grown_drew (grown_set (World.grownBy.refl w5 _) _)
      go_roundw
      case rel => exact ⟨k + 1, by omega, by go_num, grown_none G.out k3 (fun g hg => by injection hg with hg; omega), OB.out.kept' k3 (fun e => by injection e with e; omega), OX.out.kept' k3 (fun e => by injection e with e; omega), by rw [← TN.out]; exact (MX.out.put k 1 (t, t, cp) (t, f, cp) (.int .i64 f) TH.out (by decide) rfl).kept (grown_drew (World.grownBy.refl _ none))⟩
      case measure => simp [intOf]; omega
    · obtain rfl : n = k := by omega
      obtain ⟨A', c', hv, _, _, re⟩ := mx.row
      injection hv with e1 _ e3
      subst e1 e3
      have LX : Hid (Lks wr wr.heap.size A1 n (turnK ls n)) := ⟨re, turn_ok bd64 HR.out.ok n⟩
      clear re hg ob ox mx MX hge hlt p0 p1 OB
      go_wp2_with fail
      refine (Find_any (vn : Nat) A1 n c1 (turnK ls n) X m d f0 _ LX.out (Nat.le_refl _) (HX.out.grown (Nat.le_refl _) G.out) G.out.size).mono ?_
      rintro e w5 ⟨ks5, is5, z5, hb5, v5, rfl, _, k5⟩
      have G := Lib.hid (grown_trans G.out k5)
      obtain ⟨rfl, rfl⟩ := FT.out _ _ _ hb5
      have q5 : (is5 == is5) = true := by simp
      clear k5 hb5 q0 q1 OX LX
      go_wp2_with fail
      refine (awake14_any _).mono ?_
      rintro e w6 ⟨rfl, k6⟩
      have G := Lib.hid (grown_trans G.out k6)
      clear k6
      go_wp2_with fail
      refine (num_says _ _).mono ?_
      rintro e w7 ⟨rfl, k7⟩
      have G := Lib.hid (grown_trans G.out k7)
      clear k7
      go_wp2
      go_ret
      exact ⟨rfl, below_of G.out⟩

end Go.Proofs.Ytefgnaldiggnnaa
