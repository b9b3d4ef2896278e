/-
  The law GraphForms, walked.
-/
import Derived.Test.YtfldicenikkacaaGraphLaw
import Derived.Deep.CutBlock
namespace Go.Proofs.Ytfldicenikkacaa
open Go.RowKit

theorem Own.put {w : World} {g i : Nat} {T : TypeId} {vs : List Value} (h : Own w g T vs) (u : Value) : Own (w.setCell ⟨g, i, none⟩ u) g T (vs.set i u) := by
  unfold Own at h ⊢
  simp [World.setCell, Array.getElem?_modify, h]

theorem Own.mineE {α : Type} {E : Elt α} {w : World} {g base : Nat} (xs : List α) (n : Nat) (hn : n = xs.length) (hl : xs.length ≤ 1000) (hb : base ≤ g) (h : Own w g E.T (E.flat xs)) : MineE E w base (.slice (some ⟨g, 0, none⟩) n n) n xs := by
  subst hn
  refine ⟨E.flat_len xs, .inr ⟨g, xs.length, (E.flat xs).toArray, rfl, hb, h, Nat.le_refl _, by unfold maxLen; omega, by simp [E.flat_len], ?_⟩⟩
  rw [List.take_of_length_le (by simp [E.flat_len])]

/-- Behind the switch: a graph that may not be. -/
def FormMid (w : World) (b : Nat) (wt : World) : Prop :=
  ∃ V A n c ls, Own wt b 24 [.int .i64 V, .slice A n c] ∧ Lks wt wt.heap.size A n ls ∧ mayG V ls = false ∧ w.grownBy wt none

theorem Own.lks' {w : World} {g : Nat} (ls : List Lk) (n : Nat) (hn : n = ls.length) (hl : ls.length ≤ 1000) (hok : okLs ls = true) (h : Own w g 45 (linkE.flat ls)) : Lks w w.heap.size (some ⟨g, 0, none⟩) n ls :=
  (h.lks ls n hn hl hok).wide h.lt

def lenAt (wr : World) (b : Nat) : Nat := match wr.cell? ⟨b, 1, none⟩ with | some (.slice _ n _) => n | _ => 0

def manyL (n : Nat) : List Lk := smallL ++ List.replicate (n - 3) (2, 0, 0)

theorem many_next {n : Nat} (h : 3 ≤ n) : manyL n ++ [(2, 0, 0)] = manyL (n + 1) := by
  have e : n + 1 - 3 = (n - 3) + 1 := by omega
  rw [manyL, manyL, e, List.replicate_succ', List.append_assoc]

def FormRel (w : World) (b : Nat) (wr : World) : Prop :=
  ∃ A n c, 3 ≤ n ∧ n ≤ 17 ∧ Own wr b 24 [.int .i64 3, .slice A n c] ∧ MineE linkE wr w.heap.size (.slice A n c) n (manyL n) ∧ (Value.slice A n c).ownBlock ≠ some b ∧ w.grownBy wr none

theorem GraphForms_walk (a : Int) (w : World) :
    Calls Try.prog 4 #[.int .i64 a] w (LawPost w) := by
  go_enter Try.func4, Try.ntmps4
  go_wp2_with fail
  refine (small_any _).mono ?_
  rintro e w1 ⟨g, rfl, ol, hwg, k⟩
  have hgb := ol.lt
  have k2 := grow0 w1 (.cells #[.int .i64 3, .slice (some ⟨g, 0, none⟩) 3 3] 24)
  have ob := Own.new w1 24 [.int .i64 3, .slice (some ⟨g, 0, none⟩) 3 3]
  have ol2 := ol.kept k2
  have G := Lib.hid (grown_trans k k2)
  have hwb := k.size
  have hb2 : w1.heap.size < (w1.alloc (.cells #[.int .i64 3, .slice (some ⟨g, 0, none⟩) 3 3] 24)).heap.size := by simp
  clear k k2 ol
  go_upto_block 0 with fail
  generalize bits BinOp.and IntKind.i64 a 7 = m
  generalize w1.alloc (.cells #[.int .i64 3, .slice (some ⟨g, 0, none⟩) 3 3] 24) = w2 at *
  generalize w1.heap.size = b at *
  have OB := Lib.hid ob
  have OL := Lib.hid ol2
  obtain ⟨p0, p1⟩ := ob.two
  have f0 := ob.frozen 0
  have f1 := ob.frozen 1
  have d3 : w2.cell? ⟨g, 3, none⟩ = some (.int .i64 1) := ol2.cell 3
  have d4 : w2.cell? ⟨g, 4, none⟩ = some (.int .i64 2) := ol2.cell 4
  have d8 : w2.cell? ⟨g, 8, none⟩ = some (.int .i64 3) := ol2.cell 8
  have h3 := ol2.frozen 3
  have h4 := ol2.frozen 4
  have h8 := ol2.frozen 8
  clear ob ol2
  go_cut [] (fun wx => FormMid w b wx)
  case first =>
    by_cases m0 : m = 0
    · subst m0
      have HF : Hid (FormMid w b (w2.setCell ⟨b, 0, none⟩ (.int .i64 1))) :=
        ⟨1, _, 3, 3, smallL, OB.out.put _, ((OL.out.setOther (by omega) _).lks' smallL 3 rfl (by decide) rfl), by decide, grown_new G.out hwb _⟩
      go_wp2
      go_meet
      exact HF.out
    have m0b : (m == 0) = false := by simp [m0]
    by_cases m1 : m = 1
    · subst m1
      have HF : Hid (FormMid w b (w2.setCell ⟨b, 0, none⟩ (.int .i64 9))) :=
        ⟨9, _, 3, 3, smallL, OB.out.put _, ((OL.out.setOther (by omega) _).lks' smallL 3 rfl (by decide) rfl), by decide, grown_new G.out hwb _⟩
      go_wp2
      go_meet
      exact HF.out
    have m1b : (m == 1) = false := by simp [m1]
    by_cases m2 : m = 2
    · subst m2
      have HF : Hid (FormMid w b (w2.setCell ⟨g, 3, none⟩ (.int .i64 3))) :=
        ⟨3, _, 3, 3, [(0, 1, 5), (3, 2, 4), (0, 2, 3)], OB.out.setOther (by omega) _, (Own.lks' [(0, 1, 5), (3, 2, 4), (0, 2, 3)] 3 rfl (by decide) rfl (OL.out.put _)), by decide, grown_new G.out hwg _⟩
      go_wp2
      go_meet
      exact HF.out
    have m2b : (m == 2) = false := by simp [m2]
    by_cases m3 : m = 3
    · subst m3
      have HF : Hid (FormMid w b (w2.setCell ⟨g, 4, none⟩ (.int .i64 (-1)))) :=
        ⟨3, _, 3, 3, [(0, 1, 5), (1, -1, 4), (0, 2, 3)], OB.out.setOther (by omega) _, (Own.lks' [(0, 1, 5), (1, -1, 4), (0, 2, 3)] 3 rfl (by decide) rfl (OL.out.put _)), by decide, grown_new G.out hwg _⟩
      go_wp2
      go_meet
      exact HF.out
    have m3b : (m == 3) = false := by simp [m3]
    by_cases m4 : m = 4
    · subst m4
      have HF : Hid (FormMid w b (w2.setCell ⟨g, 4, none⟩ (.int .i64 1))) :=
        ⟨3, _, 3, 3, [(0, 1, 5), (1, 1, 4), (0, 2, 3)], OB.out.setOther (by omega) _, (Own.lks' [(0, 1, 5), (1, 1, 4), (0, 2, 3)] 3 rfl (by decide) rfl (OL.out.put _)), by decide, grown_new G.out hwg _⟩
      go_wp2
      go_meet
      exact HF.out
    have m4b : (m == 4) = false := by simp [m4]
    by_cases m5 : m = 5
    · subst m5
      have HF : Hid (FormMid w b (w2.setCell ⟨g, 8, none⟩ (.int .i64 (-1)))) :=
        ⟨3, _, 3, 3, [(0, 1, 5), (1, 2, 4), (0, 2, -1)], OB.out.setOther (by omega) _, (Own.lks' [(0, 1, 5), (1, 2, 4), (0, 2, -1)] 3 rfl (by decide) rfl (OL.out.put _)), by decide, grown_new G.out hwg _⟩
      go_wp2
      go_meet
      exact HF.out
    have m5b : (m == 5) = false := by simp [m5]
    by_cases m6 : m = 6
    · subst m6
      have HF : Hid (FormMid w b (w2.setCell ⟨g, 8, none⟩ (.int .i64 4611686018427387896))) :=
        ⟨3, _, 3, 3, [(0, 1, 5), (1, 2, 4), (0, 2, 4611686018427387896)], OB.out.setOther (by omega) _, (Own.lks' [(0, 1, 5), (1, 2, 4), (0, 2, 4611686018427387896)] 3 rfl (by decide) rfl (OL.out.put _)), by decide, grown_new G.out hwg _⟩
      go_wp2
      go_meet
      exact HF.out
    have m6b : (m == 6) = false := by simp [m6]
    have HS : Hid (FormRel w b w2) :=
      ⟨some ⟨g, 0, none⟩, 3, 3, by omega, by omega, OB.out, Own.mineE (E := linkE) smallL 3 rfl (by decide) hwg OL.out, by simp [Value.ownBlock]; omega, G.out⟩
    clear OB OL G p0 p1 f0 f1 d3 d4 d8 h3 h4 h8
    go_wp2
    go_loopw [11] (fun _ wr => FormRel w b wr) (fun _ wr => 20 - lenAt wr b)
    case atStart => exact HS.out
    case round =>
      clear HS
      obtain ⟨A, n, c, hn3, hn17, ob, hm, hap, hg⟩ := hrel
      obtain ⟨p0, p1⟩ := ob.two
      have f1 := ob.frozen 1
      have hla : lenAt wr b = n := by rw [lenAt, p1]
      have OB := Lib.hid ob
      have HM := Lib.hid hm
      have HAP := Lib.hid hap
      have G := Lib.hid hg
      have hgs := hg.size
      have hbl := ob.lt
      clear ob hm hap hg
      by_cases hlt : n ≤ 16
      · have hlt2 : (n : Int) ≤ 16 := by omega
        have HM1 := Lib.hid (HM.out.grow (.cells #[.int .i64 2, .int .i64 0, .int .i64 0] 45))
        have HROW := Lib.hid (Elts.lit (E := linkE) (w := wr) (g := wr.heap.size) (n := 1) (vs := #[.int .i64 2, .int .i64 0, .int .i64 0]) [(2, 0, 0)] rfl rfl rfl (by simp))
        go_wp2_with (first | (at_builtin; refine wpList_appE linkE _ rfl _ _ rfl w.heap.size _ n (manyL n) rfl HM1.out _ 1 1 [(2, 0, 0)] rfl HROW.out (by simp) (by unfold maxLen; omega) (by show _ * 24 ≤ _; omega) (by simp; omega) ?_))
        intro v1 w3 hm3 hg3 hwh
        rw [many_next hn3] at hm3
        obtain ⟨A1, c1, rfl, _, _, _⟩ := hm3.row
        have hge := hm3.own_ge
        have O3 := Lib.hid (Own.kept' (OB.out.alloc (.cells #[.int .i64 2, .int .i64 0, .int .i64 0] 45)) hg3 HAP.out)
        have G3 := Lib.hid (grown_none (grown_alloc G.out (.cells #[.int .i64 2, .int .i64 0, .int .i64 0] 45)) hg3 (fun k hk => HM.out.own_ge k hk))
        have HAP3 : Hid ((Value.slice A1 (n + 1) c1).ownBlock ≠ some b) := by
          intro e
          rcases hwh with h | h
          · rw [h] at e; exact HAP.out e
          · rw [h] at e; simp at e; omega
        have HM3 := Lib.hid hm3
        have f1 := O3.out.frozen 1
        obtain ⟨q0, q1⟩ := O3.out.two
        clear hm3 hg3 hwh p0 p1
        go_wp2
        go_roundw
        case rel => exact ⟨A1, n + 1, c1, by omega, by omega, O3.out.setAt1 _, HM3.out.kept' (grown_set (World.grownBy.refl _ (some b)) _) (fun g hg e => HAP3.out (hg.trans e.symm)), HAP3.out, grown_new G3.out hwb _⟩
        case measure =>
          have : lenAt (w3.setCell ⟨b, 1, none⟩ (.slice A1 (n + 1) c1)) b = n + 1 := by
            rw [lenAt, World.cell?_setCell_same' _ _ _ (by rw [q1]; rfl)]
          rw [this, hla]
          omega
      · obtain rfl : n = 17 := by omega
        obtain ⟨A1, c1, hv, _, _, hrow⟩ := HM.out.row
        injection hv with e1 _ e3
        subst e1 e3
        have HF : Hid (FormMid w b wr) := ⟨3, A, 17, c, manyL 17, OB.out, ⟨hrow, okLs_ok (by decide)⟩, by decide, G.out⟩
        go_wp2
        go_meet
        exact HF.out
  case rest =>
    clear OB OL G p0 p1 f0 f1 d3 d4 d8 h3 h4 h8
    obtain ⟨V, A, n, c, ls, ob, hl, hm, hg⟩ := hcut
    have hmE : totE V ls = 400 := by simp [totE, hm]
    have hsE : selE V ls 0 = 400 := by simp [selE, goodB, hm]
    obtain ⟨p0, p1⟩ := ob.two
    have OB := Lib.hid ob
    have LX := Lib.hid hl
    have HM := Lib.hid hm
    have G := Lib.hid hg
    clear ob hl hm hg
    go_wp2_with fail
    refine (GTotal_any V A n c ls _ LX.out).mono ?_
    rintro e w3 ⟨rfl, k⟩
    have s3 := k.size
    have G := Lib.hid (grown_trans G.out k)
    have OB := Lib.hid (OB.out.kept k)
    have LX := Lib.hid (LX.out.grown (Nat.le_refl _) k)
    clear k p0 p1
    obtain ⟨p0, p1⟩ := OB.out.two
    unfold totV
    rw [hmE]
    go_wp2_with fail
    refine (GIn_any V 0 A n c ls _ LX.out s3).mono ?_
    rintro e w4 ⟨vi, rfl, _, k⟩
    have s4 := k.size
    have G := Lib.hid (grown_trans G.out k)
    have OB := Lib.hid (OB.out.kept k)
    have LX := Lib.hid (LX.out.grown s3 k)
    clear k p0 p1
    rw [hsE]
    go_wp2_with fail
    refine (awake_any _).mono ?_
    rintro e w5 ⟨rfl, k⟩
    have s5 := k.size
    have G := Lib.hid (grown_trans G.out k)
    have OB := Lib.hid (OB.out.kept k)
    have LX := Lib.hid (LX.out.grown (by omega) k)
    clear k
    obtain ⟨p0, p1⟩ := OB.out.two
    go_wp2_with fail
    refine (GMay_any V A n c ls _ LX.out (by omega)).mono ?_
    rintro e w6 ⟨rfl, k⟩
    have G := Lib.hid (grown_trans G.out k)
    rw [HM.out]
    clear k
    go_wp2_with fail
    refine (Num0_any _ _).mono ?_
    rintro e w7 ⟨rfl, rfl⟩
    go_wp2_with fail
    refine (Num0_any _ _).mono ?_
    rintro e w7 ⟨rfl, rfl⟩
    go_wp2
    go_ret
    exact ⟨rfl, below_of G.out⟩

end Go.Proofs.Ytfldicenikkacaa
