/-
  A row of paths of the call's own, each with a row of links of its own; SpoilPaths, walked.
-/
import Derived.Test.YtlpohlcmjnlbhaaJK
import Derived.Test.YtlpohlcmjnlbhaaTurn
set_option maxRecDepth 20000
namespace Go.Proofs.Ytlpohlcmjnlbhaa
open Go.RowKit

def slH (h : PH) : Value := .slice h.2.1 h.2.2.1 h.2.2.2

/-- A row of paths, new memory all of it, no two rows of links in one block. -/
def OwnP (w : World) (base : Nat) (v : Value) (n : Nat) (ps : List Pth) : Prop :=
  ps.length = n ∧ ∃ hs, MineE pathE w base v n hs ∧ (∀ j, j < n → PartP w base v (hdr hs j) (at2 ps j)) ∧ ∀ i j, i < n → j < n → i ≠ j → Apart (slH (hdr hs i)) (slH (hdr hs j))

theorem OwnP.kept {w w' : World} {base : Nat} {v : Value} {n : Nat} {ps : List Pth} (h : OwnP w base v n ps) (k : w.grownBy w' none) : OwnP w' base v n ps := by
  obtain ⟨hl, hs, hm, hp, ha⟩ := h
  exact ⟨hl, hs, hm.kept k, fun j hj => part_kept (hp j hj) k, ha⟩

theorem OwnP.nil (w : World) (base : Nat) : OwnP w base (.slice none 0 0) 0 [] :=
  ⟨rfl, [], MineE.nil pathE w base, fun j hj => by omega, fun i j hi => by omega⟩

theorem OwnP.pths {w : World} {base : Nat} {v : Value} {n : Nat} {ps : List Pth} (h : OwnP w base v n ps) (hn : n ≤ 16) (hok : ∀ i, bd64 (rt ps i)) (hoks : ∀ i, i < n → okI (lk ps i)) : ∃ A c, v = .slice A n c ∧ Pths w w.heap.size A n ps := by
  obtain ⟨hl, hs, hm, hp, _⟩ := h
  exact copied hm hl (by omega) hok hoks hp

theorem OwnP.sl {w : World} {base : Nat} {v : Value} {n : Nat} {ps : List Pth} (h : OwnP w base v n ps) : ∃ A c, v = .slice A n c := by
  obtain ⟨_, hs, hm, _⟩ := h
  obtain ⟨A, c, e, _⟩ := hm.row
  exact ⟨A, c, e⟩

theorem below_grown {base : Nat} {w w' w'' : World} {row : Option Nat} (h : Below base w w') (k : w'.grownBy w'' row) (hr : ∀ g, row = some g → base ≤ g) (hb : base ≤ w'.heap.size) : Below base w w'' :=
  ⟨k.os.trans h.os, k.tape.trans h.tape, k.output.trans h.output, Nat.le_trans h.size k.size, fun i hi => (k.block i (by omega) (fun e => by have := hr i e.symm; omega)).trans (h.block i hi)⟩

theorem Row.belowB {base : Nat} {w w' : World} {B : Nat} {A : Option Addr} {n : Nat} {xs : List Int} (h : Row w B A n xs) (hB : B ≤ base) (k : Below base w w') : Row w' B A n xs :=
  h.keep fun p hp => by
    unfold World.cell?
    rw [k.block p.block (by omega)]

theorem Own.belowB {base : Nat} {w w' : World} {g : Nat} {T : TypeId} {vs : List Value} (h : Own w g T vs) (hB : g < base) (k : Below base w w') : Own w' g T vs := h.keep (k.block g hB)

theorem grown_below {base : Nat} {w0 w w' : World} (h : w0.grownBy w none) (hb : w0.heap.size ≤ base) (k : Below base w w') : w0.grownBy w' none :=
  ⟨k.os.trans h.os, k.tape.trans h.tape, k.output.trans h.output, Nat.le_trans h.size k.size, fun i hi hr => (k.block i (by omega)).trans (h.block i hi hr)⟩

def SpPost (w : World) (base : Nat) (e : Ending) (w' : World) : Prop := e = .returned (.tuple #[]) ∧ Below base w w'

def SpRel (w : World) (base : Nat) (v : Value) (n : Nat) (ps : List Pth) (hs : List PH) (i : Value) (wr : World) : Prop :=
  ∃ (k : Nat) (hs' : List PH), k ≤ n ∧ i = .int .i64 (k : Nat) ∧ Below base w wr ∧ base ≤ wr.heap.size ∧ MineE pathE wr base v n hs' ∧ (∀ j, (hdr hs' j).2 = (hdr hs j).2) ∧ ∀ j, k ≤ j → j < n → Mine wr base (slH (hdr hs j)) (hdr hs j).2.2.1 (lk ps j)

theorem hdr_set {hs : List PH} {k : Nat} {x : Int} (j : Nat) : (hdr (hs.set k (x, (hdr hs k).2)) j).2 = (hdr hs j).2 := by
  unfold hdr
  by_cases e : k = j
  · subst e
    by_cases hk : k < hs.length
    · rw [List.getElem?_set_self hk]; rfl
    · rw [List.set_eq_of_length_le (by omega)]
  · rw [List.getElem?_set_ne e]

set_option maxHeartbeats 2000000 in
theorem SpoilPaths_any (v : Value) (n : Nat) (ps : List Pth) (w : World) {base : Nat} (h : OwnP w base v n ps) (hb : base ≤ w.heap.size) (hn : n ≤ 16) :
    Calls Try.prog 17 #[v] w (SpPost w base) := by
  obtain ⟨hl, hs, hm, hp, hap⟩ := h
  have HAP := Lib.hid hap
  have HV : Hid (∀ j, j < n → Apart v (slH (hdr hs j))) := fun j hj => (hp j hj).2.2
  have HS : Hid (SpRel w base v n ps hs (.int .i64 0) w) := ⟨0, hs, Nat.zero_le _, rfl, Below.refl _ _, hb, hm, fun _ => rfl, fun j _ hj => (hp j hj).2.1⟩
  obtain ⟨A, c, rfl, _, _, _⟩ := hm.row
  have HL := Lib.hid hm.length
  clear hm hp hap hl
  go_enter Try.func17, Try.ntmps17
  go_wp2
  go_loopw [2] (fun i wr => SpRel w base (.slice A n c) n ps hs i wr) (fun i _ => n - (intOf i).toNat)
  case atStart => exact HS.out
  case round =>
    clear HS
    obtain ⟨k, hs', hk, rfl, hbe, hbs, hm, he, hml⟩ := hrel
    have BE := Lib.hid hbe
    have HM := Lib.hid hm
    have HE := Lib.hid he
    have ML := Lib.hid hml
    clear hbe he hml
    by_cases hlt : k < n
    · obtain ⟨g, cc, hA, hcc, hgb, hr⟩ := hm.shape (by omega)
      injection hA with hA _ hc
      subst hA hc
      obtain ⟨b, off, hA2, hbl, hcell⟩ := hr.at_ (by omega)
      injection hA2 with hA2
      injection hA2 with e1 e2
      subst e1 e2
      have hx : (hs'[k]?.getD pathE.z).2 = (hdr hs k).2 := HE.out k
      have d1 := hcell k hlt 1 (slH (hdr hs k)) (by
        show some (Value.slice (hs'[k]?.getD pathE.z).2.1 (hs'[k]?.getD pathE.z).2.2.1 (hs'[k]?.getD pathE.z).2.2.2) = _
        rw [hx]; rfl)
      rw [Nat.zero_add] at d1
      have d1 : wr.cell? ⟨g, k * 2 + 1, none⟩ = some (slH (hdr hs k)) := d1
      have hlen' : hs'.length = n := hm.length
      have hkx : hs'[k]? = some (hdr hs' k) := by
        unfold hdr
        rw [List.getElem?_eq_getElem (by omega)]
        rfl
      clear hr hcell hx hm
      have SK := ML.out k (Nat.le_refl _) hlt
      unfold slH at d1 SK
      obtain ⟨q1, hq1⟩ : ∃ q, (hdr hs k).2.1 = q := ⟨_, rfl⟩
      obtain ⟨q2, hq2⟩ : ∃ q, (hdr hs k).2.2.1 = q := ⟨_, rfl⟩
      obtain ⟨q3, hq3⟩ : ∃ q, (hdr hs k).2.2.2 = q := ⟨_, rfl⟩
      have AV : Hid (∀ g', (Value.slice q1 q2 q3).ownBlock = some g' → g' ≠ g) := by
        intro g' hg' e
        have := HV.out k hlt
        unfold slH at this
        rw [hq1, hq2, hq3] at this
        exact this g rfl (by rw [hg', e])
      have AJ : Hid (∀ j, k < j → j < n → ∀ g', (slH (hdr hs j)).ownBlock = some g' → (Value.slice q1 q2 q3).ownBlock ≠ some g') := by
        intro j hj hjn g' hg' e
        have := HAP.out j k hjn hlt (by omega)
        unfold slH at this hg'
        rw [hq1, hq2, hq3] at this
        exact this g' hg' e
      rw [hq1, hq2, hq3] at d1 SK
      have SKM := Lib.hid SK
      clear SK hq1 hq2 hq3
      go_wp2_with fail
      refine (SpoilInts_any (.slice q1 q2 q3) q2 _ _ SKM.out).mono ?_
      rintro e w2 ⟨rfl, k2⟩
      have hge : ∀ g', (Value.slice q1 q2 q3).ownBlock = some g' → base ≤ g' := SKM.out.own_ge
      have BE2 := Lib.hid (below_grown BE.out k2 hge hbs)
      have HM2 := Lib.hid (HM.out.kept' k2 (fun g' hg' e => by
        have hg'' : g = g' := by injection hg'
        exact AV.out g' e hg''.symm))
      have ML2 : Hid (∀ j, k + 1 ≤ j → j < n → Mine w2 base (slH (hdr hs j)) (hdr hs j).2.2.1 (lk ps j)) := fun j hj hjn => (ML.out j (by omega) hjn).kept' k2 (fun g' hg' e => AJ.out j (by omega) hjn g' hg' e)
      have s2 := k2.size
      clear d1 k2 BE HM ML SKM
      have f0 := HM2.out.frozen (k * 2)
      have PU : Hid (MineE pathE (w2.setCell ⟨g, k * 2, none⟩ (.int .i64 (-3))) base (.slice (some ⟨g, 0, none⟩) n c) n (hs'.set k (-3, (hdr hs' k).2))) := HM2.out.put k 0 (hdr hs' k) (-3, (hdr hs' k).2) (.int .i64 (-3)) hkx (by decide) rfl
      have c0 : w2.cell? ⟨g, k * 2, none⟩ = some (.int .i64 (hdr hs' k).1) := by
        obtain ⟨g2, c2, hA, _, _, hr⟩ := HM2.out.shape (by omega)
        injection hA with hA
        injection hA with hA
        injection hA with e1 e2
        subst e1
        obtain ⟨b, off, hA2, hbl, hcell⟩ := hr.at_ (by omega)
        injection hA2 with hA2
        injection hA2 with e1 e2
        subst e1 e2
        have := hcell k hlt 0 (.int .i64 (hdr hs' k).1) rfl
        rw [Nat.zero_add] at this
        exact this
      have k3 : w2.grownBy (w2.setCell ⟨g, k * 2, none⟩ (.int .i64 (-3))) (some g) := grown_set (World.grownBy.refl w2 _) _
      have BE3 := Lib.hid (below_grown BE2.out k3 (fun g' hg' => by injection hg' with hg'; omega) (by omega))
      have hs3 : base ≤ (w2.setCell ⟨g, k * 2, none⟩ (.int .i64 (-3))).heap.size := Nat.le_trans (by omega) k3.size
      have ML3 : Hid (∀ j, k + 1 ≤ j → j < n → Mine (w2.setCell ⟨g, k * 2, none⟩ (.int .i64 (-3))) base (slH (hdr hs j)) (hdr hs j).2.2.1 (lk ps j)) := fun j hj hjn => (ML2.out j hj hjn).kept' k3 (fun g' hg' e => by
        injection e with e
        subst e
        exact (HV.out j hjn) g rfl hg')
      have HE3 : Hid (∀ j, (hdr (hs'.set k (-3, (hdr hs' k).2)) j).2 = (hdr hs j).2) := fun j => (hdr_set j).trans (HE.out j)
      clear k3 HM2 ML2 BE2
      go_wp2
      go_roundw
      case rel => exact ⟨k + 1, _, by omega, by go_num, BE3.out, hs3, PU.out, HE3.out, ML3.out⟩
      case measure => simp [intOf]; omega
    · obtain rfl : k = n := by omega
      go_wp2
      go_end0
      exact ⟨rfl, BE.out⟩

end Go.Proofs.Ytlpohlcmjnlbhaa
