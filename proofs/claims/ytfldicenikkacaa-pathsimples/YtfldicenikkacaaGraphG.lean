/-
  small, awake.
-/
import Derived.Test.YtfldicenikkacaaGraphF
namespace Go.Proofs.Ytfldicenikkacaa
open Go.RowKit

def smallL : List Lk := [(0, 1, 5), (1, 2, 4), (0, 2, 3)]

def bdB (x : Int) : Bool := decide (-9223372036854775808 ≤ x) && decide (x ≤ 9223372036854775807)
def okLs (ls : List Lk) : Bool := ls.all fun l => bdB l.1 && bdB l.2.1 && bdB l.2.2

theorem bdB_ok {x : Int} (h : bdB x = true) : bd64 x := by
  simp only [bdB, Bool.and_eq_true, decide_eq_true_eq] at h
  exact h

theorem okLs_ok {ls : List Lk} (h : okLs ls = true) (i : Nat) : bd64 (at3 ls i).1 ∧ bd64 (at3 ls i).2.1 ∧ bd64 (at3 ls i).2.2 := by
  unfold at3
  by_cases hi : i < ls.length
  · rw [List.getElem?_eq_getElem hi]
    have := List.all_eq_true.1 h _ (List.getElem_mem hi)
    simp only [Bool.and_eq_true] at this
    exact ⟨bdB_ok this.1.1, bdB_ok this.1.2, bdB_ok this.2⟩
  · rw [List.getElem?_eq_none (by omega)]
    simp [bd64]

theorem Own.elts {α : Type} {E : Elt α} {w : World} {g : Nat} (xs : List α) (n : Nat) (hn : n = xs.length) (hl : xs.length ≤ 1000) (h : Own w g E.T (E.flat xs)) : Elts E w (g + 1) (some ⟨g, 0, none⟩) n xs := by
  subst hn
  refine ⟨rfl, by omega, fun _ => ⟨g, 0, rfl, by omega, fun i hi j v hv => ?_⟩⟩
  have hj : j < E.size := by
    rcases Nat.lt_or_ge j E.size with k | k
    · exact k
    · rw [List.getElem?_eq_none (by rw [E.len]; exact k)] at hv; cases hv
  rw [Nat.zero_add, h.cell, E.flat_get xs i j hj]
  rw [List.getElem?_eq_getElem hi] at hv ⊢
  exact hv

theorem Own.lks {w : World} {g : Nat} (ls : List Lk) (n : Nat) (hn : n = ls.length) (hl : ls.length ≤ 1000) (hok : okLs ls = true) (h : Own w g 45 (linkE.flat ls)) : Lks w (g + 1) (some ⟨g, 0, none⟩) n ls :=
  ⟨Own.elts (E := linkE) ls n hn hl h, okLs_ok hok⟩

def SmallPost (w : World) (e : Ending) (w' : World) : Prop :=
  ∃ g, e = .returned (.agg #[.int .i64 3, .slice (some ⟨g, 0, none⟩) 3 3]) ∧ Own w' g 45 (linkE.flat smallL) ∧ w.heap.size ≤ g ∧ w.grownBy w' none

def smallV : List Value := [.int .i64 0, .int .i64 1, .int .i64 5, .int .i64 1, .int .i64 2, .int .i64 4, .int .i64 0, .int .i64 2, .int .i64 3]

theorem small_flat : linkE.flat smallL = smallV := rfl

theorem small_any (w : World) : Calls Try.prog 29 #[] w (SmallPost w) := by
  have HB := Lib.hid (box2 (w := w) (T := 24) (U := 45) [.int .i64 3, .slice (some ⟨w.heap.size + 1, 0, none⟩) 3 3] smallV (World.grownBy.refl _ none))
  go_enter Try.func29, Try.ntmps29
  go_wp2
  obtain ⟨g, o1, o2⟩ := HB.out
  exact post_graph rfl rfl o1.two.1 o1.two.2 rfl ⟨w.heap.size + 1, rfl, small_flat ▸ o2, by omega, g⟩

theorem out_small : selOf (fun l => l.1) 3 smallL 0 = [0, 2] ∧ selE 3 smallL 0 = 0 := by decide
theorem in_small : selOf (fun l => l.2.1) 3 smallL 2 = [1, 2] ∧ selE 3 smallL 2 = 0 := by decide
theorem out_small3 : selE 3 smallL 3 = 400 := by decide
theorem tot_small : totX 3 smallL = 12 ∧ totE 3 smallL = 0 ∧ mayG 3 smallL = true ∧ mayG 0 [] = false := by decide

theorem ok_of {xs : List Int} (h : xs.all bdB = true) (i : Nat) : -9223372036854775808 ≤ xs[i]?.getD 0 ∧ xs[i]?.getD 0 ≤ 9223372036854775807 := by
  by_cases hi : i < xs.length
  · rw [List.getElem?_eq_getElem hi]
    exact bdB_ok (List.all_eq_true.1 h _ (List.getElem_mem hi))
  · rw [List.getElem?_eq_none (by omega)]
    simp

set_option maxHeartbeats 1000000 in
theorem awake_any (w : World) : Calls Try.prog 27 #[] w (Says w (.bool true)) := by
  go_enter Try.func27, Try.ntmps27
  go_wp2_with fail
  refine (small_any _).mono ?_
  rintro e w1 ⟨g1, rfl, o1, _, k1⟩
  have G := Lib.hid k1
  go_wp2_with fail
  refine (GOut_any 3 0 (some ⟨g1, 0, none⟩) 3 3 smallL _ (o1.lks smallL 3 rfl (by decide) rfl) o1.lt).mono ?_
  rintro e w2 ⟨va, rfl, ha, k2⟩
  rw [out_small.2]
  rw [out_small.1] at ha
  obtain ⟨A2, c2, rfl, _, ra⟩ := ha.row (ok_of (xs := [0, 2]) (by decide))
  have RA := Lib.hid ra
  have G := Lib.hid (grown_trans G.out k2)
  clear ha ra k2 k1 o1
  go_wp2_with fail
  refine (small_any _).mono ?_
  rintro e w3 ⟨g3, rfl, o3, _, k3⟩
  have RA := Lib.hid (RA.out.grown (Nat.le_refl _) k3)
  have G := Lib.hid (grown_trans G.out k3)
  have s3 := k3.size
  clear k3
  go_wp2_with fail
  refine (GIn_any 3 2 (some ⟨g3, 0, none⟩) 3 3 smallL _ (o3.lks smallL 3 rfl (by decide) rfl) o3.lt).mono ?_
  rintro e w4 ⟨vb, rfl, hb, k4⟩
  rw [in_small.2]
  rw [in_small.1] at hb
  obtain ⟨A4, c4, rfl, _, rb⟩ := hb.row (ok_of (xs := [1, 2]) (by decide))
  have RA := Lib.hid (RA.out.grown s3 k4)
  have RB := Lib.hid rb
  have G := Lib.hid (grown_trans G.out k4)
  have s4 := k4.size
  clear hb rb k4 o3
  go_wp2_with fail
  refine (small_any _).mono ?_
  rintro e w5 ⟨g5, rfl, o5, _, k5⟩
  have RA := Lib.hid (RA.out.grown (by omega) k5)
  have RB := Lib.hid (RB.out.grown (Nat.le_refl _) k5)
  have G := Lib.hid (grown_trans G.out k5)
  have s5 := k5.size
  clear k5
  go_wp2_with fail
  refine (GTotal_any 3 (some ⟨g5, 0, none⟩) 3 3 smallL _ (o5.lks smallL 3 rfl (by decide) rfl)).mono ?_
  rintro e w6 ⟨rfl, k6⟩
  have RA := Lib.hid (RA.out.grown (by omega) k6)
  have RB := Lib.hid (RB.out.grown (by omega) k6)
  have G := Lib.hid (grown_trans G.out k6)
  have s6 := k6.size
  unfold totV
  rw [tot_small.1, tot_small.2.1]
  clear k6 o5
  go_wp2_with fail
  refine (small_any _).mono ?_
  rintro e w7 ⟨g7, rfl, o7, _, k7⟩
  have RA := Lib.hid (RA.out.grown (by omega) k7)
  have RB := Lib.hid (RB.out.grown (by omega) k7)
  have G := Lib.hid (grown_trans G.out k7)
  have s7 := k7.size
  clear k7
  go_wp2_with fail
  refine (GOut_any 3 3 (some ⟨g7, 0, none⟩) 3 3 smallL _ (o7.lks smallL 3 rfl (by decide) rfl) o7.lt).mono ?_
  rintro e w8 ⟨vc, rfl, _, k8⟩
  have RA := Lib.hid (RA.out.grown (by omega) k8)
  have RB := Lib.hid (RB.out.grown (by omega) k8)
  have G := Lib.hid (grown_trans G.out k8)
  have s8 := k8.size
  rw [out_small3]
  clear k8 o7
  go_wp2_with fail
  refine (small_any _).mono ?_
  rintro e w9 ⟨g9, rfl, o9, _, k9⟩
  have RA := Lib.hid (RA.out.grown (by omega) k9)
  have RB := Lib.hid (RB.out.grown (by omega) k9)
  have G := Lib.hid (grown_trans G.out k9)
  have s9 := k9.size
  clear k9
  go_wp2_with fail
  refine (GMay_any 3 (some ⟨g9, 0, none⟩) 3 3 smallL _ (o9.lks smallL 3 rfl (by decide) rfl) o9.lt).mono ?_
  rintro e w10 ⟨rfl, k10⟩
  have RA := Lib.hid (RA.out.grown (by omega) k10)
  have RB := Lib.hid (RB.out.grown (by omega) k10)
  have G := Lib.hid (grown_trans G.out k10)
  have s10 := k10.size
  rw [tot_small.2.2.1]
  clear k10 o9
  go_wp2_with fail
  refine (GMay_any 0 none 0 0 [] w10 (B := 0) ⟨⟨rfl, by omega, fun k => absurd k (by omega)⟩, okLs_ok rfl⟩ (Nat.zero_le _)).mono ?_
  rintro e w11 ⟨rfl, k11⟩
  have RA := Lib.hid (RA.out.grown (by omega) k11)
  have RB := Lib.hid (RB.out.grown (by omega) k11)
  have G := Lib.hid (grown_trans G.out k11)
  have s11 := k11.size
  rw [tot_small.2.2.2]
  clear k11
  have RX := Lib.hid (Row.newAt (w := w11) (g := w11.heap.size) (n := 2) (vs := #[.int .i64 0, .int .i64 2]) [0, 2] rfl rfl rfl (by simp) (by simp))
  go_wp2_with fail
  refine (SameInts0_any A2 2 c2 [0, 2] _ 2 2 [0, 2] _ (RA.out.grown (by omega) (grow0 _ _)) RX.out).mono ?_
  rintro e w12 ⟨rfl, j12, rfl⟩
  have e1 : sameB [0, 2] [0, 2] = true := by decide
  rw [e1]
  have RB := Lib.hid (RB.out.grown (w' := (w11.alloc (.cells #[.int .i64 0, .int .i64 2] 3)).drewN j12) (by omega) (grown_drewN (grow0 _ _) _))
  have G : Hid (w.grownBy ((w11.alloc (.cells #[.int .i64 0, .int .i64 2] 3)).drewN j12) none) := grown_drewN (grown_alloc G.out _) _
  have s12 : w11.heap.size ≤ ((w11.alloc (.cells #[.int .i64 0, .int .i64 2] 3)).drewN j12).heap.size := by show _ ≤ (w11.alloc _).heap.size; simp
  clear RX RA e1
  generalize (w11.alloc (.cells #[.int .i64 0, .int .i64 2] 3)).drewN j12 = w12 at *
  go_wp2_with fail
  refine (Num0_any _ _).mono ?_
  rintro e w13 ⟨rfl, rfl⟩
  have RX := Lib.hid (Row.newAt (w := w12) (g := w12.heap.size) (n := 2) (vs := #[.int .i64 1, .int .i64 2]) [1, 2] rfl rfl rfl (by simp) (by simp))
  go_wp2_with fail
  refine (SameInts0_any A4 2 c4 [1, 2] _ 2 2 [1, 2] _ (RB.out.grown (by omega) (grow0 _ _)) RX.out).mono ?_
  rintro e w14 ⟨rfl, j14, rfl⟩
  have e1 : sameB [1, 2] [1, 2] = true := by decide
  rw [e1]
  have G : Hid (w.grownBy ((w12.alloc (.cells #[.int .i64 1, .int .i64 2] 3)).drewN j14) none) := grown_drewN (grown_alloc G.out _) _
  clear RX RB e1
  generalize (w12.alloc (.cells #[.int .i64 1, .int .i64 2] 3)).drewN j14 = w14 at *
  go_wp2_with fail
  refine (Num0_any _ _).mono ?_
  rintro e w15 ⟨rfl, rfl⟩
  go_wp2_with fail
  refine (Num0_any _ _).mono ?_
  rintro e w15 ⟨rfl, rfl⟩
  go_wp2_with fail
  refine (Num0_any _ _).mono ?_
  rintro e w15 ⟨rfl, rfl⟩
  go_wp2
  go_ret
  exact ⟨rfl, G.out⟩

end Go.Proofs.Ytfldicenikkacaa
