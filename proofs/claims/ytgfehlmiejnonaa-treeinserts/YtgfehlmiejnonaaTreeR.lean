/-
  What a Node is to hold: height, most, lean, due of a shape.
-/
import Derived.Test.YtgfehlmiejnonaaTreeQ
import Derived.Test.YtgfehlmiejnonaaJA
import Derived.Laws.Cover1
set_option maxRecDepth 20000
namespace Go.Proofs.Ytgfehlmiejnonaa
open Go.RowKit

theorem THeight_any (A : Option Addr) (n c : Nat) (ns : List Nd) (r : Int) (FA : Option Addr) (fn fc : Nat) (p : Int) (w : World) {B : Nat} (h : Elts nodeE w B A n ns) (hB : B ≤ w.heap.size) (h1 : -1 ≤ p) (h2 : p < n) :
    Calls Try.prog 92 #[.agg #[.slice A n c, .int .i64 r, .slice FA fn fc], .int .i64 p] w (Says w (.int .i64 (hOf ns p))) := by
  have HS := Lib.hid h
  have HO := Lib.hid (box1 (w := w) (T := 72) [.slice A n c, .int .i64 r, .slice FA fn fc] (World.grownBy.refl _ none))
  have hn := h.small
  clear h
  by_cases hp : p = -1
  · subst hp
    go_enter Try.func92, Try.ntmps92
    go_wp2
    go_ret
    exact ⟨ret_int (by simp [hOf]), HO.out.1⟩
  · obtain ⟨k, rfl⟩ : ∃ k : Nat, p = (k : Nat) := ⟨p.toNat, by omega⟩
    have hk : k < n := by omega
    have E : Hid (hOf ns (k : Nat) = (nd ns k).2.2.2.1) := by rw [Hid, hOf, if_neg hp, Int.toNat_natCast]
    go_enter Try.func92, Try.ntmps92
    go_upto_region 1 with fail
    obtain ⟨g, o⟩ := HO.out
    have ER := HS.out.grown hB g
    have G := Lib.hid g
    generalize w.alloc (.cells #[.slice A n c, .int .i64 r, .slice FA fn fc] 72) = w1 at *
    obtain ⟨c0, c1, c2⟩ := o.three
    obtain ⟨b, off, rfl, _, hcell⟩ := ER.nds (by omega)
    obtain ⟨_, _, _, _, _, d5, _⟩ := hcell k hk
    generalize (nd ns k).2.2.2.1 = y at *
    clear hcell HO g o ER HS
    go_wp2
    go_ret
    exact ⟨ret_int (by rw [E.out]), G.out⟩

theorem TMost_any (A : Option Addr) (n c : Nat) (ns : List Nd) (r : Int) (FA : Option Addr) (fn fc : Nat) (p : Int) (w : World) {B : Nat} (h : Elts nodeE w B A n ns) (hB : B ≤ w.heap.size) (h1 : -1 ≤ p) (h2 : p < n) :
    Calls Try.prog 93 #[.agg #[.slice A n c, .int .i64 r, .slice FA fn fc], .int .i64 p] w (Says w (.int .i64 (mOf ns p))) := by
  have HS := Lib.hid h
  have HO := Lib.hid (box1 (w := w) (T := 72) [.slice A n c, .int .i64 r, .slice FA fn fc] (World.grownBy.refl _ none))
  have hn := h.small
  clear h
  by_cases hp : p = -1
  · subst hp
    go_enter Try.func93, Try.ntmps93
    go_wp2
    go_ret
    exact ⟨ret_int (by simp [mOf]), HO.out.1⟩
  · obtain ⟨k, rfl⟩ : ∃ k : Nat, p = (k : Nat) := ⟨p.toNat, by omega⟩
    have hk : k < n := by omega
    have E : Hid (mOf ns (k : Nat) = (nd ns k).2.2.2.2) := by rw [Hid, mOf, if_neg hp, Int.toNat_natCast]
    go_enter Try.func93, Try.ntmps93
    go_upto_region 1 with fail
    obtain ⟨g, o⟩ := HO.out
    have ER := HS.out.grown hB g
    have G := Lib.hid g
    generalize w.alloc (.cells #[.slice A n c, .int .i64 r, .slice FA fn fc] 72) = w1 at *
    obtain ⟨c0, c1, c2⟩ := o.three
    obtain ⟨b, off, rfl, _, hcell⟩ := ER.nds (by omega)
    obtain ⟨_, _, _, _, _, _, d6⟩ := hcell k hk
    generalize (nd ns k).2.2.2.2 = y at *
    clear hcell HO g o ER HS
    go_wp2
    go_ret
    exact ⟨ret_int (by rw [E.out]), G.out⟩

theorem held5x {w w1 : World} {a0 a1 a2 a3 a4 : Addr} {x0 x1 x2 x3 x4 : Value} (g : w.grownBy w1 none)
    (h : w.cell? a0 = some x0 ∧ w.cell? a1 = some x1 ∧ w.cell? a2 = some x2 ∧ w.cell? a3 = some x3 ∧ w.cell? a4 = some x4) :
    w1.cell? a0 = some x0 ∧ w1.cell? a1 = some x1 ∧ w1.cell? a2 = some x2 ∧ w1.cell? a3 = some x3 ∧ w1.cell? a4 = some x4 :=
  have k : ∀ {a : Addr} {v : Value}, w.cell? a = some v → w1.cell? a = some v := fun h => g.cell h (by simp)
  ⟨k h.1, k h.2.1, k h.2.2.1, k h.2.2.2.1, k h.2.2.2.2⟩

set_option maxHeartbeats 2000000 in
theorem TLean_any (A : Option Addr) (n c : Nat) (ns : List Nd) (r : Int) (FA : Option Addr) (fn fc : Nat) (x0 x1 x2 l rr hh m : Int) (w : World) {B : Nat} (h : Elts nodeE w B A n ns) (hB : B ≤ w.heap.size) (l1 : -1 ≤ l) (l2 : l < n) (r1 : -1 ≤ rr) (r2 : rr < n) (b1 : 0 ≤ hOf ns l) (b2 : hOf ns l ≤ 1000) (b3 : 0 ≤ hOf ns rr) (b4 : hOf ns rr ≤ 1000) :
    Calls Try.prog 79 #[.agg #[.slice A n c, .int .i64 r, .slice FA fn fc], .agg #[.int .i64 x0, .int .i64 x1, .int .i64 x2, .int .i64 l, .int .i64 rr, .int .i64 hh, .int .i64 m]] w (Says w (.int .i64 (hOf ns l - hOf ns rr))) := by
  have HB := Lib.hid (box2 (w := w) (T := 72) (U := 64) [.slice A n c, .int .i64 r, .slice FA fn fc] [.int .i64 x0, .int .i64 x1, .int .i64 x2, .int .i64 l, .int .i64 rr, .int .i64 hh, .int .i64 m] (World.grownBy.refl _ none))
  have HC : Hid (∀ p, -1 ≤ p → p < (n : Int) → ∀ wx, w.grownBy wx none → Calls Try.prog 92 #[.agg #[.slice A n c, .int .i64 r, .slice FA fn fc], .int .i64 p] wx (Says wx (.int .i64 (hOf ns p)))) := fun p h1 h2 wx g => THeight_any A n c ns r FA fn fc p wx (h.grown hB g) (Nat.le_trans hB g.size) h1 h2
  have L1 := Lib.hid l1
  have L2 := Lib.hid l2
  have R1 := Lib.hid r1
  have R2 := Lib.hid r2
  clear h hB l1 l2 r1 r2
  have hwr : IntKind.i64.wrap (hOf ns l - hOf ns rr) = hOf ns l - hOf ns rr := IntWalk.i64_in _ (by omega)
  go_enter Try.func79, Try.ntmps79
  go_upto_region 1 with fail
  obtain ⟨G0, o1, o2⟩ := HB.out
  generalize (w.alloc (.cells #[.slice A n c, .int .i64 r, .slice FA fn fc] 72)).alloc (.cells #[.int .i64 x0, .int .i64 x1, .int .i64 x2, .int .i64 l, .int .i64 rr, .int .i64 hh, .int .i64 m] 64) = w1 at *
  obtain ⟨c0, c1, c2⟩ := o1.three
  have d3 := o2.cell 3
  have d4 := o2.cell 4
  have GK := Lib.hid G0
  have HS : Hid (w1.cell? ⟨w.heap.size, 0, none⟩ = some (.slice A n c) ∧ w1.cell? ⟨w.heap.size, 1, none⟩ = some (.int .i64 r) ∧ w1.cell? ⟨w.heap.size, 2, none⟩ = some (.slice FA fn fc) ∧ w1.cell? ⟨w.heap.size + 1, 3, none⟩ = some (.int .i64 l) ∧ w1.cell? ⟨w.heap.size + 1, 4, none⟩ = some (.int .i64 rr)) := ⟨c0, c1, c2, d3, d4⟩
  clear HB G0 o1 o2 c0 c1 c2 d3 d4
  go_region_held3 (fun w' : World => w'.cell? ⟨w.heap.size, 0, none⟩ = some (.slice A n c) ∧ w'.cell? ⟨w.heap.size, 1, none⟩ = some (.int .i64 r) ∧ w'.cell? ⟨w.heap.size, 2, none⟩ = some (.slice FA fn fc) ∧ w'.cell? ⟨w.heap.size + 1, 3, none⟩ = some (.int .i64 l) ∧ w'.cell? ⟨w.heap.size + 1, 4, none⟩ = some (.int .i64 rr)) (first | exact HS.out)
    (first
      | (go_at_call 92; refine (HC.out _ (by first | exact L1.out | exact R1.out) (by first | exact L2.out | exact R2.out) _ (by first | exact GK.out | exact grown_drew GK.out | exact grown_drewN GK.out _)).mono ?_; rintro e w8 ⟨rfl, g⟩; have GK : Hid (w.grownBy w8 none) := (by first | exact grown_trans GK.out g | exact grown_trans (grown_drew GK.out) g | exact grown_trans (grown_drewN GK.out _) g); have HS := Lib.hid (held5x g HS.out); clear g))
  go_wp2
  go_ret
  exact ⟨ret_int rfl, by first | exact GK.out | exact grown_drew GK.out | exact grown_drewN GK.out _⟩

set_option maxHeartbeats 4000000 in
theorem TDue_any (A : Option Addr) (n c : Nat) (ns : List Nd) (r : Int) (FA : Option Addr) (fn fc : Nat) (x0 x1 x2 l rr hh m : Int) (w : World) {B : Nat} (h : Elts nodeE w B A n ns) (hB : B ≤ w.heap.size) (l1 : -1 ≤ l) (l2 : l < n) (r1 : -1 ≤ rr) (r2 : rr < n) (b1 : 0 ≤ hOf ns l) (b2 : hOf ns l ≤ 1000) (b3 : 0 ≤ hOf ns rr) (b4 : hOf ns rr ≤ 1000) :
    Calls Try.prog 80 #[.agg #[.slice A n c, .int .i64 r, .slice FA fn fc], .agg #[.int .i64 x0, .int .i64 x1, .int .i64 x2, .int .i64 l, .int .i64 rr, .int .i64 hh, .int .i64 m]] w (Says w (.tuple #[.int .i64 (dueH ns l rr), .int .i64 (dueM ns x1 l rr)])) := by
  have HB := Lib.hid (box2 (w := w) (T := 72) (U := 64) [.slice A n c, .int .i64 r, .slice FA fn fc] [.int .i64 x0, .int .i64 x1, .int .i64 x2, .int .i64 l, .int .i64 rr, .int .i64 hh, .int .i64 m] (World.grownBy.refl _ none))
  have HC : Hid (∀ p, -1 ≤ p → p < (n : Int) → ∀ wx, w.grownBy wx none → Calls Try.prog 92 #[.agg #[.slice A n c, .int .i64 r, .slice FA fn fc], .int .i64 p] wx (Says wx (.int .i64 (hOf ns p)))) := fun p h1 h2 wx g => THeight_any A n c ns r FA fn fc p wx (h.grown hB g) (Nat.le_trans hB g.size) h1 h2
  have HM : Hid (∀ p, -1 ≤ p → p < (n : Int) → ∀ wx, w.grownBy wx none → Calls Try.prog 93 #[.agg #[.slice A n c, .int .i64 r, .slice FA fn fc], .int .i64 p] wx (Says wx (.int .i64 (mOf ns p)))) := fun p h1 h2 wx g => TMost_any A n c ns r FA fn fc p wx (h.grown hB g) (Nat.le_trans hB g.size) h1 h2
  have L1 := Lib.hid l1
  have L2 := Lib.hid l2
  have R1 := Lib.hid r1
  have R2 := Lib.hid r2
  clear h hB l1 l2 r1 r2
  obtain ⟨M1, hM1⟩ : ∃ M, (if hOf ns l < hOf ns rr then hOf ns rr else hOf ns l) = M := ⟨_, rfl⟩
  obtain ⟨M2, hM2⟩ : ∃ M, (if x1 < mOf ns l then mOf ns l else x1) = M := ⟨_, rfl⟩
  obtain ⟨M3, hM3⟩ : ∃ M, (if M2 < mOf ns rr then mOf ns rr else M2) = M := ⟨_, rfl⟩
  have E1 : Hid (dueH ns l rr = 1 + M1) := by rw [Hid, dueH, ← hM1]
  have E2 : Hid (dueM ns x1 l rr = M3) := by rw [Hid, ← hM3, ← hM2]; rfl
  have hwr : IntKind.i64.wrap (1 + M1) = 1 + M1 := IntWalk.i64_in _ (by rw [← hM1]; split <;> omega)
  go_enter Try.func80, Try.ntmps80
  go_upto_region 1 with fail
  obtain ⟨G0, o1, o2⟩ := HB.out
  generalize (w.alloc (.cells #[.slice A n c, .int .i64 r, .slice FA fn fc] 72)).alloc (.cells #[.int .i64 x0, .int .i64 x1, .int .i64 x2, .int .i64 l, .int .i64 rr, .int .i64 hh, .int .i64 m] 64) = w1 at *
  obtain ⟨c0, c1, c2⟩ := o1.three
  have d1 := o2.cell 1
  have d3 := o2.cell 3
  have d4 := o2.cell 4
  have GK := Lib.hid G0
  have HS : Hid (w1.cell? ⟨w.heap.size, 0, none⟩ = some (.slice A n c) ∧ w1.cell? ⟨w.heap.size, 1, none⟩ = some (.int .i64 r) ∧ w1.cell? ⟨w.heap.size, 2, none⟩ = some (.slice FA fn fc) ∧ w1.cell? ⟨w.heap.size + 1, 1, none⟩ = some (.int .i64 x1) ∧ w1.cell? ⟨w.heap.size + 1, 3, none⟩ = some (.int .i64 l) ∧ w1.cell? ⟨w.heap.size + 1, 4, none⟩ = some (.int .i64 rr)) := ⟨c0, c1, c2, d1, d3, d4⟩
  clear HB G0 o1 o2 c0 c1 c2 d1 d3 d4
  go_region_held3 (fun w' : World => w'.cell? ⟨w.heap.size, 0, none⟩ = some (.slice A n c) ∧ w'.cell? ⟨w.heap.size, 1, none⟩ = some (.int .i64 r) ∧ w'.cell? ⟨w.heap.size, 2, none⟩ = some (.slice FA fn fc) ∧ w'.cell? ⟨w.heap.size + 1, 1, none⟩ = some (.int .i64 x1) ∧ w'.cell? ⟨w.heap.size + 1, 3, none⟩ = some (.int .i64 l) ∧ w'.cell? ⟨w.heap.size + 1, 4, none⟩ = some (.int .i64 rr)) (first | exact HS.out)
    (first
      | (go_at_call 92; refine (HC.out _ (by first | exact L1.out | exact R1.out) (by first | exact L2.out | exact R2.out) _ (by first | exact GK.out | exact grown_drew GK.out | exact grown_drewN GK.out _)).mono ?_; rintro e w8 ⟨rfl, g⟩; have GK : Hid (w.grownBy w8 none) := (by first | exact grown_trans GK.out g | exact grown_trans (grown_drew GK.out) g | exact grown_trans (grown_drewN GK.out _) g); have HS := Lib.hid (held6x g HS.out); clear g)
      | (go_at_call 93; refine (HM.out _ (by first | exact L1.out | exact R1.out) (by first | exact L2.out | exact R2.out) _ (by first | exact GK.out | exact grown_drew GK.out | exact grown_drewN GK.out _)).mono ?_; rintro e w8 ⟨rfl, g⟩; have GK : Hid (w.grownBy w8 none) := (by first | exact grown_trans GK.out g | exact grown_trans (grown_drew GK.out) g | exact grown_trans (grown_drewN GK.out _) g); have HS := Lib.hid (held6x g HS.out); clear g))
  go_wp2
  all_goals go_ret2
  all_goals exact ⟨by rw [E1.out, E2.out]; rfl, by first | exact GK.out | exact grown_drew GK.out | exact grown_drewN GK.out _⟩

end Go.Proofs.Ytgfehlmiejnonaa
