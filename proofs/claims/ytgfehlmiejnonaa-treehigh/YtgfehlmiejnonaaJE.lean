/-
  A shape in memory; a Node settled, one raised. A Node evened. An item hung below a tree. The first item below a place; a place made free. A place made free. An item dropped from below a place.
-/
import Derived.Test.YtgfehlmiejnonaaTreeT
import Derived.Test.YtgfehlmiejnonaaJA
import Derived.Test.YtgfehlmiejnonaaKpt
import Derived.Test.YtgfehlmiejnonaaTurn
import Derived.Test.YtgfehlmiejnonaaTreeB
import Derived.BigRegion

set_option maxRecDepth 20000
namespace Go.Proofs.Ytgfehlmiejnonaa
open Go.RowKit

/-- A shape in memory: the box, the Nodes of the call's own. -/
structure Shp (w : World) (base q g n c : Nat) (ns : List Nd) (r : Int) (FA : Option Addr) (fn fc : Nat) : Prop where
  oq : Own w q 72 [.slice (some ⟨g, 0, none⟩) n c, .int .i64 r, .slice FA fn fc]
  mn : MineE nodeE w base (.slice (some ⟨g, 0, none⟩) n c) n ns
  ne : q ≠ g

theorem Shp.len {w : World} {base q g n c : Nat} {ns : List Nd} {r : Int} {FA : Option Addr} {fn fc : Nat} (h : Shp w base q g n c ns r FA fn fc) : ns.length = n := h.mn.length
theorem Shp.lt {w : World} {base q g n c : Nat} {ns : List Nd} {r : Int} {FA : Option Addr} {fn fc : Nat} (h : Shp w base q g n c ns r FA fn fc) : g < w.heap.size := h.mn.own_lt g rfl
theorem Shp.row {w : World} {base q g n c : Nat} {ns : List Nd} {r : Int} {FA : Option Addr} {fn fc : Nat} (h : Shp w base q g n c ns r FA fn fc) : Elts nodeE w w.heap.size (some ⟨g, 0, none⟩) n ns := by
  obtain ⟨A, c', e, _, _, hr⟩ := h.mn.row
  injection e with e1 e2 e3
  subst e1
  exact hr
theorem Shp.cells {w : World} {base q g n c : Nat} {ns : List Nd} {r : Int} {FA : Option Addr} {fn fc : Nat} (h : Shp w base q g n c ns r FA fn fc) {k : Nat} (hk : k < n) :
    w.cell? ⟨g, k * 7, none⟩ = some (.int .i64 (nd ns k).1.1) ∧ w.cell? ⟨g, k * 7 + 1, none⟩ = some (.int .i64 (nd ns k).1.2.1) ∧ w.cell? ⟨g, k * 7 + 2, none⟩ = some (.int .i64 (nd ns k).1.2.2) ∧
      w.cell? ⟨g, k * 7 + 3, none⟩ = some (.int .i64 (nd ns k).2.1) ∧ w.cell? ⟨g, k * 7 + 4, none⟩ = some (.int .i64 (nd ns k).2.2.1) ∧ w.cell? ⟨g, k * 7 + 5, none⟩ = some (.int .i64 (nd ns k).2.2.2.1) ∧ w.cell? ⟨g, k * 7 + 6, none⟩ = some (.int .i64 (nd ns k).2.2.2.2) := by
  obtain ⟨b, off, e, _, hc⟩ := h.row.nds (by omega)
  injection e with e
  injection e with e1 e2
  subst e1 e2
  have := hc k hk
  simpa using this
theorem Shp.frozen {w : World} {base q g n c : Nat} {ns : List Nd} {r : Int} {FA : Option Addr} {fn fc : Nat} (h : Shp w base q g n c ns r FA fn fc) (i : Nat) : w.frozen? ⟨g, i, none⟩ = false := h.mn.frozen i
theorem Shp.grown {w w' : World} {base q g n c : Nat} {ns : List Nd} {r : Int} {FA : Option Addr} {fn fc : Nat} (h : Shp w base q g n c ns r FA fn fc) (k : w.grownBy w' none) : Shp w' base q g n c ns r FA fn fc := ⟨h.oq.kept k, h.mn.kept k, h.ne⟩
theorem Shp.nds {w : World} {base q g n c : Nat} {ns : List Nd} {r : Int} {FA : Option Addr} {fn fc : Nat} (h : Shp w base q g n c ns r FA fn fc) {k : Nat} (hk : k < n) : ns[k]? = some (nd ns k) := by
  have := h.len
  unfold nd
  rw [List.getElem?_eq_getElem (by omega)]
  rfl
/-- One number of a Node written over. -/
theorem Shp.put {w : World} {base q g n c : Nat} {ns : List Nd} {r : Int} {FA : Option Addr} {fn fc : Nat} (h : Shp w base q g n c ns r FA fn fc) {k : Nat} (hk : k < n) (j : Nat) (hj : j < 7) {x0 : Nd} (hx : nd ns k = x0) (x : Nd) (u : Value) (he : nodeE.enc x = (nodeE.enc x0).set j u) :
    Shp (w.setCell ⟨g, k * 7 + j, none⟩ u) base q g n c (ns.set k x) r FA fn fc :=
  ⟨h.oq.setOther (fun e => h.ne e.symm) _, h.mn.put k j x0 x u (by rw [← hx]; exact h.nds hk) hj he, h.ne⟩

def onG (g : Nat) : Nat → Prop := fun i => i = g

/-- What a call leaves of a shape: other Nodes, and a value. -/
def ShpPost (w : World) (base q g n c : Nat) (ns : List Nd) (r : Int) (FA : Option Addr) (fn fc : Nat) (v : Value) (e : Ending) (w' : World) : Prop :=
  e = .returned v ∧ Shp w' base q g n c ns r FA fn fc ∧ Kpt w w' (onG g)

set_option maxHeartbeats 4000000 in
theorem Settle_any (base q g n c : Nat) (ns : List Nd) (r : Int) (FA : Option Addr) (fn fc k : Nat) (w : World) (h : Shp w base q g n c ns r FA fn fc) (hk : k < n)
    (l1 : -1 ≤ (nd ns k).2.1) (l2 : (nd ns k).2.1 < n) (r1 : -1 ≤ (nd ns k).2.2.1) (r2 : (nd ns k).2.2.1 < n) (b1 : 0 ≤ hOf ns (nd ns k).2.1) (b2 : hOf ns (nd ns k).2.1 ≤ 1000) (b3 : 0 ≤ hOf ns (nd ns k).2.2.1) (b4 : hOf ns (nd ns k).2.2.1 ≤ 1000) :
    Calls Try.prog 85 #[.pointer (some ⟨q, 0, none⟩), .int .i64 (k : Nat)] w (ShpPost w base q g n c (settleF ns k) r FA fn fc (.tuple #[])) := by
  have H := Lib.hid h
  obtain ⟨x, hx⟩ : ∃ x, nd ns k = x := ⟨_, rfl⟩
  have HX := Lib.hid hx
  obtain ⟨c0, c1, c2⟩ := h.oq.three
  obtain ⟨d0, d1, d2, d3, d4, d5, d6⟩ := h.cells hk
  have f5 := h.frozen (k * 7 + 5)
  have f6 := h.frozen (k * 7 + 6)
  rw [hx] at d0 d1 d2 d3 d4 d5 d6 l1 l2 r1 r2 b1 b2 b3 b4
  have ES : Hid (settleF ns k = (ns.set k (x.1, x.2.1, x.2.2.1, dueH ns x.2.1 x.2.2.1, x.2.2.2.2)).set k (x.1, x.2.1, x.2.2.1, dueH ns x.2.1 x.2.2.1, dueM ns x.1.2.1 x.2.1 x.2.2.1)) := by rw [Hid, List.set_set, settleF, hx]
  clear hx
  obtain ⟨⟨x0, x1, x2⟩, xl, xr, xh, xm⟩ := x
  simp only at d0 d1 d2 d3 d4 d5 d6 l1 l2 r1 r2 b1 b2 b3 b4 ES
  have CD : Hid (∀ wx, w.grownBy wx none → Calls Try.prog 80 #[.agg #[.slice (some ⟨g, 0, none⟩) n c, .int .i64 r, .slice FA fn fc], .agg #[.int .i64 x0, .int .i64 x1, .int .i64 x2, .int .i64 xl, .int .i64 xr, .int .i64 xh, .int .i64 xm]] wx (Says wx (.tuple #[.int .i64 (dueH ns xl xr), .int .i64 (dueM ns x1 xl xr)]))) :=
    fun wx gx => TDue_any (some ⟨g, 0, none⟩) n c ns r FA fn fc x0 x1 x2 xl xr xh xm wx (h.grown gx).row (Nat.le_refl _) l1 l2 r1 r2 b1 b2 b3 b4
  generalize dueH ns xl xr = DH at *
  generalize dueM ns x1 xl xr = DM at *
  have hlt := h.lt
  clear h l1 l2 r1 r2 b1 b2 b3 b4
  have HS : Hid ((w.cell? ⟨q, 0, none⟩ = some (.slice (some ⟨g, 0, none⟩) n c) ∧ w.cell? ⟨q, 1, none⟩ = some (.int .i64 r) ∧ w.cell? ⟨q, 2, none⟩ = some (.slice FA fn fc)) ∧ (w.cell? ⟨g, k * 7, none⟩ = some (.int .i64 x0) ∧ w.cell? ⟨g, k * 7 + 1, none⟩ = some (.int .i64 x1) ∧ w.cell? ⟨g, k * 7 + 2, none⟩ = some (.int .i64 x2) ∧ w.cell? ⟨g, k * 7 + 3, none⟩ = some (.int .i64 xl) ∧ w.cell? ⟨g, k * 7 + 4, none⟩ = some (.int .i64 xr) ∧ w.cell? ⟨g, k * 7 + 5, none⟩ = some (.int .i64 xh) ∧ w.cell? ⟨g, k * 7 + 6, none⟩ = some (.int .i64 xm))) := ⟨⟨c0, c1, c2⟩, d0, d1, d2, d3, d4, d5, d6⟩
  go_enter Try.func85, Try.ntmps85
  go_upto_region 1 with fail
  have GK : Hid (w.grownBy w none) := World.grownBy.refl _ _
  go_region_law (first
    | (go_simp; go_at_call 80; refine (CD.out _ (by first | exact World.grownBy.refl _ _ | exact grown_drew (World.grownBy.refl _ _) | exact grown_drewN (World.grownBy.refl _ _) _)).mono ?_; rintro e w8 ⟨rfl, g8⟩; have GK : Hid (w.grownBy w8 none) := (by first | exact g8 | exact grown_undrew g8); have SH := Lib.hid (H.out.grown GK.out); have f5 := SH.out.frozen (k * 7 + 5); have f6 := SH.out.frozen (k * 7 + 6); have d5 := kept GK.out d5; have d6 := kept GK.out d6; clear g8))
  all_goals go_end0
  all_goals
    rw [ES.out]
    exact ⟨rfl, (SH.out.put hk 5 (by omega) HX.out ((x0, x1, x2), xl, xr, DH, xm) (.int .i64 DH) rfl).put hk 6 (by omega) (nd_here (by rw [H.out.len]; exact hk) _) ((x0, x1, x2), xl, xr, DH, DM) (.int .i64 DM) rfl, ((Kpt.of GK.out (onG g)).set rfl _).set rfl _⟩

set_option maxHeartbeats 4000000 in
theorem RaiseL_any (base q g n c : Nat) (ns : List Nd) (r : Int) (FA : Option Addr) (fn fc k t : Nat) (A B C : Tr) (w : World) (h : Shp w base q g n c ns r FA fn fc) (hp : RaisePre ns k t A B C) (l1 : (nd ns k).2.1 = (t : Nat)) (r1 : (nd ns k).2.2.1 = C.top) (l2 : (nd ns t).2.1 = A.top) (r2 : (nd ns t).2.2.1 = B.top) (hA : (A.sum ns).2.1 ≤ 100) (hB : (B.sum ns).2.1 ≤ 100) (hC : (C.sum ns).2.1 ≤ 100) :
    Calls Try.prog 84 #[.pointer (some ⟨q, 0, none⟩), .int .i64 (k : Nat)] w (ShpPost w base q g n c (raiseLF ns k t) r FA fn fc (.int .i64 (t : Nat))) := by
  have H := Lib.hid h
  have HP := Lib.hid hp
  have hk : k < n := by have := hp.hk; have := h.len; omega
  have ht : t < n := by have := hp.ht; have := h.len; omega
  have hkt := hp.ne
  obtain ⟨-, mid1, mid2⟩ := raiseL_is hp r1 l2 r2
  have M1 := Lib.hid mid1
  have M2 := Lib.hid mid2
  clear mid1 mid2
  have TA := Lib.hid (Tr.top_in hp.okA)
  have TB := Lib.hid (Tr.top_in hp.okB)
  have TC := Lib.hid (Tr.top_in hp.okC)
  have PA : Hid (0 ≤ (A.sum ns).2.1 ∧ (A.sum ns).2.1 ≤ 100) := ⟨(Tr.h_bd hp.okA).1, hA⟩
  have PB : Hid (0 ≤ (B.sum ns).2.1 ∧ (B.sum ns).2.1 ≤ 100) := ⟨(Tr.h_bd hp.okB).1, hB⟩
  have PC : Hid (0 ≤ (C.sum ns).2.1 ∧ (C.sum ns).2.1 ≤ 100) := ⟨(Tr.h_bd hp.okC).1, hC⟩
  rw [h.len] at TA TB TC
  obtain ⟨c0, c1, c2⟩ := h.oq.three
  obtain ⟨_, _, _, d3, d4, _, _⟩ := h.cells hk
  obtain ⟨_, _, _, t3, t4, _, _⟩ := h.cells ht
  rw [l1] at d3
  rw [r1] at d4
  rw [l2] at t3
  rw [r2] at t4
  have f3 := h.frozen (k * 7 + 3)
  have f4 := h.frozen (t * 7 + 4)
  have R2 := Lib.hid r2
  have HL := Lib.hid h.len
  clear h hp hA hB hC l1 r1 l2 r2
  go_enter Try.func84, Try.ntmps84
  go_upto_region 3 with fail
  go_region
  clear c0 c1 c2 d3 d4 t3 t4 f3 f4
  have S0 : Shp ((w.setCell ⟨g, k * 7 + 3, none⟩ (.int .i64 B.top)).setCell ⟨g, t * 7 + 4, none⟩ (.int .i64 (k : Nat))) base q g n c (setR (setL ns k (nd ns t).2.2.1) t k) r FA fn fc := by
    rw [R2.out]
    exact (H.out.put hk 3 (by omega) rfl ((nd ns k).1, B.top, (nd ns k).2.2) (.int .i64 B.top) rfl).put ht 4 (by omega) rfl _ (.int .i64 (k : Nat)) rfl
  have S1 := Lib.hid (S0.grown (grown_drew (World.grownBy.refl _ none)))
  have K1 : Hid (Kpt w ((w.setCell ⟨g, k * 7 + 3, none⟩ (.int .i64 B.top)).setCell ⟨g, t * 7 + 4, none⟩ (.int .i64 (k : Nat))).drew (onG g)) := (((Kpt.refl w (onG g)).set rfl _).set rfl _).drew
  clear S0 H
  generalize ((w.setCell ⟨g, k * 7 + 3, none⟩ (.int .i64 B.top)).setCell ⟨g, t * 7 + 4, none⟩ (.int .i64 (k : Nat))).drew = w1 at *
  obtain ⟨n1, e1⟩ : ∃ n1, setR (setL ns k (nd ns t).2.2.1) t k = n1 := ⟨_, rfl⟩
  have E1 : Hid (raiseLF ns k t = settleF (settleF n1 k) t) := by rw [Hid, ← e1]; rfl
  rw [e1] at S1 M1 M2
  clear e1
  go_wp2_with fail
  refine (Settle_any base q g n c n1 r FA fn fc k w1 S1.out hk (by rw [M1.out.1]; exact TB.out.1) (by rw [M1.out.1]; exact TB.out.2) (by rw [M1.out.2.1]; exact TC.out.1) (by rw [M1.out.2.1]; exact TC.out.2) (by rw [M1.out.1, M1.out.2.2.1]; exact PB.out.1) (by rw [M1.out.1, M1.out.2.2.1]; have := PB.out.2; omega) (by rw [M1.out.2.1, M1.out.2.2.2]; exact PC.out.1) (by rw [M1.out.2.1, M1.out.2.2.2]; have := PC.out.2; omega)).mono ?_
  rintro e w2 ⟨rfl, s2, k2⟩
  have S2 := Lib.hid s2
  have K2 := Lib.hid (K1.out.trans k2)
  clear s2 k2 S1 K1
  go_wp2_with fail
  refine (Settle_any base q g n c (settleF n1 k) r FA fn fc t w2 S2.out ht (by rw [M2.out.1]; exact TA.out.1) (by rw [M2.out.1]; exact TA.out.2) (by rw [M2.out.2.1]; omega) (by rw [M2.out.2.1]; omega) (by rw [M2.out.1, M2.out.2.2.1]; exact PA.out.1) (by rw [M2.out.1, M2.out.2.2.1]; have := PA.out.2; omega) (by rw [M2.out.2.1, M2.out.2.2.2]; have := PB.out.1; omega) (by rw [M2.out.2.1, M2.out.2.2.2]; have := PB.out.2; have := PC.out.2; omega)).mono ?_
  rintro e w3 ⟨rfl, s3, k3⟩
  have S3 := Lib.hid s3
  have K3 := Lib.hid (K2.out.trans k3)
  clear s3 k3 S2 K2
  go_wp2
  go_ret
  exact ⟨rfl, by rw [E1.out]; exact S3.out, K3.out⟩

set_option maxHeartbeats 4000000 in
theorem RaiseR_any (base q g n c : Nat) (ns : List Nd) (r : Int) (FA : Option Addr) (fn fc k t : Nat) (A B C : Tr) (w : World) (h : Shp w base q g n c ns r FA fn fc) (hp : RaisePre ns k t A B C) (l1 : (nd ns k).2.1 = A.top) (r1 : (nd ns k).2.2.1 = (t : Nat)) (l2 : (nd ns t).2.1 = B.top) (r2 : (nd ns t).2.2.1 = C.top) (hA : (A.sum ns).2.1 ≤ 100) (hB : (B.sum ns).2.1 ≤ 100) (hC : (C.sum ns).2.1 ≤ 100) :
    Calls Try.prog 83 #[.pointer (some ⟨q, 0, none⟩), .int .i64 (k : Nat)] w (ShpPost w base q g n c (raiseRF ns k t) r FA fn fc (.int .i64 (t : Nat))) := by
  have H := Lib.hid h
  have HP := Lib.hid hp
  have hk : k < n := by have := hp.hk; have := h.len; omega
  have ht : t < n := by have := hp.ht; have := h.len; omega
  have hkt := hp.ne
  obtain ⟨-, mid1, mid2⟩ := raiseR_is hp l1 l2 r2
  have M1 := Lib.hid mid1
  have M2 := Lib.hid mid2
  clear mid1 mid2
  have TA := Lib.hid (Tr.top_in hp.okA)
  have TB := Lib.hid (Tr.top_in hp.okB)
  have TC := Lib.hid (Tr.top_in hp.okC)
  have PA : Hid (0 ≤ (A.sum ns).2.1 ∧ (A.sum ns).2.1 ≤ 100) := ⟨(Tr.h_bd hp.okA).1, hA⟩
  have PB : Hid (0 ≤ (B.sum ns).2.1 ∧ (B.sum ns).2.1 ≤ 100) := ⟨(Tr.h_bd hp.okB).1, hB⟩
  have PC : Hid (0 ≤ (C.sum ns).2.1 ∧ (C.sum ns).2.1 ≤ 100) := ⟨(Tr.h_bd hp.okC).1, hC⟩
  rw [h.len] at TA TB TC
  obtain ⟨c0, c1, c2⟩ := h.oq.three
  obtain ⟨_, _, _, d3, d4, _, _⟩ := h.cells hk
  obtain ⟨_, _, _, t3, t4, _, _⟩ := h.cells ht
  rw [l1] at d3
  rw [r1] at d4
  rw [l2] at t3
  rw [r2] at t4
  have f4 := h.frozen (k * 7 + 4)
  have f3 := h.frozen (t * 7 + 3)
  have R2 := Lib.hid l2
  have HL := Lib.hid h.len
  clear h hp hA hB hC l1 r1 l2 r2
  go_enter Try.func83, Try.ntmps83
  go_upto_region 3 with fail
  go_region
  clear c0 c1 c2 d3 d4 t3 t4 f4 f3
  have S0 : Shp ((w.setCell ⟨g, k * 7 + 4, none⟩ (.int .i64 B.top)).setCell ⟨g, t * 7 + 3, none⟩ (.int .i64 (k : Nat))) base q g n c (setL (setR ns k (nd ns t).2.1) t k) r FA fn fc := by
    rw [R2.out]
    exact (H.out.put hk 4 (by omega) rfl ((nd ns k).1, (nd ns k).2.1, B.top, (nd ns k).2.2.2) (.int .i64 B.top) rfl).put ht 3 (by omega) rfl _ (.int .i64 (k : Nat)) rfl
  have S1 := Lib.hid (S0.grown (grown_drew (World.grownBy.refl _ none)))
  have K1 : Hid (Kpt w ((w.setCell ⟨g, k * 7 + 4, none⟩ (.int .i64 B.top)).setCell ⟨g, t * 7 + 3, none⟩ (.int .i64 (k : Nat))).drew (onG g)) := (((Kpt.refl w (onG g)).set rfl _).set rfl _).drew
  clear S0 H
  generalize ((w.setCell ⟨g, k * 7 + 4, none⟩ (.int .i64 B.top)).setCell ⟨g, t * 7 + 3, none⟩ (.int .i64 (k : Nat))).drew = w1 at *
  obtain ⟨n1, e1⟩ : ∃ n1, setL (setR ns k (nd ns t).2.1) t k = n1 := ⟨_, rfl⟩
  have E1 : Hid (raiseRF ns k t = settleF (settleF n1 k) t) := by rw [Hid, ← e1]; rfl
  rw [e1] at S1 M1 M2
  clear e1
  go_wp2_with fail
  refine (Settle_any base q g n c n1 r FA fn fc k w1 S1.out hk (by rw [M1.out.1]; exact TA.out.1) (by rw [M1.out.1]; exact TA.out.2) (by rw [M1.out.2.1]; exact TB.out.1) (by rw [M1.out.2.1]; exact TB.out.2) (by rw [M1.out.1, M1.out.2.2.1]; exact PA.out.1) (by rw [M1.out.1, M1.out.2.2.1]; have := PA.out.2; omega) (by rw [M1.out.2.1, M1.out.2.2.2]; exact PB.out.1) (by rw [M1.out.2.1, M1.out.2.2.2]; have := PB.out.2; omega)).mono ?_
  rintro e w2 ⟨rfl, s2, k2⟩
  have S2 := Lib.hid s2
  have K2 := Lib.hid (K1.out.trans k2)
  clear s2 k2 S1 K1
  go_wp2_with fail
  refine (Settle_any base q g n c (settleF n1 k) r FA fn fc t w2 S2.out ht (by rw [M2.out.1]; omega) (by rw [M2.out.1]; omega) (by rw [M2.out.2.1]; exact TC.out.1) (by rw [M2.out.2.1]; exact TC.out.2) (by rw [M2.out.1, M2.out.2.2.1]; have := PA.out.1; omega) (by rw [M2.out.1, M2.out.2.2.1]; have := PA.out.2; have := PB.out.2; omega) (by rw [M2.out.2.1, M2.out.2.2.2]; exact PC.out.1) (by rw [M2.out.2.1, M2.out.2.2.2]; have := PC.out.2; omega)).mono ?_
  rintro e w3 ⟨rfl, s3, k3⟩
  have S3 := Lib.hid s3
  have K3 := Lib.hid (K2.out.trans k3)
  clear s3 k3 S2 K2
  go_wp2
  go_ret
  exact ⟨rfl, by rw [E1.out]; exact S3.out, K3.out⟩

end Go.Proofs.Ytgfehlmiejnonaa

set_option maxRecDepth 20000
namespace Go.Proofs.Ytgfehlmiejnonaa
open Go.RowKit

theorem held11 {w w1 : World} {a0 a1 a2 b0 b1 b2 b3 b4 b5 b6 z : Addr} {x0 x1 x2 y0 y1 y2 y3 y4 y5 y6 v : Value} (g : w.grownBy w1 none)
    (h : ((w.cell? a0 = some x0 ∧ w.cell? a1 = some x1 ∧ w.cell? a2 = some x2) ∧ (w.cell? b0 = some y0 ∧ w.cell? b1 = some y1 ∧ w.cell? b2 = some y2 ∧ w.cell? b3 = some y3 ∧ w.cell? b4 = some y4 ∧ w.cell? b5 = some y5 ∧ w.cell? b6 = some y6)) ∧ w.cell? z = some v) :
    ((w1.cell? a0 = some x0 ∧ w1.cell? a1 = some x1 ∧ w1.cell? a2 = some x2) ∧ (w1.cell? b0 = some y0 ∧ w1.cell? b1 = some y1 ∧ w1.cell? b2 = some y2 ∧ w1.cell? b3 = some y3 ∧ w1.cell? b4 = some y4 ∧ w1.cell? b5 = some y5 ∧ w1.cell? b6 = some y6)) ∧ w1.cell? z = some v :=
  ⟨held10 g h.1, g.cell h.2 (by simp)⟩

def EvenPost (w : World) (base q g n c : Nat) (ns : List Nd) (r : Int) (FA : Option Addr) (fn fc k : Nat) (l rt : Tr) (e : Ending) (w' : World) : Prop :=
  ∃ ns' T, e = .returned (.int .i64 T.top) ∧ EvenIs ns k l rt ns' T ∧ Shp w' base q g n c ns' r FA fn fc ∧ Kpt w w' (onG g)

theorem few_places {ps : List Nat} {n : Nat} (hn : ps.Nodup) (h : ∀ k ∈ ps, k < n) : ps.length ≤ n := by
  have gen : ∀ (ps : List Nat) (s : List Bool), Marks s ps (ps.foldl (fun a k => a.set k true) s) := by
    intro ps
    induction ps with
    | nil => intro s; exact ⟨rfl, fun k _ => by simp⟩
    | cons a r ih =>
      intro s
      refine ⟨by rw [List.foldl_cons, (ih _).1, List.length_set], fun k hk => ?_⟩
      rw [List.foldl_cons, (ih _).2 k (by simpa using hk), marked_set hk]
      simp only [List.mem_cons]
      cases marked s k <;> simp
  have m := marks_less (s := List.replicate n false) hn (fun k hk => ⟨by simpa using h k hk, marked_rep (h k hk)⟩) (gen ps (List.replicate n false))
  rw [unseen_rep] at m
  omega

theorem few_high {ns : List Nd} {T : Tr} (h32 : ns.length ≤ 32) (ok : T.ok ns) (hn : T.places.Nodup) : 0 ≤ (T.sum ns).2.1 ∧ (T.sum ns).2.1 ≤ 32 := by
  obtain ⟨a, b⟩ := Tr.h_bd ok
  rw [Tr.sum_len] at b
  have := few_places hn (Tr.ok_in ok)
  exact ⟨a, by omega⟩

/-- What lean tells of a Node in a shape. -/
theorem lean_of {w : World} {base q g n c : Nat} {ns : List Nd} {r : Int} {FA : Option Addr} {fn fc : Nat} (h : Shp w base q g n c ns r FA fn fc) (h32 : n ≤ 32) {A B : Tr} (okA : A.ok ns) (okB : B.ok ns) (nA : A.places.Nodup) (nB : B.places.Nodup) (x0 x1 x2 xh xm : Int) :
    ∀ wx, w.grownBy wx none → Calls Try.prog 79 #[.agg #[.slice (some ⟨g, 0, none⟩) n c, .int .i64 r, .slice FA fn fc], .agg #[.int .i64 x0, .int .i64 x1, .int .i64 x2, .int .i64 A.top, .int .i64 B.top, .int .i64 xh, .int .i64 xm]] wx (Says wx (.int .i64 ((A.sum ns).2.1 - (B.sum ns).2.1))) := by
  intro wx gx
  have hl := h.len
  obtain ⟨a1, a2⟩ := Tr.top_in okA
  obtain ⟨b1, b2⟩ := Tr.top_in okB
  obtain ⟨ea, _⟩ := Tr.hm okA
  obtain ⟨eb, _⟩ := Tr.hm okB
  obtain ⟨p1, p2⟩ := few_high (by omega) okA nA
  obtain ⟨q1, q2⟩ := few_high (by omega) okB nB
  rw [← ea, ← eb]
  exact TLean_any (some ⟨g, 0, none⟩) n c ns r FA fn fc x0 x1 x2 A.top B.top xh xm wx (h.grown gx).row (Nat.le_refl _) a1 (by omega) b1 (by omega) (by omega) (by omega) (by omega) (by omega)

set_option maxHeartbeats 4000000 in
theorem Even_any (base q g n c : Nat) (ns : List Nd) (r : Int) (FA : Option Addr) (fn fc k : Nat) (l rt : Tr) (w : World) (h : Shp w base q g n c ns r FA fn fc) (hp : EvenPre ns k l rt) :
    Calls Try.prog 65 #[.pointer (some ⟨q, 0, none⟩), .int .i64 (k : Nat)] w (EvenPost w base q g n c ns r FA fn fc k l rt) := by
  have hlen := h.len
  have h32 : n ≤ 32 := by have := hp.few; omega
  have hk : k < n := by have := hp.hk; omega
  have HP := Lib.hid hp
  have H := Lib.hid h
  obtain ⟨o1, o2, o3, o4, o5⟩ := hp.offs
  have L1 := lean_of h h32 hp.okl hp.okr o3 o4
  have BA := Lib.hid (few_high hp.few hp.okl o3)
  have BB := Lib.hid (few_high hp.few hp.okr o4)
  obtain ⟨x, hx⟩ : ∃ x, nd ns k = x := ⟨_, rfl⟩
  have HX := Lib.hid hx
  have e1 := hp.left
  have e2 := hp.right
  obtain ⟨c0, c1, c2⟩ := h.oq.three
  obtain ⟨d0, d1, d2, d3, d4, d5, d6⟩ := h.cells hk
  rw [hx] at d0 d1 d2 d3 d4 d5 d6 e1 e2
  obtain ⟨⟨x0, x1, x2⟩, xl, xr, xh, xm⟩ := x
  simp only at d0 d1 d2 d3 d4 d5 d6 e1 e2
  have hlt := h.lt
  have CL := Lib.hid (L1 x0 x1 x2 xh xm)
  rw [← e1, ← e2] at CL
  have EL := Lib.hid e1
  have ER := Lib.hid e2
  obtain ⟨d, hd⟩ : ∃ d, (l.sum ns).2.1 - (rt.sum ns).2.1 = d := ⟨_, rfl⟩
  rw [hd] at CL
  have HD := Lib.hid hd
  clear h hp o1 o2 o3 o4 o5 L1 hx e1 e2 hd hlen
  have HS : Hid ((w.cell? ⟨q, 0, none⟩ = some (.slice (some ⟨g, 0, none⟩) n c) ∧ w.cell? ⟨q, 1, none⟩ = some (.int .i64 r) ∧ w.cell? ⟨q, 2, none⟩ = some (.slice FA fn fc)) ∧ (w.cell? ⟨g, k * 7, none⟩ = some (.int .i64 x0) ∧ w.cell? ⟨g, k * 7 + 1, none⟩ = some (.int .i64 x1) ∧ w.cell? ⟨g, k * 7 + 2, none⟩ = some (.int .i64 x2) ∧ w.cell? ⟨g, k * 7 + 3, none⟩ = some (.int .i64 xl) ∧ w.cell? ⟨g, k * 7 + 4, none⟩ = some (.int .i64 xr) ∧ w.cell? ⟨g, k * 7 + 5, none⟩ = some (.int .i64 xh) ∧ w.cell? ⟨g, k * 7 + 6, none⟩ = some (.int .i64 xm))) := ⟨⟨c0, c1, c2⟩, d0, d1, d2, d3, d4, d5, d6⟩
  go_enter Try.func65, Try.ntmps65
  go_upto_region 2 with fail
  clear c0 c1 c2 d0 d1 d2 d3 d4 d5 d6
  go_region_held3 (fun w' : World => (w'.cell? ⟨q, 0, none⟩ = some (.slice (some ⟨g, 0, none⟩) n c) ∧ w'.cell? ⟨q, 1, none⟩ = some (.int .i64 r) ∧ w'.cell? ⟨q, 2, none⟩ = some (.slice FA fn fc)) ∧ (w'.cell? ⟨g, k * 7, none⟩ = some (.int .i64 x0) ∧ w'.cell? ⟨g, k * 7 + 1, none⟩ = some (.int .i64 x1) ∧ w'.cell? ⟨g, k * 7 + 2, none⟩ = some (.int .i64 x2) ∧ w'.cell? ⟨g, k * 7 + 3, none⟩ = some (.int .i64 xl) ∧ w'.cell? ⟨g, k * 7 + 4, none⟩ = some (.int .i64 xr) ∧ w'.cell? ⟨g, k * 7 + 5, none⟩ = some (.int .i64 xh) ∧ w'.cell? ⟨g, k * 7 + 6, none⟩ = some (.int .i64 xm))) (first | exact HS.out)
    (first
      | (go_at_call 79; refine (CL.out _ (by first | exact World.grownBy.refl _ _ | exact grown_drew (World.grownBy.refl _ _) | exact grown_drewN (World.grownBy.refl _ _) _)).mono ?_; rintro e w8 ⟨rfl, g8⟩; have GK : Hid (w.grownBy w8 none) := (by first | exact g8 | exact grown_undrew g8); have HS := Lib.hid (held10 GK.out HS.out); clear g8))
  have S8 := Lib.hid (H.out.grown GK.out)
  by_cases q1 : 1 < d
  · have hli := HP.out.okl
    have bb := BB.out
    have hdd := HD.out
    cases l with
    | nil => simp only [Tr.sum] at hdd; omega
    | node t A B =>
      obtain ⟨p1, p2, p3, p4, p5, p6, p7, p8, p9⟩ := hang_parts hli
      have lo := HP.out.offs
      have nA : A.places.Nodup := by have := lo.2.2.1; simp only [Tr.places, List.nodup_cons, List.nodup_append] at this; exact this.2.1
      have nB : B.places.Nodup := by have := lo.2.2.1; simp only [Tr.places, List.nodup_cons, List.nodup_append] at this; exact this.2.2.1
      have ht : t < n := by have := H.out.len; omega
      have ha : 0 ≤ (A.sum ns).2.1 ∧ (A.sum ns).2.1 ≤ 32 := few_high HP.out.few p8 nA
      have hb : 0 ≤ (B.sum ns).2.1 ∧ (B.sum ns).2.1 ≤ 32 := few_high HP.out.few p9 nB
      have EL2 := EL.out
      rw [Tr.top] at EL2
      subst EL2
      have HLT : Hid ((rt.sum ns).2.1 + 1 < ((Tr.node t A B).sum ns).2.1) := by rw [Hid]; omega
      obtain ⟨y, hy⟩ : ∃ y, nd ns t = y := ⟨_, rfl⟩
      obtain ⟨c0, c1, c2⟩ := S8.out.oq.three
      obtain ⟨_, _, _, d3, _, _, _⟩ := S8.out.cells hk
      obtain ⟨t0, t1, t2, t3, t4, t5, t6⟩ := S8.out.cells ht
      rw [HX.out] at d3
      rw [hy] at t0 t1 t2 t3 t4 t5 t6 p6 p7
      have HY := Lib.hid hy
      obtain ⟨⟨y0, y1, y2⟩, yl, yr, yh, ym⟩ := y
      simp only at d3 t0 t1 t2 t3 t4 t5 t6 p6 p7
      have CL2 := Lib.hid (lean_of S8.out h32 p8 p9 nA nB y0 y1 y2 yh ym)
      rw [← p6, ← p7] at CL2
      have P6 := Lib.hid p6
      have P7 := Lib.hid p7
      have PA := Lib.hid ha
      have PB := Lib.hid hb
      obtain ⟨d2, hd2⟩ : ∃ d2, (A.sum ns).2.1 - (B.sum ns).2.1 = d2 := ⟨_, rfl⟩
      rw [hd2] at CL2
      have HD2 := Lib.hid hd2
      have OKB := Lib.hid p9
      clear HS CL hli bb hdd p1 p2 p3 p4 p5 p6 p7 p8 p9 lo nA nB ha hb hy hd2
      have HS : Hid (((w8.cell? ⟨q, 0, none⟩ = some (.slice (some ⟨g, 0, none⟩) n c) ∧ w8.cell? ⟨q, 1, none⟩ = some (.int .i64 r) ∧ w8.cell? ⟨q, 2, none⟩ = some (.slice FA fn fc)) ∧ (w8.cell? ⟨g, t * 7, none⟩ = some (.int .i64 y0) ∧ w8.cell? ⟨g, t * 7 + 1, none⟩ = some (.int .i64 y1) ∧ w8.cell? ⟨g, t * 7 + 2, none⟩ = some (.int .i64 y2) ∧ w8.cell? ⟨g, t * 7 + 3, none⟩ = some (.int .i64 yl) ∧ w8.cell? ⟨g, t * 7 + 4, none⟩ = some (.int .i64 yr) ∧ w8.cell? ⟨g, t * 7 + 5, none⟩ = some (.int .i64 yh) ∧ w8.cell? ⟨g, t * 7 + 6, none⟩ = some (.int .i64 ym))) ∧ w8.cell? ⟨g, k * 7 + 3, none⟩ = some (.int .i64 (t : Nat))) := ⟨⟨⟨c0, c1, c2⟩, t0, t1, t2, t3, t4, t5, t6⟩, d3⟩
      go_upto_region 4 with fail
      clear c0 c1 c2 t0 t1 t2 t3 t4 t5 t6 d3
      go_region_held3 (fun w' : World => ((w'.cell? ⟨q, 0, none⟩ = some (.slice (some ⟨g, 0, none⟩) n c) ∧ w'.cell? ⟨q, 1, none⟩ = some (.int .i64 r) ∧ w'.cell? ⟨q, 2, none⟩ = some (.slice FA fn fc)) ∧ (w'.cell? ⟨g, t * 7, none⟩ = some (.int .i64 y0) ∧ w'.cell? ⟨g, t * 7 + 1, none⟩ = some (.int .i64 y1) ∧ w'.cell? ⟨g, t * 7 + 2, none⟩ = some (.int .i64 y2) ∧ w'.cell? ⟨g, t * 7 + 3, none⟩ = some (.int .i64 yl) ∧ w'.cell? ⟨g, t * 7 + 4, none⟩ = some (.int .i64 yr) ∧ w'.cell? ⟨g, t * 7 + 5, none⟩ = some (.int .i64 yh) ∧ w'.cell? ⟨g, t * 7 + 6, none⟩ = some (.int .i64 ym))) ∧ w'.cell? ⟨g, k * 7 + 3, none⟩ = some (.int .i64 (t : Nat))) (first | exact HS.out)
        (first
      | (go_at_call 79; refine (CL2.out _ (by first | exact World.grownBy.refl _ _ | exact grown_drew (World.grownBy.refl _ _) | exact grown_drewN (World.grownBy.refl _ _) _)).mono ?_; rintro e w9 ⟨rfl, g8⟩; have GK9 : Hid (w8.grownBy w9 none) := (by first | exact g8 | exact grown_undrew g8); have HS := Lib.hid (held11 GK9.out HS.out); clear g8))
      have S9 := Lib.hid (S8.out.grown GK9.out)
      by_cases q2 : d2 < 0
      · have hok := OKB.out
        have hdd := HD2.out
        have pa := PA.out
        cases B with
        | nil => simp only [Tr.sum] at hdd; omega
        | node m D E =>
          obtain ⟨r1, r2, r3, r4, r5, r6, r7, r8, r9⟩ := hang_parts hok
          have hm : m < n := by have := H.out.len; omega
          obtain ⟨z1, z2, z3⟩ := even_lr HP.out HLT.out (by omega)
          have Z1 := Lib.hid z1
          have Z2 := Lib.hid z2
          have Z3 := Lib.hid z3
          have BD := Lib.hid (few_high HP.out.few r8 (by have := HP.out.offs.2.2.1; simp only [Tr.places, List.nodup_cons, List.nodup_append] at this; exact this.2.2.1.2.1))
          have BE := Lib.hid (few_high HP.out.few r9 (by have := HP.out.offs.2.2.1; simp only [Tr.places, List.nodup_cons, List.nodup_append] at this; exact this.2.2.1.2.2.1))
          obtain ⟨c0, c1, c2⟩ := S9.out.oq.three
          obtain ⟨_, _, _, d3, _, _, _⟩ := S9.out.cells hk
          rw [HX.out] at d3
          simp only at d3
          have R6 := Lib.hid r6
          have R7 := Lib.hid r7
          clear HS CL2 hok hdd pa r1 r2 r3 r4 r5 r6 r7 r8 r9 z1 z2 z3 S8 OKB
          go_wp2_with fail
          refine (RaiseR_any base q g n c ns r FA fn fc t m A D E w9 S9.out Z1.out (by rw [HY.out]; exact P6.out) (by rw [HY.out]; exact P7.out) R6.out R7.out (by have := PA.out.2; omega) (by have := BD.out.2; omega) (by have := BE.out.2; omega)).mono ?_
          rintro e w10 ⟨rfl, s10, k10⟩
          have f3 := s10.frozen (k * 7 + 3)
          obtain ⟨_, _, _, d3, _, _, _⟩ := s10.cells hk
          have S11 := Lib.hid (s10.put hk 3 (by omega) rfl ((nd (raiseRF ns t m) k).1, (m : Int), (nd (raiseRF ns t m) k).2.2) (.int .i64 (m : Nat)) rfl)
          have K11 : Hid (Kpt w (w10.setCell ⟨g, k * 7 + 3, none⟩ (.int .i64 (m : Nat))) (onG g)) := ((((Kpt.of GK.out (onG g)).trans (Kpt.of GK9.out (onG g))).trans k10).set rfl _)
          clear s10 k10 S9 c0 c1 c2
          go_upto_region 6 with fail
          clear d3 f3
          generalize w10.setCell ⟨g, k * 7 + 3, none⟩ (.int .i64 (m : Nat)) = w11 at *
          have hsame := (raiseR_is Z1.out (by rw [HY.out]; exact P6.out) R6.out R7.out).1
          have hkt := HP.out.offs.1
          simp only [Tr.places, List.mem_cons, List.mem_append] at hkt
          have hk0 : nd (raiseRF ns t m) k = nd ns k := hsame.same.at_ k (by rintro (e | e); exact hkt (.inl e); exact hkt (.inr (.inr (.inl e))))
          have hlen1 : (raiseRF ns t m).length = ns.length := hsame.same.len
          have hm1 : nd (raiseRF ns t m) m = dueN (nd ns m).1 t E.top (sumN (nd ns t).1 (A.sum ns) (D.sum ns)) (E.sum ns) := hsame.atT
          have hkm : k ≠ m := fun e => hkt (.inr (.inr (.inl e)))
          have q3 : (nd (setL (raiseRF ns t m) k m) k).2.1 = (m : Nat) ∧ (nd (setL (raiseRF ns t m) k m) k).2.2.1 = rt.top ∧ (nd (setL (raiseRF ns t m) k m) m).2.1 = (Tr.node t A D).top ∧ (nd (setL (raiseRF ns t m) k m) m).2.2.1 = E.top := by
            rw [setL, nd_here (by rw [hlen1]; exact HP.out.hk), nd_else (fun e => hkm e.symm), hm1, hk0]
            exact ⟨rfl, HP.out.right, rfl, rfl⟩
          have q4 := Z3.out.low
          have q5 := Z2.out
          have q6 := S11.out.len
          have q7 : (setL (raiseRF ns t m) k m).length ≤ 32 := by rw [setL_len, hlen1]; exact HP.out.few
          have q8 := HP.out.offs
          simp only [Tr.places, List.mem_cons, List.mem_append, List.nodup_cons, List.nodup_append] at q8
          have q9 : (Tr.node t A D).places.Nodup := by
            simp only [Tr.places, List.mem_append, List.nodup_cons, List.nodup_append]
            exact ⟨fun e => q8.2.2.1.1 (e.elim .inl (fun e => .inr (.inr (.inl e)))), q8.2.2.1.2.1, q8.2.2.1.2.2.1.2.1, fun a ha b hb => q8.2.2.1.2.2.2 a ha b (.inr (.inl hb))⟩
          go_wp2_with fail
          refine (RaiseL_any base q g n c (setL (raiseRF ns t m) k m) r FA fn fc k m (.node t A D) E rt w11 S11.out q5 q3.1 q3.2.1 q3.2.2.1 q3.2.2.2 (by have := (few_high q7 q5.okA q9).2; omega) (by have := (few_high q7 q5.okB q8.2.2.1.2.2.1.2.2.1).2; omega) (by have := (few_high q7 q5.okC q8.2.2.2.1).2; omega)).mono ?_
          rintro e w12 ⟨rfl, s12, k12⟩
          have S12 := Lib.hid s12
          have K12 := Lib.hid (K11.out.trans k12)
          clear s12 k12 q3 q4 q5 q6 q7 q8 q9 hsame hkt hk0 hlen1 hm1 S11 K11
          go_wp2
          go_ret
          exact ⟨_, _, rfl, Z3.out, S12.out, K12.out⟩
      · obtain ⟨z1, z2⟩ := even_ll HP.out HLT.out (by have := HD2.out; omega)
        have Z1 := Lib.hid z1
        have Z2 := Lib.hid z2
        clear HS CL2 z1 z2 S8
        go_wp2_with fail
        refine (RaiseL_any base q g n c ns r FA fn fc k t A B rt w9 S9.out Z1.out (by rw [HX.out]) (by rw [HX.out]; exact ER.out) (by rw [HY.out]; exact P6.out) (by rw [HY.out]; exact P7.out) (by have := PA.out.2; omega) (by have := PB.out.2; omega) (by have := BB.out.2; omega)).mono ?_
        rintro e w10 ⟨rfl, s10, k10⟩
        have S10 := Lib.hid s10
        have K10 := Lib.hid (((Kpt.of GK.out (onG g)).trans (Kpt.of GK9.out (onG g))).trans k10)
        clear s10 k10
        go_wp2
        go_ret
        exact ⟨_, _, rfl, Z2.out, S10.out, K10.out⟩
  · by_cases q2 : d < -1
    · have hri := HP.out.okr
      have ba := BA.out
      have hdd := HD.out
      cases rt with
      | nil => simp only [Tr.sum] at hdd; omega
      | node t A B =>
        obtain ⟨p1, p2, p3, p4, p5, p6, p7, p8, p9⟩ := hang_parts hri
        have lo := HP.out.offs
        have nA : A.places.Nodup := by have := lo.2.2.2.1; simp only [Tr.places, List.nodup_cons, List.nodup_append] at this; exact this.2.1
        have nB : B.places.Nodup := by have := lo.2.2.2.1; simp only [Tr.places, List.nodup_cons, List.nodup_append] at this; exact this.2.2.1
        have ht : t < n := by have := H.out.len; omega
        have ha : 0 ≤ (A.sum ns).2.1 ∧ (A.sum ns).2.1 ≤ 32 := few_high HP.out.few p8 nA
        have hb : 0 ≤ (B.sum ns).2.1 ∧ (B.sum ns).2.1 ≤ 32 := few_high HP.out.few p9 nB
        have ER2 := ER.out
        rw [Tr.top] at ER2
        subst ER2
        have HLT : Hid ((l.sum ns).2.1 + 1 < ((Tr.node t A B).sum ns).2.1) := by rw [Hid]; omega
        obtain ⟨y, hy⟩ : ∃ y, nd ns t = y := ⟨_, rfl⟩
        obtain ⟨c0, c1, c2⟩ := S8.out.oq.three
        obtain ⟨_, _, _, _, d3, _, _⟩ := S8.out.cells hk
        obtain ⟨t0, t1, t2, t3, t4, t5, t6⟩ := S8.out.cells ht
        rw [HX.out] at d3
        rw [hy] at t0 t1 t2 t3 t4 t5 t6 p6 p7
        have HY := Lib.hid hy
        obtain ⟨⟨y0, y1, y2⟩, yl, yr, yh, ym⟩ := y
        simp only at d3 t0 t1 t2 t3 t4 t5 t6 p6 p7
        have CL2 := Lib.hid (lean_of S8.out h32 p8 p9 nA nB y0 y1 y2 yh ym)
        rw [← p6, ← p7] at CL2
        have P6 := Lib.hid p6
        have P7 := Lib.hid p7
        have PA := Lib.hid ha
        have PB := Lib.hid hb
        obtain ⟨d2, hd2⟩ : ∃ d2, (A.sum ns).2.1 - (B.sum ns).2.1 = d2 := ⟨_, rfl⟩
        rw [hd2] at CL2
        have HD2 := Lib.hid hd2
        have OKA := Lib.hid p8
        clear HS CL hri ba hdd p1 p2 p3 p4 p5 p6 p7 p8 p9 lo nA nB ha hb hy hd2
        have HS : Hid (((w8.cell? ⟨q, 0, none⟩ = some (.slice (some ⟨g, 0, none⟩) n c) ∧ w8.cell? ⟨q, 1, none⟩ = some (.int .i64 r) ∧ w8.cell? ⟨q, 2, none⟩ = some (.slice FA fn fc)) ∧ (w8.cell? ⟨g, t * 7, none⟩ = some (.int .i64 y0) ∧ w8.cell? ⟨g, t * 7 + 1, none⟩ = some (.int .i64 y1) ∧ w8.cell? ⟨g, t * 7 + 2, none⟩ = some (.int .i64 y2) ∧ w8.cell? ⟨g, t * 7 + 3, none⟩ = some (.int .i64 yl) ∧ w8.cell? ⟨g, t * 7 + 4, none⟩ = some (.int .i64 yr) ∧ w8.cell? ⟨g, t * 7 + 5, none⟩ = some (.int .i64 yh) ∧ w8.cell? ⟨g, t * 7 + 6, none⟩ = some (.int .i64 ym))) ∧ w8.cell? ⟨g, k * 7 + 4, none⟩ = some (.int .i64 (t : Nat))) := ⟨⟨⟨c0, c1, c2⟩, t0, t1, t2, t3, t4, t5, t6⟩, d3⟩
        go_upto_region 8 with fail
        clear c0 c1 c2 t0 t1 t2 t3 t4 t5 t6 d3
        go_region_held3 (fun w' : World => ((w'.cell? ⟨q, 0, none⟩ = some (.slice (some ⟨g, 0, none⟩) n c) ∧ w'.cell? ⟨q, 1, none⟩ = some (.int .i64 r) ∧ w'.cell? ⟨q, 2, none⟩ = some (.slice FA fn fc)) ∧ (w'.cell? ⟨g, t * 7, none⟩ = some (.int .i64 y0) ∧ w'.cell? ⟨g, t * 7 + 1, none⟩ = some (.int .i64 y1) ∧ w'.cell? ⟨g, t * 7 + 2, none⟩ = some (.int .i64 y2) ∧ w'.cell? ⟨g, t * 7 + 3, none⟩ = some (.int .i64 yl) ∧ w'.cell? ⟨g, t * 7 + 4, none⟩ = some (.int .i64 yr) ∧ w'.cell? ⟨g, t * 7 + 5, none⟩ = some (.int .i64 yh) ∧ w'.cell? ⟨g, t * 7 + 6, none⟩ = some (.int .i64 ym))) ∧ w'.cell? ⟨g, k * 7 + 4, none⟩ = some (.int .i64 (t : Nat))) (first | exact HS.out)
          (first
      | (go_at_call 79; refine (CL2.out _ (by first | exact World.grownBy.refl _ _ | exact grown_drew (World.grownBy.refl _ _) | exact grown_drewN (World.grownBy.refl _ _) _)).mono ?_; rintro e w9 ⟨rfl, g8⟩; have GK9 : Hid (w8.grownBy w9 none) := (by first | exact g8 | exact grown_undrew g8); have HS := Lib.hid (held11 GK9.out HS.out); clear g8))
        have S9 := Lib.hid (S8.out.grown GK9.out)
        by_cases q3 : 0 < d2
        · have hok := OKA.out
          have hdd := HD2.out
          have pb := PB.out
          cases A with
          | nil => simp only [Tr.sum] at hdd; omega
          | node m D E =>
            obtain ⟨r1, r2, r3, r4, r5, r6, r7, r8, r9⟩ := hang_parts hok
            have hm : m < n := by have := H.out.len; omega
            obtain ⟨z1, z2, z3⟩ := even_rl HP.out HLT.out (by omega)
            have Z1 := Lib.hid z1
            have Z2 := Lib.hid z2
            have Z3 := Lib.hid z3
            have BD := Lib.hid (few_high HP.out.few r8 (by have := HP.out.offs.2.2.2.1; simp only [Tr.places, List.nodup_cons, List.nodup_append] at this; exact this.2.1.2.1))
            have BE := Lib.hid (few_high HP.out.few r9 (by have := HP.out.offs.2.2.2.1; simp only [Tr.places, List.nodup_cons, List.nodup_append] at this; exact this.2.1.2.2.1))
            obtain ⟨c0, c1, c2⟩ := S9.out.oq.three
            obtain ⟨_, _, _, _, d3, _, _⟩ := S9.out.cells hk
            rw [HX.out] at d3
            simp only at d3
            have R6 := Lib.hid r6
            have R7 := Lib.hid r7
            clear HS CL2 hok hdd pb r1 r2 r3 r4 r5 r6 r7 r8 r9 z1 z2 z3 S8 OKA
            go_wp2_with fail
            refine (RaiseL_any base q g n c ns r FA fn fc t m D E B w9 S9.out Z1.out (by rw [HY.out]; exact P6.out) (by rw [HY.out]; exact P7.out) R6.out R7.out (by have := BD.out.2; omega) (by have := BE.out.2; omega) (by have := PB.out.2; omega)).mono ?_
            rintro e w10 ⟨rfl, s10, k10⟩
            have f3 := s10.frozen (k * 7 + 4)
            obtain ⟨_, _, _, _, d3, _, _⟩ := s10.cells hk
            have S11 := Lib.hid (s10.put hk 4 (by omega) rfl ((nd (raiseLF ns t m) k).1, (nd (raiseLF ns t m) k).2.1, (m : Int), (nd (raiseLF ns t m) k).2.2.2) (.int .i64 (m : Nat)) rfl)
            have K11 : Hid (Kpt w (w10.setCell ⟨g, k * 7 + 4, none⟩ (.int .i64 (m : Nat))) (onG g)) := ((((Kpt.of GK.out (onG g)).trans (Kpt.of GK9.out (onG g))).trans k10).set rfl _)
            clear s10 k10 S9 c0 c1 c2
            go_upto_region 10 with fail
            clear d3 f3
            generalize w10.setCell ⟨g, k * 7 + 4, none⟩ (.int .i64 (m : Nat)) = w11 at *
            have hsame := (raiseL_is Z1.out (by rw [HY.out]; exact P7.out) R6.out R7.out).1
            have hkt := HP.out.offs.2.1
            simp only [Tr.places, List.mem_cons, List.mem_append] at hkt
            have hk0 : nd (raiseLF ns t m) k = nd ns k := hsame.same.at_ k (by rintro (e | e); exact hkt (.inl e); exact hkt (.inr (.inl (.inl e))))
            have hlen1 : (raiseLF ns t m).length = ns.length := hsame.same.len
            have hm1 : nd (raiseLF ns t m) m = dueN (nd ns m).1 D.top t (D.sum ns) (sumN (nd ns t).1 (E.sum ns) (B.sum ns)) := hsame.atT
            have hkm : k ≠ m := fun e => hkt (.inr (.inl (.inl e)))
            have q3 : (nd (setR (raiseLF ns t m) k m) k).2.1 = l.top ∧ (nd (setR (raiseLF ns t m) k m) k).2.2.1 = (m : Nat) ∧ (nd (setR (raiseLF ns t m) k m) m).2.1 = D.top ∧ (nd (setR (raiseLF ns t m) k m) m).2.2.1 = (Tr.node t E B).top := by
              rw [setR, nd_here (by rw [hlen1]; exact HP.out.hk), nd_else (fun e => hkm e.symm), hm1, hk0]
              exact ⟨HP.out.left, rfl, rfl, rfl⟩
            have q5 := Z2.out
            have q7 : (setR (raiseLF ns t m) k m).length ≤ 32 := by rw [setR_len, hlen1]; exact HP.out.few
            have q8 := HP.out.offs
            simp only [Tr.places, List.mem_cons, List.mem_append, List.nodup_cons, List.nodup_append] at q8
            have q9 : (Tr.node t E B).places.Nodup := by
              simp only [Tr.places, List.mem_append, List.nodup_cons, List.nodup_append]
              exact ⟨fun e => q8.2.2.2.1.1 (e.elim (fun e => .inl (.inr (.inr e))) .inr), q8.2.2.2.1.2.1.2.2.1, q8.2.2.2.1.2.2.1, fun a ha b hb => q8.2.2.2.1.2.2.2 a (.inr (.inr ha)) b hb⟩
            go_wp2_with fail
            refine (RaiseR_any base q g n c (setR (raiseLF ns t m) k m) r FA fn fc k m l D (.node t E B) w11 S11.out q5 q3.1 q3.2.1 q3.2.2.1 q3.2.2.2 (by have := (few_high q7 q5.okA q8.2.2.1).2; omega) (by have := (few_high q7 q5.okB q8.2.2.2.1.2.1.2.1).2; omega) (by have := (few_high q7 q5.okC q9).2; omega)).mono ?_
            rintro e w12 ⟨rfl, s12, k12⟩
            have S12 := Lib.hid s12
            have K12 := Lib.hid (K11.out.trans k12)
            clear s12 k12 q3 q5 q7 q8 q9 hsame hkt hk0 hlen1 hm1 S11 K11
            go_wp2
            go_ret
            exact ⟨_, _, rfl, Z3.out, S12.out, K12.out⟩
        · obtain ⟨z1, z2⟩ := even_rr HP.out HLT.out (by have := HD2.out; omega)
          have Z1 := Lib.hid z1
          have Z2 := Lib.hid z2
          clear HS CL2 z1 z2 S8
          go_wp2_with fail
          refine (RaiseR_any base q g n c ns r FA fn fc k t l A B w9 S9.out Z1.out (by rw [HX.out]; exact EL.out) (by rw [HX.out]) (by rw [HY.out]; exact P6.out) (by rw [HY.out]; exact P7.out) (by have := BA.out.2; omega) (by have := PA.out.2; omega) (by have := PB.out.2; omega)).mono ?_
          rintro e w10 ⟨rfl, s10, k10⟩
          have S10 := Lib.hid s10
          have K10 := Lib.hid (((Kpt.of GK.out (onG g)).trans (Kpt.of GK9.out (onG g))).trans k10)
          clear s10 k10
          go_wp2
          go_ret
          exact ⟨_, _, rfl, Z2.out, S10.out, K10.out⟩
    · have z := even_flat HP.out (by have := HD.out; omega) (by have := HD.out; omega)
      have Z := Lib.hid z
      obtain ⟨a1, a2⟩ := Tr.top_in HP.out.okl
      obtain ⟨b1, b2⟩ := Tr.top_in HP.out.okr
      obtain ⟨ea, _⟩ := Tr.hm HP.out.okl
      obtain ⟨eb, _⟩ := Tr.hm HP.out.okr
      rw [← EL.out] at ea a1 a2
      rw [← ER.out] at eb b1 b2
      have ba := BA.out
      have bb := BB.out
      have hl := H.out.len
      clear HS CL z
      go_wp2_with fail
      refine (Settle_any base q g n c ns r FA fn fc k w8 S8.out hk (by rw [HX.out]; exact a1) (by rw [HX.out, ← hl]; exact a2) (by rw [HX.out]; exact b1) (by rw [HX.out, ← hl]; exact b2) (by rw [HX.out]; simp only; omega) (by rw [HX.out]; simp only; omega) (by rw [HX.out]; simp only; omega) (by rw [HX.out]; simp only; omega)).mono ?_
      rintro e w9 ⟨rfl, s9, k9⟩
      have S9 := Lib.hid s9
      have K9 := Lib.hid ((Kpt.of GK.out (onG g)).trans k9)
      clear s9 k9 a1 a2 b1 b2 ea eb ba bb hl
      go_wp2
      go_ret
      exact ⟨_, _, rfl, Z.out, S9.out, K9.out⟩

end Go.Proofs.Ytgfehlmiejnonaa

set_option maxRecDepth 20000
namespace Go.Proofs.Ytgfehlmiejnonaa
open Go.RowKit

def HangPost (w : World) (base q g n c : Nat) (ns : List Nd) (r : Int) (FA : Option Addr) (fn fc a : Nat) (x : It) (T : Tr) (e : Ending) (w' : World) : Prop :=
  ∃ ns' T', e = .returned (.int .i64 T'.top) ∧ HangIs ns a x T ns' T' ∧ Shp w' base q g n c ns' r FA fn fc ∧ Kpt w w' (onG g)

def HangI (base q g n c : Nat) (r : Int) (FA : Option Addr) (fn fc a : Nat) (x : It) (T : Tr) : Prop := ∀ (ns : List Nd) (w : World), Shp w base q g n c ns r FA fn fc → HangPre ns a x T →
    Calls Try.prog 49 #[.pointer (some ⟨q, 0, none⟩), .int .i64 T.top, .int .i64 (a : Nat)] w (HangPost w base q g n c ns r FA fn fc a x T)

theorem held7 {w w1 : World} {a0 a1 a2 a3 a4 a5 a6 : Addr} {x0 x1 x2 x3 x4 x5 x6 : Value} (g : w.grownBy w1 none)
    (h : w.cell? a0 = some x0 ∧ (w.cell? a1 = some x1 ∧ w.cell? a2 = some x2 ∧ w.cell? a3 = some x3) ∧ (w.cell? a4 = some x4 ∧ w.cell? a5 = some x5 ∧ w.cell? a6 = some x6)) :
    w1.cell? a0 = some x0 ∧ (w1.cell? a1 = some x1 ∧ w1.cell? a2 = some x2 ∧ w1.cell? a3 = some x3) ∧ (w1.cell? a4 = some x4 ∧ w1.cell? a5 = some x5 ∧ w1.cell? a6 = some x6) :=
  have k : ∀ {a : Addr} {v : Value}, w.cell? a = some v → w1.cell? a = some v := fun h => g.cell h (by simp)
  ⟨k h.1, ⟨k h.2.1.1, k h.2.1.2.1, k h.2.1.2.2⟩, k h.2.2.1, k h.2.2.2.1, k h.2.2.2.2⟩

set_option maxHeartbeats 4000000 in
theorem hang_step (base q g n c : Nat) (r : Int) (FA : Option Addr) (fn fc a : Nat) (x : It) (k : Nat) (l rt : Tr) (ihl : HangI base q g n c r FA fn fc a x l) (ihr : HangI base q g n c r FA fn fc a x rt) : HangI base q g n c r FA fn fc a x (.node k l rt) := by
  intro ns w h hp
  have IHL := Lib.hid ihl
  have IHR := Lib.hid ihr
  have HP := Lib.hid hp
  have H := Lib.hid h
  have hl := h.len
  have hk : k < n := by have := (parts_of hp.ok).hk; omega
  have ha : a < n := by have := hp.ha; omega
  obtain ⟨c0, _, _⟩ := h.oq.three
  obtain ⟨d0, d1, d2, _, _, _, _⟩ := h.cells hk
  obtain ⟨a0, a1, a2, _, _, _, _⟩ := h.cells ha
  rw [hp.leaf] at a0 a1 a2
  obtain ⟨y, hy⟩ : ∃ y, (nd ns k).1 = y := ⟨_, rfl⟩
  rw [hy] at d0 d1 d2
  have HY := Lib.hid hy
  obtain ⟨x0, x1, x2⟩ := x
  obtain ⟨y0, y1, y2⟩ := y
  simp only at a0 a1 a2 d0 d1 d2
  have hlt := h.lt
  have CQ := Lib.hid (cmpI_lt (x0, x1, x2) (y0, y1, y2))
  have CC : Hid (∀ wx, Calls Try.prog 62 #[.agg #[.int .i64 x0, .int .i64 x1, .int .i64 x2], .agg #[.int .i64 y0, .int .i64 y1, .int .i64 y2]] wx (Says wx (.int .i64 (cmpI (x0, x1, x2) (y0, y1, y2))))) := Tcompare_any x0 x1 x2 y0 y1 y2
  generalize cmpI (x0, x1, x2) (y0, y1, y2) = cv at *
  have HS : Hid (w.cell? ⟨q, 0, none⟩ = some (.slice (some ⟨g, 0, none⟩) n c) ∧ (w.cell? ⟨g, a * 7, none⟩ = some (.int .i64 x0) ∧ w.cell? ⟨g, a * 7 + 1, none⟩ = some (.int .i64 x1) ∧ w.cell? ⟨g, a * 7 + 2, none⟩ = some (.int .i64 x2)) ∧ (w.cell? ⟨g, k * 7, none⟩ = some (.int .i64 y0) ∧ w.cell? ⟨g, k * 7 + 1, none⟩ = some (.int .i64 y1) ∧ w.cell? ⟨g, k * 7 + 2, none⟩ = some (.int .i64 y2))) := ⟨c0, ⟨a0, a1, a2⟩, d0, d1, d2⟩
  clear h hp hl hy ihl ihr
  rw [Tr.top]
  go_enter Try.func49, Try.ntmps49
  go_upto_region 4 with fail
  clear c0 a0 a1 a2 d0 d1 d2
  go_region_held3 (fun w' : World => w'.cell? ⟨q, 0, none⟩ = some (.slice (some ⟨g, 0, none⟩) n c) ∧ (w'.cell? ⟨g, a * 7, none⟩ = some (.int .i64 x0) ∧ w'.cell? ⟨g, a * 7 + 1, none⟩ = some (.int .i64 x1) ∧ w'.cell? ⟨g, a * 7 + 2, none⟩ = some (.int .i64 x2)) ∧ (w'.cell? ⟨g, k * 7, none⟩ = some (.int .i64 y0) ∧ w'.cell? ⟨g, k * 7 + 1, none⟩ = some (.int .i64 y1) ∧ w'.cell? ⟨g, k * 7 + 2, none⟩ = some (.int .i64 y2))) (first | exact HS.out)
    (first
      | (go_at_call 62; refine (CC.out _).mono ?_; rintro e w8 ⟨rfl, g8⟩; have GK : Hid (w.grownBy w8 none) := (by first | exact g8 | exact grown_undrew g8); have HS := Lib.hid (held7 GK.out HS.out); clear g8))
  by_cases hc : cv < 0
  · have HC : Hid (lessB (x0, x1, x2) (nd ns k).1 = true) := by
      rw [Hid, HY.out, ← CQ.out]
      simpa using hc
    have S8 := Lib.hid (H.out.grown GK.out)
    obtain ⟨_, _, _, d3, _, _, _⟩ := S8.out.cells hk
    have p := parts_of HP.out.ok
    rw [p.left] at d3
    clear HS p
    go_wp2_with fail
    refine (IHL.out ns w8 S8.out HP.out.left).mono ?_
    rintro e w9 ⟨n1, L1, rfl, hi, s9, k9⟩
    obtain ⟨z1, z2⟩ := hang_left HP.out HC.out hi
    have Z1 := Lib.hid z1
    have Z2 := Lib.hid z2
    have f3 := s9.frozen (k * 7 + 3)
    clear d3
    obtain ⟨_, _, _, d3, _, _, _⟩ := s9.cells hk
    have S10 := Lib.hid (s9.put hk 3 (by omega) rfl ((nd n1 k).1, L1.top, (nd n1 k).2.2) (.int .i64 L1.top) rfl)
    have K10 : Hid (Kpt w (w9.setCell ⟨g, k * 7 + 3, none⟩ (.int .i64 L1.top)) (onG g)) := (((Kpt.of GK.out (onG g)).trans k9).set rfl _)
    clear hi s9 k9 z1 z2 S8
    go_upto_region 7 with fail
    clear d3 f3
    generalize w9.setCell ⟨g, k * 7 + 3, none⟩ (.int .i64 L1.top) = w10 at *
    go_wp2_with fail
    refine (Even_any base q g n c (setL n1 k L1.top) r FA fn fc k L1 rt w10 S10.out Z1.out).mono ?_
    rintro e w11 ⟨n3, T, rfl, he, s11, k11⟩
    have S11 := Lib.hid s11
    have K11 := Lib.hid (K10.out.trans k11)
    have Z3 := Lib.hid (Z2.out n3 T he)
    clear s11 k11 he
    go_wp2
    go_ret
    exact ⟨n3, T, rfl, Z3.out, S11.out, K11.out⟩
  · have HC : Hid (lessB (x0, x1, x2) (nd ns k).1 = false) := by
      rw [Hid, HY.out, ← CQ.out]
      simpa using hc
    have S8 := Lib.hid (H.out.grown GK.out)
    obtain ⟨_, _, _, _, d3, _, _⟩ := S8.out.cells hk
    have p := parts_of HP.out.ok
    rw [p.right] at d3
    clear HS p
    go_wp2_with fail
    refine (IHR.out ns w8 S8.out HP.out.right).mono ?_
    rintro e w9 ⟨n1, L1, rfl, hi, s9, k9⟩
    obtain ⟨z1, z2⟩ := hang_right HP.out HC.out hi
    have Z1 := Lib.hid z1
    have Z2 := Lib.hid z2
    have f3 := s9.frozen (k * 7 + 4)
    clear d3
    obtain ⟨_, _, _, _, d3, _, _⟩ := s9.cells hk
    have S10 := Lib.hid (s9.put hk 4 (by omega) rfl ((nd n1 k).1, (nd n1 k).2.1, L1.top, (nd n1 k).2.2.2) (.int .i64 L1.top) rfl)
    have K10 : Hid (Kpt w (w9.setCell ⟨g, k * 7 + 4, none⟩ (.int .i64 L1.top)) (onG g)) := (((Kpt.of GK.out (onG g)).trans k9).set rfl _)
    clear hi s9 k9 z1 z2 S8
    go_upto_region 7 with fail
    clear d3 f3
    generalize w9.setCell ⟨g, k * 7 + 4, none⟩ (.int .i64 L1.top) = w10 at *
    go_wp2_with fail
    refine (Even_any base q g n c (setR n1 k L1.top) r FA fn fc k l L1 w10 S10.out Z1.out).mono ?_
    rintro e w11 ⟨n3, T, rfl, he, s11, k11⟩
    have S11 := Lib.hid s11
    have K11 := Lib.hid (K10.out.trans k11)
    have Z3 := Lib.hid (Z2.out n3 T he)
    clear s11 k11 he
    go_wp2
    go_ret
    exact ⟨n3, T, rfl, Z3.out, S11.out, K11.out⟩

theorem Hang_any (base q g n c : Nat) (r : Int) (FA : Option Addr) (fn fc a : Nat) (x : It) : ∀ T, HangI base q g n c r FA fn fc a x T
  | .nil => by
    intro ns w h hp
    have Z := Lib.hid (hang_nil hp)
    have H := Lib.hid h
    clear h hp
    rw [Tr.top]
    go_enter Try.func49, Try.ntmps49
    go_wp2
    go_ret
    exact ⟨ns, _, rfl, Z.out, H.out, Kpt.refl _ _⟩
  | .node k l rt => hang_step base q g n c r FA fn fc a x k l rt (Hang_any base q g n c r FA fn fc a x l) (Hang_any base q g n c r FA fn fc a x rt)

end Go.Proofs.Ytgfehlmiejnonaa

set_option maxRecDepth 20000
namespace Go.Proofs.Ytgfehlmiejnonaa
open Go.RowKit

theorem res_item {fn : Func} {t : Tmp} (h : fn.results = #[.cell t 50]) (tmps : Array Value) (w : World) {g : Nat} {x y z : Value} (hp : tmps[t]?.getD undef = .pointer (some ⟨g, 0, none⟩))
   (c0 : w.cell? ⟨g, 0, none⟩ = some x) (c1 : w.cell? ⟨g, 1, none⟩ = some y) (c2 : w.cell? ⟨g, 2, none⟩ = some z) :
    (results fn tmps).run Try.prog w = .ok (.agg #[x, y, z]) w := by
  simp [results, h, hp, c0, c1, c2, go_sem]

def FirRel (ns : List Nd) (y : It) (w1 : World) (i : Value) (wr : World) : Prop :=
  ∃ k l r zs, i = .int .i64 ((k : Nat) : Int) ∧ (Tr.node k l r).ok ns ∧ ((Tr.node k l r).sum ns).1 = y :: zs ∧ wr = w1

theorem set3_grown {w : World} {g : Nat} (x y z : Value) : w.grownBy (((w.setCell ⟨g, 0, none⟩ x).setCell ⟨g, 1, none⟩ y).setCell ⟨g, 2, none⟩ z) (some g) := grown_set (grown_set (grown_set (World.grownBy.refl w _) _) _) _

set_option maxHeartbeats 2000000 in
theorem First_any (base q g n c : Nat) (ns : List Nd) (r : Int) (FA : Option Addr) (fn fc k : Nat) (l rt : Tr) (y0 y1 y2 : Int) (ys : List It) (w : World) (h : Shp w base q g n c ns r FA fn fc) (ok : (Tr.node k l rt).ok ns) (hy : ((Tr.node k l rt).sum ns).1 = (y0, y1, y2) :: ys) :
    Calls Try.prog 67 #[.pointer (some ⟨q, 0, none⟩), .int .i64 (k : Nat)] w (Says w (.agg #[.int .i64 y0, .int .i64 y1, .int .i64 y2])) := by
  have G := Lib.hid (grow0 w (.cells #[.int .i64 0, .int .i64 0, .int .i64 0] 50))
  have O := Lib.hid (Own.new w 50 [.int .i64 0, .int .i64 0, .int .i64 0])
  have HREL : Hid (FirRel ns (y0, y1, y2) (w.alloc (.cells #[.int .i64 0, .int .i64 0, .int .i64 0] 50)) (.int .i64 ((k : Nat) : Int)) (w.alloc (.cells #[.int .i64 0, .int .i64 0, .int .i64 0] 50))) := ⟨k, l, rt, ys, rfl, ok, hy, rfl⟩
  have H1 := Lib.hid (h.grown G.out)
  have hlen := Lib.hid h.len
  clear h ok hy
  go_enter Try.func67, Try.ntmps67
  go_wp2
  generalize w.alloc (.cells #[.int .i64 0, .int .i64 0, .int .i64 0] 50) = w1 at *
  go_loopw [1] (fun i wr => FirRel ns (y0, y1, y2) w1 i wr) (fun i _ => (hOf ns (intOf i)).toNat)
  case atStart => exact HREL.out
  case round =>
    clear HREL
    obtain ⟨j, a, b, zs, rfl, okj, hyj, rfl⟩ := hrel
    obtain ⟨p1, p2, p3, p4, p5, p6, p7, p8, p9⟩ := hang_parts okj
    have hj : j < n := by have := hlen.out; omega
    obtain ⟨c0, _, _⟩ := H1.out.oq.three
    obtain ⟨d0, d1, d2, d3, _, _, _⟩ := H1.out.cells hj
    obtain ⟨hd1, hd2⟩ := head_down hyj
    rw [p6] at d3
    have HM := Lib.hid (Tr.hm okj).1
    have HM2 := Lib.hid (Tr.hm p8).1
    have HB := Lib.hid (Tr.h_bd p8).1
    have P4 := Lib.hid p4
    have P8 := Lib.hid p8
    clear p1 p2 p3 p4 p5 p6 p7 p8 p9 okj hyj
    cases a with
    | nil =>
      have e := hd1 rfl
      rw [e] at d0 d1 d2
      simp only at d0 d1 d2
      rw [Tr.top] at d3
      obtain ⟨b0, b1, b2⟩ := O.out.three
      have f0 := O.out.frozen 0
      have f1 := O.out.frozen 1
      have f2 := O.out.frozen 2
      clear hd1 hd2 e
      go_wp2
      have O2 := ((O.out.put (i := 0) (.int .i64 y0)).put (i := 1) (.int .i64 y1)).put (i := 2) (.int .i64 y2)
      refine bodyPost_ret (res_item rfl _ _ rfl O2.three.1 O2.three.2.1 O2.three.2.2) rfl ⟨rfl, ?_⟩
      exact grown_none G.out (set3_grown _ _ _) (fun g hg => by injection hg with hg; omega)
    | node i a b =>
      obtain ⟨zs2, e⟩ := hd2 (by simp)
      have E := Lib.hid e
      rw [Tr.top] at d3
      have hne : ((i : Int) == -1) = false := by simp
      have hne2 : ((i : Int) != -1) = true := by simp
      clear hd1 hd2 e
      go_wp2
      go_roundw
      case rel => exact ⟨i, a, b, zs2, rfl, P8.out, E.out, rfl⟩
      case measure =>
        have h1 := HM.out
        have h2 := HM2.out
        have h3 := HB.out
        have h4 := P4.out
        simp only [Tr.top] at h1 h2
        simp only [intOf]
        rw [h1, h2]
        omega

/-- A Node written over whole. -/
theorem Shp.node {w : World} {base q g n c : Nat} {ns : List Nd} {r : Int} {FA : Option Addr} {fn fc : Nat} (h : Shp w base q g n c ns r FA fn fc) {k : Nat} (hk : k < n) (y0 y1 y2 y3 y4 y5 y6 : Int) :
    Shp (((((((w.setCell ⟨g, k * 7, none⟩ (.int .i64 y0)).setCell ⟨g, k * 7 + 1, none⟩ (.int .i64 y1)).setCell ⟨g, k * 7 + 2, none⟩ (.int .i64 y2)).setCell ⟨g, k * 7 + 3, none⟩ (.int .i64 y3)).setCell ⟨g, k * 7 + 4, none⟩ (.int .i64 y4)).setCell ⟨g, k * 7 + 5, none⟩ (.int .i64 y5)).setCell ⟨g, k * 7 + 6, none⟩ (.int .i64 y6)) base q g n c (ns.set k ((y0, y1, y2), y3, y4, y5, y6)) r FA fn fc := by
  obtain ⟨x, hx⟩ : ∃ x, nd ns k = x := ⟨_, rfl⟩
  obtain ⟨⟨x0, x1, x2⟩, xl, xr, xh, xm⟩ := x
  have hl := h.len
  have kl : ∀ {ms : List Nd} {x : Nd}, ms.length = n → nd (ms.set k x) k = x := fun e => nd_here (by omega) _
  have s0 := h.put hk 0 (by omega) hx ((y0, x1, x2), xl, xr, xh, xm) (.int .i64 y0) rfl
  have s1 := s0.put hk 1 (by omega) (kl hl) ((y0, y1, x2), xl, xr, xh, xm) (.int .i64 y1) rfl
  have s2 := s1.put hk 2 (by omega) (kl s0.len) ((y0, y1, y2), xl, xr, xh, xm) (.int .i64 y2) rfl
  have s3 := s2.put hk 3 (by omega) (kl s1.len) ((y0, y1, y2), y3, xr, xh, xm) (.int .i64 y3) rfl
  have s4 := s3.put hk 4 (by omega) (kl s2.len) ((y0, y1, y2), y3, y4, xh, xm) (.int .i64 y4) rfl
  have s5 := s4.put hk 5 (by omega) (kl s3.len) ((y0, y1, y2), y3, y4, y5, xm) (.int .i64 y5) rfl
  have s6 := s5.put hk 6 (by omega) (kl s4.len) ((y0, y1, y2), y3, y4, y5, y6) (.int .i64 y6) rfl
  simp only [List.set_set] at s6
  exact s6

theorem node_kpt {a w : World} {S : Nat → Prop} {g : Nat} (h : Kpt a w S) (hg : S g) (i : Nat) (y0 y1 y2 y3 y4 y5 y6 : Value) :
    Kpt a (((((((w.setCell ⟨g, i, none⟩ y0).setCell ⟨g, i + 1, none⟩ y1).setCell ⟨g, i + 2, none⟩ y2).setCell ⟨g, i + 3, none⟩ y3).setCell ⟨g, i + 4, none⟩ y4).setCell ⟨g, i + 5, none⟩ y5).setCell ⟨g, i + 6, none⟩ y6) S :=
  ((((((h.set hg _).set hg _).set hg _).set hg _).set hg _).set hg _).set hg _

/-- A shape with its row of free places, of the call's own. -/
structure Shf (w : World) (base q g n c : Nat) (ns : List Nd) (r : Int) (FA : Option Addr) (fn fc : Nat) (free : List Int) : Prop where
  sh : Shp w base q g n c ns r FA fn fc
  mf : Mine w base (.slice FA fn fc) fn free
  apart : ∀ k, (Value.slice FA fn fc).ownBlock = some k → k ≠ q ∧ k ≠ g

/-- The blocks of a shape. -/
def onS (q g : Nat) (FA : Option Addr) : Nat → Prop := fun i => i = q ∨ i = g ∨ (Value.slice FA 0 0).ownBlock = some i

theorem own_sl (FA : Option Addr) (n c : Nat) : (Value.slice FA n c).ownBlock = (Value.slice FA 0 0).ownBlock := by cases FA <;> rfl

theorem Shf.keep {w w' : World} {base q g n c : Nat} {ns ns' : List Nd} {r : Int} {FA : Option Addr} {fn fc : Nat} {free : List Int} (h : Shf w base q g n c ns r FA fn fc free) (s : Shp w' base q g n c ns' r FA fn fc) (k : Kpt w w' (onG g)) : Shf w' base q g n c ns' r FA fn fc free :=
  ⟨s, Kpt.mine h.mf k (fun j hj e => (h.apart j hj).2 e), h.apart⟩

theorem Shf.grown {w w' : World} {base q g n c : Nat} {ns : List Nd} {r : Int} {FA : Option Addr} {fn fc : Nat} {free : List Int} (h : Shf w base q g n c ns r FA fn fc free) (k : w.grownBy w' none) : Shf w' base q g n c ns r FA fn fc free :=
  ⟨h.sh.grown k, h.mf.kept k, h.apart⟩

end Go.Proofs.Ytgfehlmiejnonaa

set_option maxRecDepth 20000
namespace Go.Proofs.Ytgfehlmiejnonaa
open Go.RowKit

/-- What a call leaves of a shape and its row of free places. -/
def ShfPost (w : World) (base q g n c : Nat) (ns : List Nd) (r : Int) (FA : Option Addr) (fn : Nat) (free : List Int) (v : Value) (e : Ending) (w' : World) : Prop :=
  ∃ FA' fc', e = .returned v ∧ Shf w' base q g n c ns r FA' fn fc' free ∧ Kpt w w' (onS q g FA)

set_option maxHeartbeats 4000000 in
theorem Clear_any (base q g n c : Nat) (ns : List Nd) (r : Int) (FA : Option Addr) (fn fc : Nat) (free : List Int) (k : Nat) (w : World) (h : Shf w base q g n c ns r FA fn fc free) (hk : k < n) (hb : base ≤ w.heap.size) (hn : n ≤ 1000) (hfn : fn ≤ 1000) :
    Calls Try.prog 66 #[.pointer (some ⟨q, 0, none⟩), .int .i64 (k : Nat)] w (ShfPost w base q g n c (ns.set k nd0) r FA (fn + 1) (free ++ [(k : Int)]) (.tuple #[])) := by
  have H := Lib.hid h
  obtain ⟨c0, c1, c2⟩ := h.sh.oq.three
  obtain ⟨d0, d1, d2, d3, d4, d5, d6⟩ := h.sh.cells hk
  have f0 := h.sh.frozen (k * 7)
  have f1 := h.sh.frozen (k * 7 + 1)
  have f2 := h.sh.frozen (k * 7 + 2)
  have f3 := h.sh.frozen (k * 7 + 3)
  have f4 := h.sh.frozen (k * 7 + 4)
  have f5 := h.sh.frozen (k * 7 + 5)
  have f6 := h.sh.frozen (k * 7 + 6)
  have hlt := h.sh.lt
  have hqlt := h.sh.oq.lt
  clear h
  go_enter Try.func66, Try.ntmps66
  go_upto_region 1 with fail
  clear c0 c1 c2 d0 d1 d2 d3 d4 d5 d6 f0 f1 f2 f3 f4 f5 f6
  have K1 : Hid (Kpt w (((((((w.setCell ⟨g, k * 7, none⟩ (.int .i64 0)).setCell ⟨g, k * 7 + 1, none⟩ (.int .i64 0)).setCell ⟨g, k * 7 + 2, none⟩ (.int .i64 0)).setCell ⟨g, k * 7 + 3, none⟩ (.int .i64 0)).setCell ⟨g, k * 7 + 4, none⟩ (.int .i64 0)).setCell ⟨g, k * 7 + 5, none⟩ (.int .i64 0)).setCell ⟨g, k * 7 + 6, none⟩ (.int .i64 0)) (onG g)) := node_kpt (Kpt.refl w (onG g)) rfl (k * 7) _ _ _ _ _ _ _
  have S1 : Hid (Shf (((((((w.setCell ⟨g, k * 7, none⟩ (.int .i64 0)).setCell ⟨g, k * 7 + 1, none⟩ (.int .i64 0)).setCell ⟨g, k * 7 + 2, none⟩ (.int .i64 0)).setCell ⟨g, k * 7 + 3, none⟩ (.int .i64 0)).setCell ⟨g, k * 7 + 4, none⟩ (.int .i64 0)).setCell ⟨g, k * 7 + 5, none⟩ (.int .i64 0)).setCell ⟨g, k * 7 + 6, none⟩ (.int .i64 0)) base q g n c (ns.set k nd0) r FA fn fc free) := H.out.keep (H.out.sh.node hk 0 0 0 0 0 0 0) K1.out
  clear H
  generalize (((((((w.setCell ⟨g, k * 7, none⟩ (.int .i64 0)).setCell ⟨g, k * 7 + 1, none⟩ (.int .i64 0)).setCell ⟨g, k * 7 + 2, none⟩ (.int .i64 0)).setCell ⟨g, k * 7 + 3, none⟩ (.int .i64 0)).setCell ⟨g, k * 7 + 4, none⟩ (.int .i64 0)).setCell ⟨g, k * 7 + 5, none⟩ (.int .i64 0)).setCell ⟨g, k * 7 + 6, none⟩ (.int .i64 0)) = w1 at *
  have hs := K1.out.size
  have HM1 := Lib.hid (S1.out.mf.kept (grow0 w1 (.cells #[.int .i64 (k : Int)] 3)))
  have HROW : Hid (Row (w1.alloc (.cells #[.int .i64 (k : Int)] 3)) (w1.heap.size + 1) (some ⟨w1.heap.size, 0, none⟩) 1 [(k : Int)]) := by
    have h := Row.newAt (w := w1) (g := w1.heap.size) (n := 1) (vs := #[.int .i64 (k : Int)]) [(k : Int)] rfl rfl rfl (by simp) (by simp; omega)
    exact h
  obtain ⟨c0, c1, c2⟩ := S1.out.sh.oq.three
  go_wp2_with (first | (at_builtin; refine wpList_app _ rfl _ _ rfl base _ _ _ rfl HM1.out _ 1 1 [(k : Int)] rfl HROW.out (by simp) (by omega) (by simp; omega) ?_))
  intro v2 w3 m3 g3 n3
  obtain ⟨FA', fc', rfl, _⟩ := m3.sl
  have hap := S1.out.apart
  have O3 := Lib.hid ((S1.out.sh.oq.alloc (.cells #[.int .i64 (k : Int)] 3)).kept' g3 (fun e => (hap q e).1 rfl))
  have N3 := Lib.hid ((S1.out.sh.mn.kept (grow0 w1 (.cells #[.int .i64 (k : Int)] 3))).kept' g3 (fun j hj e => by
    have hj : g = j := by simpa [Value.ownBlock] using hj
    subst hj
    exact (hap _ e).2 rfl))
  have M3 := Lib.hid m3
  have K3 : Hid (Kpt w w3 (onS q g FA)) := by
    refine ((K1.out.wide (T := onS q g FA) (fun i _ e => .inr (.inl e))).alloc _).trans' (T := fun i => (Value.slice FA 0 0).ownBlock = some i) ⟨g3.os, g3.tape, g3.output, g3.size, fun i hi hn => g3.block i hi (fun e => hn (by rw [own_sl] at e; exact e.symm))⟩ (fun i _ e => .inr (.inr e))
  have HN : Hid (∀ j, (Value.slice FA' (fn + 1) fc').ownBlock = some j → j ≠ q ∧ j ≠ g) := by
    intro j hj
    rcases n3 with e | e
    · exact hap j (e ▸ hj)
    · rw [e] at hj
      injection hj with hj
      have : (w1.alloc (.cells #[.int .i64 (k : Int)] 3)).heap.size = w1.heap.size + 1 := by simp
      have := S1.out.sh.lt
      have := S1.out.sh.oq.lt
      omega
  have hne := S1.out.sh.ne
  clear m3 g3 n3 hap HM1 HROW S1 K1 c0 c1 c2
  obtain ⟨c0, c1, c2⟩ := O3.out.three
  have f2 := O3.out.frozen 2
  go_wp2
  go_end0
  have gq : w3.grownBy (w3.setCell ⟨q, 2, none⟩ (.slice FA' (fn + 1) fc')) (some q) := grown_set (World.grownBy.refl w3 _) _
  exact ⟨FA', fc', rfl, ⟨⟨O3.out.put (i := 2) _, N3.out.kept' gq (fun j hj e => by
    injection e with e
    have hj : g = j := by simpa [Value.ownBlock] using hj
    exact hne (e.trans hj.symm)), hne⟩, M3.out.kept' gq (fun j hj e => by injection e with e; exact (HN.out j hj).1 e.symm), HN.out⟩, K3.out.set (.inl rfl) _⟩

end Go.Proofs.Ytgfehlmiejnonaa

set_option maxRecDepth 20000
namespace Go.Proofs.Ytgfehlmiejnonaa
open Go.RowKit

def DropPost (w : World) (base q g n c : Nat) (ns : List Nd) (r : Int) (FA : Option Addr) (fn : Nat) (free : List Int) (x : It) (T : Tr) (e : Ending) (w' : World) : Prop :=
  ∃ ns' T' f FA' fc', e = .returned (.int .i64 T'.top) ∧ DropIs ns x T f ns' T' ∧ Shf w' base q g n c ns' r FA' (fn + 1) fc' (free ++ [(f : Int)]) ∧ Kpt w w' (onS q g FA)

def DropI (base q g n c : Nat) (r : Int) (T : Tr) : Prop := ∀ (x : It) (ns : List Nd) (FA : Option Addr) (fn fc : Nat) (free : List Int) (w : World), Shf w base q g n c ns r FA fn fc free → DropPre ns x T → base ≤ w.heap.size → fn ≤ 1000 →
    Calls Try.prog 52 #[.pointer (some ⟨q, 0, none⟩), .int .i64 T.top, .agg #[.int .i64 x.1, .int .i64 x.2.1, .int .i64 x.2.2]] w (DropPost w base q g n c ns r FA fn free x T)

/-- The item of a Node written over. -/
theorem Shp.item {w : World} {base q g n c : Nat} {ns : List Nd} {r : Int} {FA : Option Addr} {fn fc : Nat} (h : Shp w base q g n c ns r FA fn fc) {k : Nat} (hk : k < n) (y0 y1 y2 : Int) :
    Shp (((w.setCell ⟨g, k * 7, none⟩ (.int .i64 y0)).setCell ⟨g, k * 7 + 1, none⟩ (.int .i64 y1)).setCell ⟨g, k * 7 + 2, none⟩ (.int .i64 y2)) base q g n c (putIt ns k (y0, y1, y2)) r FA fn fc := by
  obtain ⟨x, hx⟩ : ∃ x, nd ns k = x := ⟨_, rfl⟩
  obtain ⟨⟨x0, x1, x2⟩, xl, xr, xh, xm⟩ := x
  have hl := h.len
  have kl : ∀ {ms : List Nd} {x : Nd}, ms.length = n → nd (ms.set k x) k = x := fun e => nd_here (by omega) _
  have s0 := h.put hk 0 (by omega) hx ((y0, x1, x2), xl, xr, xh, xm) (.int .i64 y0) rfl
  have s1 := s0.put hk 1 (by omega) (kl hl) ((y0, y1, x2), xl, xr, xh, xm) (.int .i64 y1) rfl
  have s2 := s1.put hk 2 (by omega) (kl s0.len) ((y0, y1, y2), xl, xr, xh, xm) (.int .i64 y2) rfl
  simp only [List.set_set] at s2
  rw [putIt, hx]
  exact s2

set_option maxHeartbeats 4000000 in
theorem drop_step (base q g n c : Nat) (r : Int) (k : Nat) (l rt : Tr) (ihl : DropI base q g n c r l) (ihr : DropI base q g n c r rt) : DropI base q g n c r (.node k l rt) := by
  intro x ns FA fn fc free w h hp hb hfn
  have IHL := Lib.hid ihl
  have IHR := Lib.hid ihr
  have HP := Lib.hid hp
  have hl := h.sh.len
  have h32 : n ≤ 32 := by have := hp.few; omega
  have hk : k < n := by have := (parts_of hp.ok).hk; omega
  obtain ⟨x0, x1, x2⟩ := x
  have G0 := Lib.hid (grow0 w (.cells #[.int .i64 x0, .int .i64 x1, .int .i64 x2] 50))
  have O0 := Lib.hid (Own.new w 50 [.int .i64 x0, .int .i64 x1, .int .i64 x2])
  have S1 := Lib.hid (h.grown G0.out)
  obtain ⟨y, hy⟩ : ∃ y, (nd ns k).1 = y := ⟨_, rfl⟩
  have HY := Lib.hid hy
  obtain ⟨y0, y1, y2⟩ := y
  have CV := Lib.hid (cmpI_is (x0, x1, x2) (y0, y1, y2))
  have CC : Hid (∀ wx, Calls Try.prog 62 #[.agg #[.int .i64 x0, .int .i64 x1, .int .i64 x2], .agg #[.int .i64 y0, .int .i64 y1, .int .i64 y2]] wx (Says wx (.int .i64 (cmpI (x0, x1, x2) (y0, y1, y2))))) := Tcompare_any x0 x1 x2 y0 y1 y2
  generalize cmpI (x0, x1, x2) (y0, y1, y2) = cv at *
  clear h hp hl hy ihl ihr
  rw [Tr.top]
  go_enter Try.func52, Try.ntmps52
  go_upto_region 1 with fail
  have hs1 := G0.out.size
  have hs2 : w.heap.size < (w.alloc (.cells #[.int .i64 x0, .int .i64 x1, .int .i64 x2] 50)).heap.size := O0.out.lt
  generalize w.alloc (.cells #[.int .i64 x0, .int .i64 x1, .int .i64 x2] 50) = w1 at *
  obtain ⟨c0, _, _⟩ := S1.out.sh.oq.three
  obtain ⟨d0, d1, d2, _, _, _, _⟩ := S1.out.sh.cells hk
  rw [HY.out] at d0 d1 d2
  simp only at d0 d1 d2
  obtain ⟨b0, b1, b2⟩ := O0.out.three
  have HS : Hid ((w1.cell? ⟨w.heap.size, 0, none⟩ = some (.int .i64 x0) ∧ w1.cell? ⟨w.heap.size, 1, none⟩ = some (.int .i64 x1) ∧ w1.cell? ⟨w.heap.size, 2, none⟩ = some (.int .i64 x2)) ∧ (w1.cell? ⟨g, k * 7, none⟩ = some (.int .i64 y0) ∧ w1.cell? ⟨g, k * 7 + 1, none⟩ = some (.int .i64 y1) ∧ w1.cell? ⟨g, k * 7 + 2, none⟩ = some (.int .i64 y2))) := ⟨⟨b0, b1, b2⟩, d0, d1, d2⟩
  go_upto_region 2 with fail
  clear c0 d0 d1 d2 b0 b1 b2 O0
  go_region_held3 (fun w' : World => (w'.cell? ⟨w.heap.size, 0, none⟩ = some (.int .i64 x0) ∧ w'.cell? ⟨w.heap.size, 1, none⟩ = some (.int .i64 x1) ∧ w'.cell? ⟨w.heap.size, 2, none⟩ = some (.int .i64 x2)) ∧ (w'.cell? ⟨g, k * 7, none⟩ = some (.int .i64 y0) ∧ w'.cell? ⟨g, k * 7 + 1, none⟩ = some (.int .i64 y1) ∧ w'.cell? ⟨g, k * 7 + 2, none⟩ = some (.int .i64 y2))) (first | exact HS.out)
    (first
      | (go_at_call 62; refine (CC.out _).mono ?_; rintro e w8 ⟨rfl, g8⟩; have GK : Hid (w1.grownBy w8 none) := (by first | exact g8 | exact grown_undrew g8); have HS := Lib.hid (held6y GK.out HS.out); clear g8))
  have S8 := Lib.hid (S1.out.grown GK.out)
  have hs8 := GK.out.size
  clear S1
  rcases CV.out with ⟨rfl, hless⟩ | ⟨rfl, hless⟩ | ⟨rfl, hxy⟩
  · rw [← HY.out] at hless
    clear CV CC
    have PRE := Lib.hid (HP.out.left hless)
    have HL := Lib.hid hless
    have CI : Hid (∀ wx, w8.grownBy wx none → Calls Try.prog 52 #[.pointer (some ⟨q, 0, none⟩), .int .i64 l.top, .agg #[.int .i64 x0, .int .i64 x1, .int .i64 x2]] wx (DropPost wx base q g n c ns r FA fn free (x0, x1, x2) l)) :=
      fun wx gx => IHL.out (x0, x1, x2) ns FA fn fc free wx (S8.out.grown gx) PRE.out (by have := gx.size; omega) hfn
    obtain ⟨_, _, _, d3, _, _, _⟩ := S8.out.sh.cells hk
    rw [(parts_of HP.out.ok).left] at d3
    obtain ⟨⟨b0, b1, b2⟩, _⟩ := HS.out
    have HS2 : Hid ((w8.cell? ⟨w.heap.size, 0, none⟩ = some (.int .i64 x0) ∧ w8.cell? ⟨w.heap.size, 1, none⟩ = some (.int .i64 x1) ∧ w8.cell? ⟨w.heap.size, 2, none⟩ = some (.int .i64 x2)) ∧ w8.cell? ⟨g, k * 7 + 3, none⟩ = some (.int .i64 l.top)) := ⟨⟨b0, b1, b2⟩, d3⟩
    clear HS hless
    go_upto_region 6 with fail
    go_region_law (first
      | (go_simp; go_at_call 52; refine (CI.out _ (by first | exact World.grownBy.refl _ _ | exact grown_drew (World.grownBy.refl _ _) | exact grown_drewN (World.grownBy.refl _ _) _)).mono ?_; rintro e w9 ⟨n1, L1, f, FB, fd, rfl, hi, s9, k9⟩; have K9 : Hid (Kpt w8 w9 (onS q g FA)) := (by first | exact k9 | exact k9.undrew); have S9 := Lib.hid s9; have HI := Lib.hid hi; have f3 := s9.sh.frozen (k * 7 + 3); obtain ⟨_, _, _, d3, _, _, _⟩ := s9.sh.cells hk; clear s9 k9 hi))
    all_goals
      clear d3 f3 b0 b1 b2
      have S10 : Hid (Shf (w9.setCell ⟨g, k * 7 + 3, none⟩ (.int .i64 L1.top)) base q g n c (setL n1 k L1.top) r FB (fn + 1) fd (free ++ [(f : Int)])) := S9.out.keep (S9.out.sh.put hk 3 (by omega) rfl ((nd n1 k).1, L1.top, (nd n1 k).2.2) (.int .i64 L1.top) rfl) ((Kpt.refl w9 (onG g)).set rfl _)
      have K10 : Hid (Kpt w (w9.setCell ⟨g, k * 7 + 3, none⟩ (.int .i64 L1.top)) (onS q g FA)) := ((((Kpt.of G0.out (onS q g FA)).more GK.out).trans K9.out).set (.inr (.inl rfl)) _)
      obtain ⟨z1, z2⟩ := drop_left HP.out HL.out HI.out
      have Z1 := Lib.hid z1
      have Z2 := Lib.hid z2
      clear z1 z2 HI K9 S9
      generalize w9.setCell ⟨g, k * 7 + 3, none⟩ (.int .i64 L1.top) = w10 at *
      go_wp2_with fail
      refine (Even_any base q g n c (setL n1 k L1.top) r FB (fn + 1) fd k L1 rt w10 S10.out.sh Z1.out).mono ?_
      rintro e w11 ⟨n3, T, rfl, he, s11, k11⟩
      have S11 := Lib.hid (S10.out.keep s11 k11)
      have K11 := Lib.hid (K10.out.trans (k11.wide (T := onS q g FA) (fun i _ e => .inr (.inl e))))
      have Z3 := Lib.hid (Z2.out n3 T he)
      clear s11 k11 he
      go_wp2
      go_ret
      exact ⟨n3, T, f, FB, fd, rfl, Z3.out, S11.out, K11.out⟩
  · rw [← HY.out] at hless
    clear CV CC
    have PRE := Lib.hid (HP.out.right hless)
    have HL := Lib.hid hless
    have CI : Hid (∀ wx, w8.grownBy wx none → Calls Try.prog 52 #[.pointer (some ⟨q, 0, none⟩), .int .i64 rt.top, .agg #[.int .i64 x0, .int .i64 x1, .int .i64 x2]] wx (DropPost wx base q g n c ns r FA fn free (x0, x1, x2) rt)) :=
      fun wx gx => IHR.out (x0, x1, x2) ns FA fn fc free wx (S8.out.grown gx) PRE.out (by have := gx.size; omega) hfn
    obtain ⟨_, _, _, _, d3, _, _⟩ := S8.out.sh.cells hk
    rw [(parts_of HP.out.ok).right] at d3
    obtain ⟨⟨b0, b1, b2⟩, _⟩ := HS.out
    have HS2 : Hid ((w8.cell? ⟨w.heap.size, 0, none⟩ = some (.int .i64 x0) ∧ w8.cell? ⟨w.heap.size, 1, none⟩ = some (.int .i64 x1) ∧ w8.cell? ⟨w.heap.size, 2, none⟩ = some (.int .i64 x2)) ∧ w8.cell? ⟨g, k * 7 + 4, none⟩ = some (.int .i64 rt.top)) := ⟨⟨b0, b1, b2⟩, d3⟩
    clear HS hless
    go_upto_region 8 with fail
    go_region_law (first
      | (go_simp; go_at_call 52; refine (CI.out _ (by first | exact World.grownBy.refl _ _ | exact grown_drew (World.grownBy.refl _ _) | exact grown_drewN (World.grownBy.refl _ _) _)).mono ?_; rintro e w9 ⟨n1, L1, f, FB, fd, rfl, hi, s9, k9⟩; have K9 : Hid (Kpt w8 w9 (onS q g FA)) := (by first | exact k9 | exact k9.undrew); have S9 := Lib.hid s9; have HI := Lib.hid hi; have f3 := s9.sh.frozen (k * 7 + 4); obtain ⟨_, _, _, _, d3, _, _⟩ := s9.sh.cells hk; clear s9 k9 hi))
    all_goals
      clear d3 f3 b0 b1 b2
      have S10 : Hid (Shf (w9.setCell ⟨g, k * 7 + 4, none⟩ (.int .i64 L1.top)) base q g n c (setR n1 k L1.top) r FB (fn + 1) fd (free ++ [(f : Int)])) := S9.out.keep (S9.out.sh.put hk 4 (by omega) rfl ((nd n1 k).1, (nd n1 k).2.1, L1.top, (nd n1 k).2.2.2) (.int .i64 L1.top) rfl) ((Kpt.refl w9 (onG g)).set rfl _)
      have K10 : Hid (Kpt w (w9.setCell ⟨g, k * 7 + 4, none⟩ (.int .i64 L1.top)) (onS q g FA)) := ((((Kpt.of G0.out (onS q g FA)).more GK.out).trans K9.out).set (.inr (.inl rfl)) _)
      obtain ⟨z1, z2⟩ := drop_right HP.out HL.out HI.out
      have Z1 := Lib.hid z1
      have Z2 := Lib.hid z2
      clear z1 z2 HI K9 S9
      generalize w9.setCell ⟨g, k * 7 + 4, none⟩ (.int .i64 L1.top) = w10 at *
      go_wp2_with fail
      refine (Even_any base q g n c (setR n1 k L1.top) r FB (fn + 1) fd k l L1 w10 S10.out.sh Z1.out).mono ?_
      rintro e w11 ⟨n3, T, rfl, he, s11, k11⟩
      have S11 := Lib.hid (S10.out.keep s11 k11)
      have K11 := Lib.hid (K10.out.trans (k11.wide (T := onS q g FA) (fun i _ e => .inr (.inl e))))
      have Z3 := Lib.hid (Z2.out n3 T he)
      clear s11 k11 he
      go_wp2
      go_ret
      exact ⟨n3, T, f, FB, fd, rfl, Z3.out, S11.out, K11.out⟩
  · rw [← HY.out] at hxy
    have HXY := Lib.hid hxy
    clear CV CC hxy
    have HPE : Hid (DropPre ns (nd ns k).1 (.node k l rt)) := by rw [Hid, ← HXY.out]; exact HP.out
    have PT := Lib.hid (parts_of HP.out.ok)
    obtain ⟨_, _, _, d3, d4, _, _⟩ := S8.out.sh.cells hk
    rw [PT.out.left] at d3
    rw [PT.out.right] at d4
    clear HS
    cases l with
    | nil =>
      rw [Tr.top] at d3
      have Z := Lib.hid (drop_last (T := rt) HPE.out (.inl ⟨rfl, rfl⟩))
      have TT := Lib.hid (Tr.top_in PT.out.okr)
      have E : Hid ((if -1 < rt.top then rt.top else -1) = rt.top) := by
        rw [Hid]
        have := TT.out.1
        split <;> omega
      go_upto_region 10 with fail
      go_region
      rw [E.out]
      have S9 := Lib.hid (S8.out.grown (grown_drew (World.grownBy.refl w8 none)))
      clear d3 d4
      go_wp2_with fail
      refine (Clear_any base q g n c ns r FA fn fc free k w8.drew S9.out hk (by have := (grown_drew (World.grownBy.refl w8 none)).size; omega) (by omega) hfn).mono ?_
      rintro e w9 ⟨FB, fd, rfl, s9, k9⟩
      have S10 := Lib.hid s9
      have K10 : Hid (Kpt w w9 (onS q g FA)) := ((Kpt.of G0.out (onS q g FA)).more GK.out).trans k9.undrew
      clear s9 k9 S9
      go_wp2
      go_ret
      exact ⟨_, rt, k, FB, fd, rfl, by rw [HXY.out]; exact Z.out, S10.out, K10.out⟩
    | node i la lb =>
      have h1 : (((Tr.node i la lb).top : Int) == -1) = false := by simp [Tr.top]
      cases rt with
      | nil =>
        rw [Tr.top] at d4
        have Z := Lib.hid (drop_last (T := (Tr.node i la lb)) HPE.out (.inr ⟨rfl, rfl⟩))
        have TT := Lib.hid (Tr.top_in PT.out.okl)
        have E : Hid ((if (Tr.node i la lb).top < -1 then -1 else (Tr.node i la lb).top) = (Tr.node i la lb).top) := by
          rw [Hid]
          have := TT.out.1
          split <;> omega
        go_upto_region 10 with fail
        go_region
        rw [E.out]
        have S9 := Lib.hid (S8.out.grown (grown_drew (World.grownBy.refl w8 none)))
        clear d3 d4
        go_wp2_with fail
        refine (Clear_any base q g n c ns r FA fn fc free k w8.drew S9.out hk (by have := (grown_drew (World.grownBy.refl w8 none)).size; omega) (by omega) hfn).mono ?_
        rintro e w9 ⟨FB, fd, rfl, s9, k9⟩
        have S10 := Lib.hid s9
        have K10 : Hid (Kpt w w9 (onS q g FA)) := ((Kpt.of G0.out (onS q g FA)).more GK.out).trans k9.undrew
        clear s9 k9 S9
        go_wp2
        go_ret
        exact ⟨_, (Tr.node i la lb), k, FB, fd, rfl, by rw [HXY.out]; exact Z.out, S10.out, K10.out⟩
      | node j ra rb =>
        have h2 : (((Tr.node j ra rb).top : Int) == -1) = false := by simp [Tr.top]
        obtain ⟨z, zs, hz⟩ : ∃ z zs, ((Tr.node j ra rb).sum ns).1 = z :: zs := by
          cases e : ((Tr.node j ra rb).sum ns).1 with
          | nil =>
            have := Tr.sum_len ns (Tr.node j ra rb)
            rw [e] at this
            simp [Tr.places] at this
          | cons z zs => exact ⟨z, zs, rfl⟩
        obtain ⟨m1, m2⟩ := drop_next HPE.out hz
        obtain ⟨z0, z1, z2⟩ := z
        have M1 := Lib.hid m1
        have M2 := Lib.hid m2
        have HZ := Lib.hid hz
        obtain ⟨d0, d1, d2, _, _, _, _⟩ := S8.out.sh.cells hk
        clear m1 m2 hz
        go_upto_region 3 with fail
        clear d3
        rw [Tr.top] at d4
        go_wp2_with fail
        refine (First_any base q g n c ns r FA fn fc j ra rb z0 z1 z2 zs w8 S8.out.sh PT.out.okr HZ.out).mono ?_
        rintro e w9 ⟨rfl, g9⟩
        have S9 := Lib.hid (S8.out.grown g9)
        have K9 := Lib.hid (((Kpt.of G0.out (onS q g FA)).more GK.out).more g9)
        have hs9 := g9.size
        clear d0 d1 d2 d4 g9
        obtain ⟨d0, d1, d2, d3, d4, _, _⟩ := S9.out.sh.cells hk
        rw [PT.out.right] at d4
        have f0 := S9.out.sh.frozen (k * 7)
        have f1 := S9.out.sh.frozen (k * 7 + 1)
        have f2 := S9.out.sh.frozen (k * 7 + 2)
        go_upto_region 4 with fail
        clear d0 d1 d2 d3 d4 f0 f1 f2
        have S10 : Hid (Shf (((w9.setCell ⟨g, k * 7, none⟩ (.int .i64 z0)).setCell ⟨g, k * 7 + 1, none⟩ (.int .i64 z1)).setCell ⟨g, k * 7 + 2, none⟩ (.int .i64 z2)) base q g n c (putIt ns k (z0, z1, z2)) r FA fn fc free) := S9.out.keep (S9.out.sh.item hk z0 z1 z2) ((((Kpt.refl w9 (onG g)).set rfl _).set rfl _).set rfl _)
        have K10 : Hid (Kpt w (((w9.setCell ⟨g, k * 7, none⟩ (.int .i64 z0)).setCell ⟨g, k * 7 + 1, none⟩ (.int .i64 z1)).setCell ⟨g, k * 7 + 2, none⟩ (.int .i64 z2)) (onS q g FA)) := ((K9.out.set (.inr (.inl rfl)) _).set (.inr (.inl rfl)) _).set (.inr (.inl rfl)) _
        have hs10 : base ≤ (((w9.setCell ⟨g, k * 7, none⟩ (.int .i64 z0)).setCell ⟨g, k * 7 + 1, none⟩ (.int .i64 z1)).setCell ⟨g, k * 7 + 2, none⟩ (.int .i64 z2)).heap.size := Nat.le_trans hb K10.out.size
        clear S9 K9
        generalize ((w9.setCell ⟨g, k * 7, none⟩ (.int .i64 z0)).setCell ⟨g, k * 7 + 1, none⟩ (.int .i64 z1)).setCell ⟨g, k * 7 + 2, none⟩ (.int .i64 z2) = w10 at *
        have CI : Hid (∀ wx, w10.grownBy wx none → Calls Try.prog 52 #[.pointer (some ⟨q, 0, none⟩), .int .i64 (Tr.node j ra rb).top, .agg #[.int .i64 z0, .int .i64 z1, .int .i64 z2]] wx (DropPost wx base q g n c (putIt ns k (z0, z1, z2)) r FA fn free (z0, z1, z2) (.node j ra rb))) :=
          fun wx gx => IHR.out (z0, z1, z2) (putIt ns k (z0, z1, z2)) FA fn fc free wx (S10.out.grown gx) M1.out (by have := gx.size; omega) hfn
        obtain ⟨d0, d1, d2, _, d4, _, _⟩ := S10.out.sh.cells hk
        have ek : nd (putIt ns k (z0, z1, z2)) k = ((z0, z1, z2), (nd ns k).2) := nd_here PT.out.hk _
        rw [ek] at d0 d1 d2 d4
        rw [PT.out.right] at d4
        simp only at d0 d1 d2
        clear ek
        go_region_law (first
          | (go_simp; go_at_call 52; refine (CI.out _ (by first | exact World.grownBy.refl _ _ | exact grown_drew (World.grownBy.refl _ _) | exact grown_drewN (World.grownBy.refl _ _) _)).mono ?_; rintro e w11 ⟨n1, L1, f, FB, fd, rfl, hi, s11, k11⟩; have K11 : Hid (Kpt w10 w11 (onS q g FA)) := (by first | exact k11 | exact k11.undrew); have S11 := Lib.hid s11; have HI := Lib.hid hi; have f4 := s11.sh.frozen (k * 7 + 4); obtain ⟨_, _, _, _, d4, _, _⟩ := s11.sh.cells hk; clear s11 k11 hi))
        all_goals
          clear d0 d1 d2 d4 f4
          have S12 : Hid (Shf (w11.setCell ⟨g, k * 7 + 4, none⟩ (.int .i64 L1.top)) base q g n c (setR n1 k L1.top) r FB (fn + 1) fd (free ++ [(f : Int)])) := S11.out.keep (S11.out.sh.put hk 4 (by omega) rfl ((nd n1 k).1, (nd n1 k).2.1, L1.top, (nd n1 k).2.2.2) (.int .i64 L1.top) rfl) ((Kpt.refl w11 (onG g)).set rfl _)
          have K12 : Hid (Kpt w (w11.setCell ⟨g, k * 7 + 4, none⟩ (.int .i64 L1.top)) (onS q g FA)) := (K10.out.trans K11.out).set (.inr (.inl rfl)) _
          obtain ⟨y1, y2⟩ := M2.out f n1 L1 HI.out
          have Z1 := Lib.hid y1
          have Z2 := Lib.hid y2
          clear y1 y2 HI K11 S11
          generalize w11.setCell ⟨g, k * 7 + 4, none⟩ (.int .i64 L1.top) = w12 at *
          go_wp2_with fail
          refine (Even_any base q g n c (setR n1 k L1.top) r FB (fn + 1) fd k (.node i la lb) L1 w12 S12.out.sh Z1.out).mono ?_
          rintro e w13 ⟨n3, T, rfl, he, s13, k13⟩
          have S13 := Lib.hid (S12.out.keep s13 k13)
          have K13 := Lib.hid (K12.out.trans (k13.wide (T := onS q g FA) (fun i _ e => .inr (.inl e))))
          have Z3 := Lib.hid (Z2.out n3 T he)
          clear s13 k13 he
          go_wp2
          go_ret
          exact ⟨n3, T, f, FB, fd, rfl, by rw [HXY.out]; exact Z3.out, S13.out, K13.out⟩

theorem Drop_any (base q g n c : Nat) (r : Int) : ∀ T, DropI base q g n c r T
  | .nil => fun x ns FA fn fc free w _ hp => absurd hp.there (by simp [Tr.sum])
  | .node k l rt => drop_step base q g n c r k l rt (Drop_any base q g n c r l) (Drop_any base q g n c r rt)

end Go.Proofs.Ytgfehlmiejnonaa
