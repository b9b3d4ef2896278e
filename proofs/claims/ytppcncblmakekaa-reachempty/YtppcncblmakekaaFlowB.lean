/-
  stream.fits, Value and Room, the reference's Value and Room.
-/
import Derived.Test.YtppcncblmakekaaFlowA
set_option maxRecDepth 20000
namespace Go.Proofs.Ytppcncblmakekaa
open Go.RowKit

theorem may_8 {V : Int} {L : List Lk} {n : Nat} (h : mayG V L = true) (hl : L.length = n) : n * 8 ≤ 140737488351232 ∧ n ≤ 16 := by
  have := (may_small h).2.2
  omega

set_option maxHeartbeats 1000000 in
theorem fits_any (V : Int) (A : Option Addr) (n c : Nat) (L : List Lk) (X : Option Addr) (p d : Nat) (caps : List Int) (Y : Option Addr) (q e0 : Nat) (f : List Int) (w : World) {B B' B'' : Nat} (h : Lks w B A n L) (hB : B ≤ w.heap.size) (hx : Row w B' X p caps) (hB' : B' ≤ w.heap.size) (hy : Row w B'' Y q f) (hB'' : B'' ≤ w.heap.size) :
    Calls Try.prog 53 #[.agg #[.int .i64 V, .slice A n c], .slice X p d, .slice Y q e0] w (Says w (.bool (fitsF V L caps f))) := by
  have HL := Lib.hid h.len
  have HR := Lib.hid h
  have HX := Lib.hid hx
  have HY := Lib.hid hy
  have HR1 := Lib.hid (h.grown hB (grow0 w (.cells #[.int .i64 V, .slice A n c] 24)))
  have HE : Hid (fitsF V L caps f = (mayG V L && capsB L caps && ratesB caps f)) := rfl
  clear h hx hy
  go_enter Try.func53, Try.ntmps53
  go_wp2_with fail
  refine (GMay_any V A n c L _ HR1.out (by simp; omega)).mono ?_
  rintro e w1 ⟨rfl, g1⟩
  obtain ⟨g, o2⟩ := box1 [.int .i64 V, .slice A n c] g1
  obtain ⟨c0, c1⟩ := o2.two
  have G := Lib.hid g
  clear g g1 o2 HR1
  cases hmay : mayG V L
  · have E : Hid (fitsF V L caps f = false) := by rw [Hid, HE.out, hmay]; rfl
    clear HE hmay
    go_wp2
    go_ret
    exact ⟨ret_bool E.out, G.out⟩
  rw [hmay, Bool.true_and] at HE
  have h8 := (may_8 hmay HL.out).1
  have H8 := Lib.hid h8
  clear hmay h8
  go_wp2_with fail
  refine (areCaps_any V A n c L X p d caps _ (HR.out.grown hB G.out) (HX.out.grown hB' G.out) (by have := G.out.size; omega) H8.out).mono ?_
  rintro e w2 ⟨rfl, g2⟩
  have G := Lib.hid (grown_trans G.out g2)
  clear g2 c0 c1
  cases hcap : capsB L caps
  · have E : Hid (fitsF V L caps f = false) := by rw [Hid, HE.out, hcap]; rfl
    clear HE hcap
    go_wp2
    go_ret
    exact ⟨ret_bool E.out, G.out⟩
  rw [hcap, Bool.true_and] at HE
  clear hcap
  go_wp2_with fail
  refine (Rates_any X p d caps Y q e0 f _ (HX.out.grown hB' G.out) (HY.out.grown hB'' G.out)).mono ?_
  rintro e w3 ⟨rfl, g3⟩
  have G := Lib.hid (grown_trans G.out g3)
  clear g3
  go_wp2
  go_ret
  exact ⟨ret_bool HE.out, G.out⟩

def valV (V : Int) (L : List Lk) (f : List Int) (s : Int) : Value := .tuple #[.int .i64 (valX V L f s), .int .i64 (valE V L f s)]
def roomV (V : Int) (L : List Lk) (caps f : List Int) (a : Int) : Value := .tuple #[.int .i64 (roomX V L caps f a), .int .i64 (roomE V L caps f a)]

set_option maxHeartbeats 1000000 in
theorem SRoom_any (V a : Int) (A : Option Addr) (n c : Nat) (L : List Lk) (X : Option Addr) (p d : Nat) (caps : List Int) (Y : Option Addr) (q e0 : Nat) (f : List Int) (w : World) {B B' B'' : Nat} (h : Lks w B A n L) (hB : B ≤ w.heap.size) (hx : Row w B' X p caps) (hB' : B' ≤ w.heap.size) (hy : Row w B'' Y q f) (hB'' : B'' ≤ w.heap.size) :
    Calls Try.prog 48 #[.agg #[.int .i64 V, .slice A n c], .slice X p d, .slice Y q e0, .int .i64 a] w (Says w (roomV V L caps f a)) := by
  have HL := Lib.hid h.len
  have HLX := Lib.hid hx.len
  have HLY := Lib.hid hy.len
  have HX := Lib.hid hx
  have HY := Lib.hid hy
  have HR1 := Lib.hid (h.grown hB (grow0 w (.cells #[.int .i64 V, .slice A n c] 24)))
  have HX1 := Lib.hid (hx.grown hB' (grow0 w (.cells #[.int .i64 V, .slice A n c] 24)))
  have HY1 := Lib.hid (hy.grown hB'' (grow0 w (.cells #[.int .i64 V, .slice A n c] 24)))
  have HE : Hid (roomB V L caps f a = (fitsF V L caps f && isV (2 * (n : Int)) a)) := by rw [Hid, roomB, h.len]
  clear h hx hy
  go_enter Try.func48, Try.ntmps48
  go_wp2_with fail
  refine (fits_any V A n c L X p d caps Y q e0 f _ HR1.out (by simp; omega) HX1.out (by simp; omega) HY1.out (by simp; omega)).mono ?_
  rintro e w1 ⟨rfl, g1⟩
  obtain ⟨g, o2⟩ := box1 [.int .i64 V, .slice A n c] g1
  obtain ⟨c0, c1⟩ := o2.two
  have G := Lib.hid g
  clear g g1 o2 HR1 HX1 HY1
  cases hf : fitsF V L caps f
  · have E := Lib.hid (room_no (V := V) (L := L) (caps := caps) (f := f) (a := a) (by rw [HE.out, hf]; rfl))
    clear HE hf
    go_wp2
    go_ret2
    exact ⟨ret_two E.out.1 E.out.2, G.out⟩
  rw [hf, Bool.true_and] at HE
  obtain ⟨f1, f2, f3, f4⟩ := fits_parts hf
  have hpn : p = n := by have := (capsB_parts f2).1; have := HL.out; have := HLX.out; omega
  have hqn : q = n := by have := (capsB_parts f4).1; have := HL.out; have := HLY.out; omega
  subst hpn hqn
  have H16 := Lib.hid (may_8 f1 HL.out).2
  have HRT := Lib.hid f3
  clear hf f1 f2 f3 f4
  go_wp2_with fail
  refine (Arc1_any V a A q c _ rfl (by have := H16.out; omega)).mono ?_
  rintro e w2 ⟨rfl, g2⟩
  have G := Lib.hid (grown_trans G.out g2)
  clear g2 c0 c1
  cases hs : isV (2 * (q : Int)) a
  · have E := Lib.hid (room_no (V := V) (L := L) (caps := caps) (f := f) (a := a) (by rw [HE.out, hs]))
    clear HE hs
    go_wp2
    go_ret2
    exact ⟨ret_two E.out.1 E.out.2, G.out⟩
  have E := Lib.hid (room_yes (V := V) (L := L) (caps := caps) (f := f) (a := a) (by rw [HE.out, hs]))
  have HA := Lib.hid hs
  clear HE hs
  go_wp2_with fail
  refine (room_any X q d caps Y e0 f a _ (HX.out.grown hB' G.out) (HY.out.grown hB'' G.out) HA.out HRT.out).mono ?_
  rintro e w3 ⟨rfl, g3⟩
  have G := Lib.hid (grown_trans G.out g3)
  clear g3
  go_wp2
  go_ret2
  exact ⟨ret_two E.out.1 E.out.2, G.out⟩

end Go.Proofs.Ytppcncblmakekaa
