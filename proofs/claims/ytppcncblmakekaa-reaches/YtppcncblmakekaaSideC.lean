/-
  cut.May and the reference's CutMay.
-/
import Derived.Test.YtppcncblmakekaaSideB
import Derived.Test.YtppcncblmakekaaPathA
set_option maxRecDepth 20000
namespace Go.Proofs.Ytppcncblmakekaa
open Go.RowKit

set_option maxHeartbeats 1000000 in
theorem RCutMay_any (V s t : Int) (A : Option Addr) (n c : Nat) (L : List Lk) (X : Option Addr) (m d : Nat) (vs : List Int) (w : World) {B B' : Nat} (h : Lks w B A n L) (hB : B ≤ w.heap.size) (hx : Row w B' X m vs) (hB' : B' ≤ w.heap.size) :
    Calls Try.prog 19 #[.agg #[.int .i64 V, .slice A n c], .int .i64 s, .int .i64 t, .slice X m d] w (Says w (.bool (cutB V L s t vs))) := by
  have HX := Lib.hid hx
  have HR1 := Lib.hid (h.grown hB (grow0 w (.cells #[.int .i64 V, .slice A n c] 24)))
  have HE := Lib.hid (cut_ref V L s t vs)
  clear h hx
  go_enter Try.func19, Try.ntmps19
  go_wp2_with fail
  refine (RMay_any V A n c L _ HR1.out).mono ?_
  rintro e w1 ⟨rfl, g1⟩
  obtain ⟨g, o2⟩ := box1 [.int .i64 V, .slice A n c] g1
  obtain ⟨c0, c1⟩ := o2.two
  have G := Lib.hid g
  have O2 := Lib.hid o2
  clear g g1 o2 HR1
  cases hmay : mayG V L
  · have E : Hid (cutB V L s t vs = false) := by rw [Hid, HE.out, hmay]; rfl
    clear HE hmay
    go_wp2
    go_ret
    exact ⟨ret_bool E.out, G.out⟩
  rw [hmay, Bool.true_and] at HE
  clear hmay
  go_wp2_with fail
  refine (RVertex_any V s A n c _).mono ?_
  rintro e w2 ⟨rfl, g2⟩
  have G := Lib.hid (grown_trans G.out g2)
  have O2 := Lib.hid (O2.out.kept g2)
  clear g2 c0 c1
  obtain ⟨c0, c1⟩ := O2.out.two
  cases hs : isV V s
  · have E : Hid (cutB V L s t vs = false) := by rw [Hid, HE.out, hs]; rfl
    clear HE hs
    go_wp2
    go_ret
    exact ⟨ret_bool E.out, G.out⟩
  rw [hs, Bool.true_and] at HE
  clear hs
  go_wp2_with fail
  refine (RVertex_any V t A n c _).mono ?_
  rintro e w3 ⟨rfl, g3⟩
  have G := Lib.hid (grown_trans G.out g3)
  have O2 := Lib.hid (O2.out.kept g3)
  clear g3 c0 c1
  obtain ⟨c0, c1⟩ := O2.out.two
  cases ht : isV V t
  · have E : Hid (cutB V L s t vs = false) := by rw [Hid, HE.out, ht]; rfl
    clear HE ht
    go_wp2
    go_ret
    exact ⟨ret_bool E.out, G.out⟩
  rw [ht, Bool.true_and] at HE
  clear ht
  go_wp2_with fail
  refine (VertsMay_any V A n c X m d vs _ (HX.out.grown hB' G.out)).mono ?_
  rintro e w4 ⟨rfl, g4⟩
  have G := Lib.hid (grown_trans G.out g4)
  clear g4 c0 c1 O2
  cases hv : vertsB V vs
  · have E : Hid (cutB V L s t vs = false) := by rw [Hid, HE.out, hv]; rfl
    clear HE hv
    go_wp2
    go_ret
    exact ⟨ret_bool E.out, G.out⟩
  rw [hv, Bool.true_and] at HE
  clear hv
  go_wp2_with fail
  refine (Among_any s X m d vs _ (HX.out.grown hB' G.out)).mono ?_
  rintro e w5 ⟨rfl, g5⟩
  have G := Lib.hid (grown_trans G.out g5)
  clear g5
  cases hsv : decide (s ∈ vs)
  · have E : Hid (cutB V L s t vs = false) := by rw [Hid, HE.out, hsv]; rfl
    clear HE hsv
    go_wp2
    go_ret
    exact ⟨ret_bool E.out, G.out⟩
  rw [hsv, Bool.true_and] at HE
  clear hsv
  go_wp2_with fail
  refine (Among_any t X m d vs _ (HX.out.grown hB' G.out)).mono ?_
  rintro e w6 ⟨rfl, g6⟩
  have G := Lib.hid (grown_trans G.out g6)
  clear g6
  cases hd : decide (t ∈ vs)
  · have E : Hid (cutB V L s t vs = true) := by rw [Hid, HE.out, hd]; rfl
    clear HE hd
    go_wp2
    go_ret
    exact ⟨ret_bool E.out, G.out⟩
  · have E : Hid (cutB V L s t vs = false) := by rw [Hid, HE.out, hd]; rfl
    clear HE hd
    go_wp2
    go_ret
    exact ⟨ret_bool E.out, G.out⟩

end Go.Proofs.Ytppcncblmakekaa
