/-
  cut.Proves and the reference's.
-/
import Derived.Test.YtmodkhcfihlhgaaSideE
namespace Go.Proofs.Ytmodkhcfihlhgaa
open Go.RowKit

def prvV (V : Int) (L : List Lk) (caps : List Int) (s t R : Int) (vs : List Int) : Value := .tuple #[.bool (provB V L caps s t R vs), .int .i64 (provE V L caps)]

set_option maxHeartbeats 2000000 in
theorem Proves_any (V s t R : Int) (A : Option Addr) (n c : Nat) (L : List Lk) (Y : Option Addr) (p e0 : Nat) (caps : List Int) (X : Option Addr) (m d : Nat) (vs : List Int) (w : World) {B B' B'' : Nat} (h : Lks w B A n L) (hB : B ≤ w.heap.size) (hy : Row w B'' Y p caps) (hB'' : B'' ≤ w.heap.size) (hx : Row w B' X m vs) (hB' : B' ≤ w.heap.size) :
    Calls Try.prog 39 #[.agg #[.int .i64 V, .slice A n c], .slice Y p e0, .int .i64 s, .int .i64 t, .int .i64 R, .slice X m d] w (Says w (prvV V L caps s t R vs)) := by
  have HL := Lib.hid h.len
  have HR := Lib.hid h
  have HY := Lib.hid hy
  have HX := Lib.hid hx
  have HR1 := Lib.hid (h.grown hB (grow0 w (.cells #[.int .i64 V, .slice A n c] 24)))
  clear h hx hy
  go_enter Try.func39, Try.ntmps39
  go_wp2_with fail
  refine (GMay_any V A n c L _ HR1.out (by simp; omega)).mono ?_
  rintro e w1 ⟨rfl, g1⟩
  obtain ⟨g, o2⟩ := box1 [.int .i64 V, .slice A n c] g1
  obtain ⟨c0, c1⟩ := o2.two
  have G := Lib.hid g
  have O2 := Lib.hid o2
  clear g g1 o2 HR1
  cases hmay : mayG V L
  · have E := Lib.hid (prov_no (V := V) (L := L) (caps := caps) (s := s) (t := t) (R := R) (vs := vs) (by rw [hmay]; rfl))
    clear hmay
    go_wp2
    go_ret2
    exact ⟨ret_fit E.out.2 E.out.1, G.out⟩
  have HMAY := Lib.hid hmay
  clear hmay
  go_wp2_with fail
  refine (areCaps_any V A n c L Y p e0 caps _ (HR.out.grown hB G.out) (HY.out.grown hB'' G.out) (by have := G.out.size; omega) (may_n8 HMAY.out HL.out)).mono ?_
  rintro e w2 ⟨rfl, g2⟩
  have G := Lib.hid (grown_trans G.out g2)
  have O2 := Lib.hid (O2.out.kept g2)
  clear g2 c0 c1
  obtain ⟨c0, c1⟩ := O2.out.two
  cases hcap : capsB L caps
  · have E := Lib.hid (prov_no (V := V) (L := L) (caps := caps) (s := s) (t := t) (R := R) (vs := vs) (by rw [hcap, Bool.and_false]))
    clear hcap
    go_wp2
    go_ret2
    exact ⟨ret_fit E.out.2 E.out.1, G.out⟩
  have HB : Hid ((mayG V L && capsB L caps) = true) := by rw [Hid, HMAY.out, hcap]; rfl
  clear hcap
  go_wp2_with fail
  refine (SMay_any V s t A n c L X m d vs _ (HR.out.grown hB G.out) (by have := G.out.size; omega) (HX.out.grown hB' G.out) (by have := G.out.size; omega)).mono ?_
  rintro e w3 ⟨rfl, g3⟩
  have G := Lib.hid (grown_trans G.out g3)
  have O2 := Lib.hid (O2.out.kept g3)
  clear g3 c0 c1
  obtain ⟨c0, c1⟩ := O2.out.two
  cases hcut : cutB V L s t vs
  · have E := Lib.hid (prov_cut (R := R) HB.out hcut)
    clear hcut
    go_wp2
    go_ret2
    exact ⟨ret_fit E.out.2 E.out.1, G.out⟩
  have E := Lib.hid (prov_yes (R := R) HB.out hcut)
  clear hcut
  go_wp2_with fail
  refine (Worth_any V A n c L Y p e0 caps X m d vs _ (HR.out.grown hB G.out) (by have := G.out.size; omega) (HY.out.grown hB'' G.out) (by have := G.out.size; omega) (HX.out.grown hB' G.out) (by have := G.out.size; omega)).mono ?_
  rintro e w4 ⟨he, g4⟩
  have G := Lib.hid (grown_trans G.out g4)
  clear g4 c0 c1 O2
  rw [wthV, E.out.2.1] at he
  subst he
  have E1 := Lib.hid E.out.1
  have E2 := Lib.hid E.out.2.2
  clear E
  generalize worthX V L caps vs = x at *
  go_wp2
  go_ret2
  exact ⟨ret_fit E2.out E1.out, G.out⟩

set_option maxHeartbeats 2000000 in
theorem RProves_any (V s t R : Int) (A : Option Addr) (n c : Nat) (L : List Lk) (Y : Option Addr) (p e0 : Nat) (caps : List Int) (X : Option Addr) (m d : Nat) (vs : List Int) (w : World) {B B' B'' : Nat} (h : Lks w B A n L) (hB : B ≤ w.heap.size) (hy : Row w B'' Y p caps) (hB'' : B'' ≤ w.heap.size) (hx : Row w B' X m vs) (hB' : B' ≤ w.heap.size) :
    Calls Try.prog 40 #[.agg #[.int .i64 V, .slice A n c], .slice Y p e0, .int .i64 s, .int .i64 t, .int .i64 R, .slice X m d] w (Says w (prvV V L caps s t R vs)) := by
  have HR := Lib.hid h
  have HY := Lib.hid hy
  have HX := Lib.hid hx
  have HR1 := Lib.hid (h.grown hB (grow0 w (.cells #[.int .i64 V, .slice A n c] 24)))
  have HY1 := Lib.hid (hy.grown hB'' (grow0 w (.cells #[.int .i64 V, .slice A n c] 24)))
  clear h hx hy
  go_enter Try.func40, Try.ntmps40
  go_wp2_with fail
  refine (RCaps_any V A n c L Y p e0 caps _ HR1.out (by simp; omega) HY1.out).mono ?_
  rintro e w1 ⟨rfl, g1⟩
  obtain ⟨g, o2⟩ := box1 [.int .i64 V, .slice A n c] g1
  obtain ⟨c0, c1⟩ := o2.two
  have G := Lib.hid g
  have O2 := Lib.hid o2
  clear g g1 o2 HR1 HY1
  cases hb : (mayG V L && capsB L caps)
  · have E := Lib.hid (prov_no (s := s) (t := t) (R := R) (vs := vs) hb)
    clear hb
    go_wp2
    go_ret2
    exact ⟨ret_fit E.out.2 E.out.1, G.out⟩
  have HB := Lib.hid hb
  clear hb
  go_wp2_with fail
  refine (RCutMay_any V s t A n c L X m d vs _ (HR.out.grown hB G.out) (by have := G.out.size; omega) (HX.out.grown hB' G.out) (by have := G.out.size; omega)).mono ?_
  rintro e w3 ⟨rfl, g3⟩
  have G := Lib.hid (grown_trans G.out g3)
  have O2 := Lib.hid (O2.out.kept g3)
  clear g3 c0 c1
  obtain ⟨c0, c1⟩ := O2.out.two
  cases hcut : cutB V L s t vs
  · have E := Lib.hid (prov_cut (R := R) HB.out hcut)
    clear hcut
    go_wp2
    go_ret2
    exact ⟨ret_fit E.out.2 E.out.1, G.out⟩
  have E := Lib.hid (prov_yes (R := R) HB.out hcut)
  clear hcut
  go_wp2_with fail
  refine (RWorth_any V A n c L Y p e0 caps X m d vs _ (HR.out.grown hB G.out) (by have := G.out.size; omega) (HY.out.grown hB'' G.out) (by have := G.out.size; omega) (HX.out.grown hB' G.out) (by have := G.out.size; omega)).mono ?_
  rintro e w4 ⟨he, g4⟩
  have G := Lib.hid (grown_trans G.out g4)
  clear g4 c0 c1 O2
  rw [wthV] at he
  subst he
  have E1 := Lib.hid E.out.1
  have E2 := Lib.hid E.out.2.2
  clear E
  generalize worthX V L caps vs = x at *
  generalize worthE V L caps vs = z at *
  go_wp2
  go_ret2
  exact ⟨ret_fit E2.out E1.out, G.out⟩

end Go.Proofs.Ytmodkhcfihlhgaa
