/-
  Gains of vertices, the room of an arc: the program's and the reference's.
-/
import Derived.Test.YtmamnjnmcipjbaaWithinB
import Derived.Test.YtmamnjnmcipjbaaMathFlow
namespace Go.Proofs.Ytmamnjnmcipjbaa
open Go.RowKit

def GnRel (w : World) (V : Int) (A : Option Addr) (n c : Nat) (L : List Lk) (f : List Int) (v : Int) (a i : Value) (wr : World) : Prop :=
  ∃ k : Nat, k ≤ n ∧ a = .int .i64 (gk L f v k) ∧ i = .int .i64 (k : Nat) ∧ w.grownBy wr none ∧ Own wr w.heap.size 24 [.int .i64 V, .slice A n c]

theorem forward_yes (a : Int) (hm : a.tmod 2 = 0) (w : World) : Calls Try.prog 49 #[.int .i64 a] w (Says w (.bool true)) := by
  go_enter Try.func49, Try.ntmps49
  go_wp2
  go_ret
  exact ⟨rfl, World.grownBy.refl w none⟩

theorem forward_no (a : Int) (hm : a.tmod 2 = 1) (w : World) : Calls Try.prog 49 #[.int .i64 a] w (Says w (.bool false)) := by
  go_enter Try.func49, Try.ntmps49
  go_wp2
  go_ret
  exact ⟨rfl, World.grownBy.refl w none⟩

theorem room_even {caps f : List Int} {a : Int} {i : Nat} (hi : (a / 2).toNat = i) (h : a % 2 = 0) : roomI caps f a = caps[i]?.getD 0 - f[i]?.getD 0 := by simp [roomI, hi, h]
theorem room_odd {caps f : List Int} {a : Int} {i : Nat} (hi : (a / 2).toNat = i) (h : a % 2 = 1) : roomI caps f a = f[i]?.getD 0 := by simp [roomI, hi, h]

set_option maxHeartbeats 1000000 in
theorem room_any (X : Option Addr) (n d : Nat) (caps : List Int) (Y : Option Addr) (e0 : Nat) (f : List Int) (a : Int) (w : World) {B B' : Nat} (hx : Row w B X n caps) (hy : Row w B' Y n f) (ha : isV (2 * (n : Int)) a = true) (hr : ratesB caps f = true) :
    Calls Try.prog 45 #[.slice X n d, .slice Y n e0, .int .i64 a] w (Says w (.int .i64 (roomI caps f a))) := by
  have hn := hx.small
  obtain ⟨i, hi, hd, ht, hc⟩ := arc_cases ha
  obtain ⟨b, off, hA, hb, hcell⟩ := hx.at_ (by omega)
  subst hA
  obtain ⟨b2, off2, hA2, hb2, hcell2⟩ := hy.at_ (by omega)
  subst hA2
  have HC := Lib.hid (hcell i hi)
  have HE := Lib.hid (hcell2 i hi)
  have hbd := rates_at hr (i := i) (by rw [hx.len]; exact hi)
  have hok := hx.ok i
  have hw1 : IntKind.i64.wrap (a.tdiv 2) = (i : Int) := by rw [ht]; exact IntWalk.i64_in _ (by omega)
  clear hcell hcell2 hx hy ha hr
  rcases hc with ⟨hm, hm2, -⟩ | ⟨hm, hm2, -⟩
  · have E := Lib.hid (room_even (caps := caps) (f := f) hd hm)
    generalize caps[i]?.getD 0 = x at *
    generalize f[i]?.getD 0 = y at *
    have hw2 : IntKind.i64.wrap (x - y) = x - y := IntWalk.i64_in _ (by omega)
    clear hd hm hbd hok
    have HT := Lib.hid ht
    go_enter Try.func45, Try.ntmps45
    go_wp2_with fail
    refine (forward_yes a hm2 _).mono ?_
    rintro e w1 ⟨rfl, g1⟩
    have c0 := kept g1 HC.out
    have c1 := kept g1 HE.out
    have G := Lib.hid g1
    clear g1
    go_wp2_with fail
    go_quiet (fail)
    go_wp2
    go_ret
    exact ⟨ret_int E.out.symm, grown_drewN G.out _⟩
  · have E := Lib.hid (room_odd (caps := caps) (f := f) hd hm)
    generalize caps[i]?.getD 0 = x at *
    generalize f[i]?.getD 0 = y at *
    clear hd hm hbd hok
    have HT := Lib.hid ht
    go_enter Try.func45, Try.ntmps45
    go_wp2_with fail
    refine (forward_no a hm2 _).mono ?_
    rintro e w1 ⟨rfl, g1⟩
    have c1 := kept g1 HE.out
    have G := Lib.hid g1
    clear g1
    go_wp2
    go_ret
    exact ⟨ret_int E.out.symm, G.out⟩

set_option maxHeartbeats 1000000 in
theorem Rroom_any (X : Option Addr) (n d : Nat) (caps : List Int) (Y : Option Addr) (e0 : Nat) (f : List Int) (a : Int) (w : World) {B B' : Nat} (hx : Row w B X n caps) (hy : Row w B' Y n f) (ha : isV (2 * (n : Int)) a = true) (hr : ratesB caps f = true) :
    Calls Try.prog 31 #[.slice X n d, .slice Y n e0, .int .i64 a] w (Says w (.int .i64 (roomI caps f a))) := by
  have hn := hx.small
  obtain ⟨i, hi, hd, ht, hc⟩ := arc_cases ha
  obtain ⟨b, off, hA, hb, hcell⟩ := hx.at_ (by omega)
  subst hA
  obtain ⟨b2, off2, hA2, hb2, hcell2⟩ := hy.at_ (by omega)
  subst hA2
  have c0 := hcell i hi
  have c1 := hcell2 i hi
  have hbd := rates_at hr (i := i) (by rw [hx.len]; exact hi)
  have hok := hx.ok i
  have hw1 : IntKind.i64.wrap (a.tdiv 2) = (i : Int) := by rw [ht]; exact IntWalk.i64_in _ (by omega)
  clear hcell hcell2 hx hy ha hr
  rcases hc with ⟨hm, hm2, -⟩ | ⟨hm, hm2, -⟩
  · have E := Lib.hid (room_even (caps := caps) (f := f) hd hm)
    generalize caps[i]?.getD 0 = x at *
    generalize f[i]?.getD 0 = y at *
    have hw2 : IntKind.i64.wrap (x - y) = x - y := IntWalk.i64_in _ (by omega)
    clear hd hm hbd hok
    go_enter Try.func31, Try.ntmps31
    go_wp2_with fail
    go_quiet (fail)
    go_wp2
    go_ret
    exact ⟨ret_int E.out.symm, grown_drewN (World.grownBy.refl w none) _⟩
  · have E := Lib.hid (room_odd (caps := caps) (f := f) hd hm)
    generalize caps[i]?.getD 0 = x at *
    generalize f[i]?.getD 0 = y at *
    clear hd hm hbd hok
    go_enter Try.func31, Try.ntmps31
    go_wp2
    go_ret
    exact ⟨ret_int E.out.symm, World.grownBy.refl w none⟩

end Go.Proofs.Ytmamnjnmcipjbaa
