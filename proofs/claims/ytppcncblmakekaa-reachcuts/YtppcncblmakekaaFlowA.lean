/-
  Gains of vertices, the room of an arc: the program's and the reference's.
-/
import Derived.Test.YtppcncblmakekaaWithinB
import Derived.Test.YtppcncblmakekaaMathFlow
set_option maxRecDepth 20000
namespace Go.Proofs.Ytppcncblmakekaa
open Go.RowKit

def GnRel (w : World) (V : Int) (A : Option Addr) (n c : Nat) (L : List Lk) (f : List Int) (v : Int) (a i : Value) (wr : World) : Prop :=
  ∃ k : Nat, k ≤ n ∧ a = .int .i64 (gk L f v k) ∧ i = .int .i64 (k : Nat) ∧ w.grownBy wr none ∧ Own wr w.heap.size 24 [.int .i64 V, .slice A n c]

set_option maxHeartbeats 1000000 in
theorem gain_any (V : Int) (A : Option Addr) (n c : Nat) (L : List Lk) (Y : Option Addr) (m e0 : Nat) (f : List Int) (v : Int) (w : World) {B B' : Nat} (h : Lks w B A n L) (hy : Row w B' Y m f) (hmay : mayG V L = true) (hcap : capsB L f = true) :
    Calls Try.prog 54 #[.agg #[.int .i64 V, .slice A n c], .slice Y m e0, .int .i64 v] w (Says w (.int .i64 (gainOf L f v))) := by
  have hn := h.small
  have HL := Lib.hid h.len
  have HR := Lib.hid h
  have HY := Lib.hid hy
  have hmn : n = m := by have := (capsB_parts hcap).1; have := h.len; have := hy.len; omega
  subst hmn
  have HB := Lib.hid (fun (k : Nat) (hk : k < n) => gain_room v hmay hcap (k := k) (by rw [HL.out]; exact hk))
  have HJ := Lib.hid (fun (k : Nat) (hk : k < n) => may_joins hmay (i := k) (by rw [HL.out]; exact hk))
  clear h hy hmay hcap
  have HS : Hid (GnRel w V A n c L f v (.int .i64 0) (.int .i64 0) (w.alloc (.cells #[.int .i64 V, .slice A n c] 24))) := ⟨0, Nat.zero_le _, rfl, rfl, grow0 _ _, Own.new w 24 [.int .i64 V, .slice A n c]⟩
  go_enter Try.func54, Try.ntmps54
  go_wp2
  go_loopw [7, 13] (fun a i wr => GnRel w V A n c L f v a i wr) (fun _ i _ => n - (intOf i).toNat)
  case atStart => exact HS.out
  case round =>
    clear HS
    obtain ⟨k, hk, rfl, rfl, hg, ob⟩ := hrel
    have G := Lib.hid hg
    obtain ⟨c0, c1⟩ := ob.two
    have O := Lib.hid ob
    by_cases hlt : k < n
    · obtain ⟨b, off, hA, hb, hcell⟩ := HR.out.cells (by omega)
      subst hA
      obtain ⟨d0, d1, d2⟩ := hcell k hlt
      have d0 := kept hg d0
      have d1 := kept hg d1
      have d2 := kept hg d2
      obtain ⟨b2, off2, hA2, hb2, hcell2⟩ := HY.out.at_ (by omega)
      subst hA2
      have e0 := kept hg (hcell2 k hlt)
      have hbd := HB.out k hlt
      have HNE := Lib.hid (HJ.out k hlt).2.2.2.2
      have HO := Lib.hid (gk_out (L := L) (f := f) (v := v) (k := k))
      have HI := Lib.hid (gk_in (L := L) (f := f) (v := v) (k := k))
      have HN := Lib.hid (gk_none (L := L) (f := f) (v := v) (k := k))
      clear hcell hcell2 hg ob
      generalize hgk : gk L f v k = a at *
      generalize hgk1 : gk L f v (k + 1) = a1 at *
      generalize f[k]?.getD 0 = x at *
      generalize at3 L k = l at *
      obtain ⟨p, t, cp⟩ := l
      simp only at d0 d1 d2
      have hw : IntKind.i64.wrap (a + x) = a + x := IntWalk.i64_in _ (by omega)
      have hw2 : IntKind.i64.wrap (a - x) = a - x := IntWalk.i64_in _ (by omega)
      have HG1 := Lib.hid hgk1
      have e1 := kept (grow0 wr (.cells #[.int .i64 p, .int .i64 t, .int .i64 cp] 57)) e0
      clear hgk hgk1 hbd
      by_cases hp : p = v
      · have hnt : ¬ t = v := fun e => HNE.out (by rw [hp, e])
        have E := Lib.hid (HO.out hp hnt)
        clear HO HI HN HNE
        subst hp
        have q1 : (p == p) = true := by simp
        have q2 : (t == p) = false := by simp [hnt]
        clear hnt
        go_wp2
        go_roundw
        case rel => exact ⟨k + 1, by omega, by rw [HG1.out, E.out], by go_num, grown_alloc G.out _, O.out.alloc _⟩
        case measure => simp [intOf]; omega
      · by_cases ht : t = v
        · have E := Lib.hid (HI.out hp ht)
          clear HO HI HN HNE
          subst ht
          have q1 : (p == t) = false := by simp [hp]
          have q2 : (t == t) = true := by simp
          clear hp
          go_wp2
          go_roundw
          case rel => exact ⟨k + 1, by omega, by rw [HG1.out, E.out], by go_num, grown_alloc G.out _, O.out.alloc _⟩
          case measure => simp [intOf]; omega
        · have E := Lib.hid (HN.out hp ht)
          have q1 : (p == v) = false := by simp [hp]
          have q2 : (t == v) = false := by simp [ht]
          clear HO HI HN HNE hp ht
          go_wp2
          go_roundw
          case rel => exact ⟨k + 1, by omega, by rw [HG1.out, E.out], by go_num, grown_alloc G.out _, O.out.alloc _⟩
          case measure => simp [intOf]; omega
    · obtain rfl : k = n := by omega
      have E : Hid (gainOf L f v = gk L f v k) := by rw [Hid, gainOf, HL.out]
      clear hg ob
      generalize gk L f v k = a at *
      go_wp2
      go_ret
      exact ⟨ret_int E.out.symm, G.out⟩

theorem forward_yes (a : Int) (hm : a.tmod 2 = 0) (w : World) : Calls Try.prog 62 #[.int .i64 a] w (Says w (.bool true)) := by
  go_enter Try.func62, Try.ntmps62
  go_wp2
  go_ret
  exact ⟨rfl, World.grownBy.refl w none⟩

theorem forward_no (a : Int) (hm : a.tmod 2 = 1) (w : World) : Calls Try.prog 62 #[.int .i64 a] w (Says w (.bool false)) := by
  go_enter Try.func62, Try.ntmps62
  go_wp2
  go_ret
  exact ⟨rfl, World.grownBy.refl w none⟩

theorem room_even {caps f : List Int} {a : Int} {i : Nat} (hi : (a / 2).toNat = i) (h : a % 2 = 0) : roomI caps f a = caps[i]?.getD 0 - f[i]?.getD 0 := by simp [roomI, hi, h]
theorem room_odd {caps f : List Int} {a : Int} {i : Nat} (hi : (a / 2).toNat = i) (h : a % 2 = 1) : roomI caps f a = f[i]?.getD 0 := by simp [roomI, hi, h]

set_option maxHeartbeats 1000000 in
theorem room_any (X : Option Addr) (n d : Nat) (caps : List Int) (Y : Option Addr) (e0 : Nat) (f : List Int) (a : Int) (w : World) {B B' : Nat} (hx : Row w B X n caps) (hy : Row w B' Y n f) (ha : isV (2 * (n : Int)) a = true) (hr : ratesB caps f = true) :
    Calls Try.prog 58 #[.slice X n d, .slice Y n e0, .int .i64 a] w (Says w (.int .i64 (roomI caps f a))) := by
  have hn := hx.small
  obtain ⟨i, hi, hd, ht, hc⟩ := arc_cases ha
  obtain ⟨b, off, hA, hb, hcell⟩ := hx.at_ (by omega)
  subst hA
  obtain ⟨b2, off2, hA2, hb2, hcell2⟩ := hy.at_ (by omega)
  subst hA2
  have HC := Lib.hid (hcell i hi)
  have HE := Lib.hid (hcell2 i hi)
  have hbd := rates_at hr (i := i) (by rw [hx.len]; exact hi)
  have hok := hx.ok i
  have hw1 : IntKind.i64.wrap (a.tdiv 2) = (i : Int) := by rw [ht]; exact IntWalk.i64_in _ (by omega)
  clear hcell hcell2 hx hy ha hr
  rcases hc with ⟨hm, hm2, -⟩ | ⟨hm, hm2, -⟩
  · have E := Lib.hid (room_even (caps := caps) (f := f) hd hm)
    generalize caps[i]?.getD 0 = x at *
    generalize f[i]?.getD 0 = y at *
    have hw2 : IntKind.i64.wrap (x - y) = x - y := IntWalk.i64_in _ (by omega)
    clear hd hm hbd hok
    have HT := Lib.hid ht
    go_enter Try.func58, Try.ntmps58
    go_wp2_with fail
    refine (forward_yes a hm2 _).mono ?_
    rintro e w1 ⟨rfl, g1⟩
    have c0 := kept g1 HC.out
    have c1 := kept g1 HE.out
    have G := Lib.hid g1
    clear g1
    go_wp2_with fail
    go_quiet (fail)
    go_wp2
    go_ret
    exact ⟨ret_int E.out.symm, grown_drewN G.out _⟩
  · have E := Lib.hid (room_odd (caps := caps) (f := f) hd hm)
    generalize caps[i]?.getD 0 = x at *
    generalize f[i]?.getD 0 = y at *
    clear hd hm hbd hok
    have HT := Lib.hid ht
    go_enter Try.func58, Try.ntmps58
    go_wp2_with fail
    refine (forward_no a hm2 _).mono ?_
    rintro e w1 ⟨rfl, g1⟩
    have c1 := kept g1 HE.out
    have G := Lib.hid g1
    clear g1
    go_wp2
    go_ret
    exact ⟨ret_int E.out.symm, G.out⟩

set_option maxHeartbeats 1000000 in
theorem Rroom_any (X : Option Addr) (n d : Nat) (caps : List Int) (Y : Option Addr) (e0 : Nat) (f : List Int) (a : Int) (w : World) {B B' : Nat} (hx : Row w B X n caps) (hy : Row w B' Y n f) (ha : isV (2 * (n : Int)) a = true) (hr : ratesB caps f = true) :
    Calls Try.prog 39 #[.slice X n d, .slice Y n e0, .int .i64 a] w (Says w (.int .i64 (roomI caps f a))) := by
  have hn := hx.small
  obtain ⟨i, hi, hd, ht, hc⟩ := arc_cases ha
  obtain ⟨b, off, hA, hb, hcell⟩ := hx.at_ (by omega)
  subst hA
  obtain ⟨b2, off2, hA2, hb2, hcell2⟩ := hy.at_ (by omega)
  subst hA2
  have c0 := hcell i hi
  have c1 := hcell2 i hi
  have hbd := rates_at hr (i := i) (by rw [hx.len]; exact hi)
  have hok := hx.ok i
  have hw1 : IntKind.i64.wrap (a.tdiv 2) = (i : Int) := by rw [ht]; exact IntWalk.i64_in _ (by omega)
  clear hcell hcell2 hx hy ha hr
  rcases hc with ⟨hm, hm2, -⟩ | ⟨hm, hm2, -⟩
  · have E := Lib.hid (room_even (caps := caps) (f := f) hd hm)
    generalize caps[i]?.getD 0 = x at *
    generalize f[i]?.getD 0 = y at *
    have hw2 : IntKind.i64.wrap (x - y) = x - y := IntWalk.i64_in _ (by omega)
    clear hd hm hbd hok
    go_enter Try.func39, Try.ntmps39
    go_wp2_with fail
    go_quiet (fail)
    go_wp2
    go_ret
    exact ⟨ret_int E.out.symm, grown_drewN (World.grownBy.refl w none) _⟩
  · have E := Lib.hid (room_odd (caps := caps) (f := f) hd hm)
    generalize caps[i]?.getD 0 = x at *
    generalize f[i]?.getD 0 = y at *
    clear hd hm hbd hok
    go_enter Try.func39, Try.ntmps39
    go_wp2
    go_ret
    exact ⟨ret_int E.out.symm, World.grownBy.refl w none⟩

end Go.Proofs.Ytppcncblmakekaa
