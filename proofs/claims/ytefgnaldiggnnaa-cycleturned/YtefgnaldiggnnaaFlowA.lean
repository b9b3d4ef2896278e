/-
  Gains of vertices, the room of an arc: the program's and the reference's.
-/
import Derived.Test.YtefgnaldiggnnaaWithinB
import Derived.Test.YtefgnaldiggnnaaJC
set_option maxRecDepth 20000
namespace Go.Proofs.Ytefgnaldiggnnaa
open Go.RowKit

def GnRel (w : World) (V : Int) (A : Option Addr) (n c : Nat) (L : List Lk) (f : List Int) (v : Int) (a i : Value) (wr : World) : Prop :=
  ∃ k : Nat, k ≤ n ∧ a = .int .i64 (gk L f v k) ∧ i = .int .i64 (k : Nat) ∧ w.grownBy wr none ∧ Own wr w.heap.size 24 [.int .i64 V, .slice A n c]

set_option maxHeartbeats 1000000 in
theorem RGain_any (V : Int) (A : Option Addr) (n c : Nat) (L : List Lk) (Y : Option Addr) (m e0 : Nat) (f : List Int) (v : Int) (w : World) {B B' : Nat} (h : Lks w B A n L) (hy : Row w B' Y m f) (hmay : mayG V L = true) (hcap : capsB L f = true) :
    Calls Try.prog 19 #[.agg #[.int .i64 V, .slice A n c], .slice Y m e0, .int .i64 v] w (Says w (.int .i64 (gainOf L f v))) := by
  have hn := h.small
  have HL := Lib.hid h.len
  have HR := Lib.hid h
  have HY := Lib.hid hy
  have hmn : n = m := by have := (capsB_parts hcap).1; have := h.len; have := hy.len; omega
  subst hmn
  have HB := Lib.hid (fun (k : Nat) (hk : k < n) => gain_room v hmay hcap (k := k) (by rw [HL.out]; exact hk))
  have HJ := Lib.hid (fun (k : Nat) (hk : k < n) => may_joins hmay (i := k) (by rw [HL.out]; exact hk))
  clear h hy hmay hcap
  have HS : Hid (GnRel w V A n c L f v (.int .i64 0) (.int .i64 0) (w.alloc (.cells #[.int .i64 V, .slice A n c] 24))) := ⟨0, Nat.zero_le _, rfl, rfl, grow0 _ _, Own.new w 24 [.int .i64 V, .slice A n c]⟩
  go_enter Try.func19, Try.ntmps19
  go_wp2
  go_loopw [7, 8] (fun a i wr => GnRel w V A n c L f v a i wr) (fun _ i _ => n - (intOf i).toNat)
  case atStart => exact HS.out
  case round =>
    clear HS
    obtain ⟨k, hk, rfl, rfl, hg, ob⟩ := hrel
    have G := Lib.hid hg
    obtain ⟨c0, c1⟩ := ob.two
    have O := Lib.hid ob
    by_cases hlt : k < n
    · obtain ⟨b, off, hA, hb, hcell⟩ := HR.out.cells (by omega)
      subst hA
      obtain ⟨d0, d1, d2⟩ := hcell k hlt
      have d0 := kept hg d0
      have d1 := kept hg d1
      obtain ⟨b2, off2, hA2, hb2, hcell2⟩ := HY.out.at_ (by omega)
      subst hA2
      have e0 := kept hg (hcell2 k hlt)
      have hbd := HB.out k hlt
      have HNE := Lib.hid (HJ.out k hlt).2.2.2.2
      have HO := Lib.hid (gk_out (L := L) (f := f) (v := v) (k := k))
      have HI := Lib.hid (gk_in (L := L) (f := f) (v := v) (k := k))
      have HN := Lib.hid (gk_none (L := L) (f := f) (v := v) (k := k))
      clear hcell hcell2 hg ob d2
      generalize hgk : gk L f v k = a at *
      generalize hgk1 : gk L f v (k + 1) = a1 at *
      generalize f[k]?.getD 0 = x at *
      generalize at3 L k = l at *
      obtain ⟨p, t, cp⟩ := l
      simp only at d0 d1
      have hw : IntKind.i64.wrap (a + x) = a + x := IntWalk.i64_in _ (by omega)
      have hw2 : IntKind.i64.wrap (a - x) = a - x := IntWalk.i64_in _ (by omega)
      have HG1 := Lib.hid hgk1
      clear hgk hgk1 hbd
      by_cases hp : p = v
      · have hnt : ¬ t = v := fun e => HNE.out (by rw [hp, e])
        have E := Lib.hid (HO.out hp hnt)
        clear HO HI HN HNE
        subst hp
        have q1 : (p == p) = true := by simp
        have q2 : (t == p) = false := by simp [hnt]
        clear hnt
        go_wp2
        go_roundw
        case rel => exact ⟨k + 1, by omega, by rw [HG1.out, E.out], by go_num, G.out, O.out⟩
        case measure => simp [intOf]; omega
      · by_cases ht : t = v
        · have E := Lib.hid (HI.out hp ht)
          clear HO HI HN HNE
          subst ht
          have q1 : (p == t) = false := by simp [hp]
          have q2 : (t == t) = true := by simp
          clear hp
          go_wp2
          go_roundw
          case rel => exact ⟨k + 1, by omega, by rw [HG1.out, E.out], by go_num, G.out, O.out⟩
          case measure => simp [intOf]; omega
        · have E := Lib.hid (HN.out hp ht)
          have q1 : (p == v) = false := by simp [hp]
          have q2 : (t == v) = false := by simp [ht]
          clear HO HI HN HNE hp ht
          go_wp2
          go_roundw
          case rel => exact ⟨k + 1, by omega, by rw [HG1.out, E.out], by go_num, G.out, O.out⟩
          case measure => simp [intOf]; omega
    · obtain rfl : k = n := by omega
      have E : Hid (gainOf L f v = gk L f v k) := by rw [Hid, gainOf, HL.out]
      clear hg ob
      generalize gk L f v k = a at *
      go_wp2
      go_ret
      exact ⟨ret_int E.out.symm, G.out⟩

theorem room_even {caps f : List Int} {a : Int} {i : Nat} (hi : (a / 2).toNat = i) (h : a % 2 = 0) : roomI caps f a = caps[i]?.getD 0 - f[i]?.getD 0 := by simp [roomI, hi, h]
theorem room_odd {caps f : List Int} {a : Int} {i : Nat} (hi : (a / 2).toNat = i) (h : a % 2 = 1) : roomI caps f a = f[i]?.getD 0 := by simp [roomI, hi, h]

end Go.Proofs.Ytefgnaldiggnnaa
