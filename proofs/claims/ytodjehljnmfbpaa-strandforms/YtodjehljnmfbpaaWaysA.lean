/-
  The reference's Ways and Cyclic, walked: they answer just whether there is a way, a cycle.
-/
import Derived.Test.YtodjehljnmfbpaaJB
import Derived.Test.YtodjehljnmfbpaaLevelG
import Derived.Test.YtodjehljnmfbpaaBools
import Derived.Test.YtodjehljnmfbpaaSideB
set_option maxRecDepth 20000
namespace Go.Proofs.Ytodjehljnmfbpaa
open Go.RowKit

/-- Answers a Boolean that is true just if p holds; nothing that was there turned. -/
def Tells (w : World) (p : Prop) (e : Ending) (w' : World) : Prop := ∃ z, e = .returned (.bool z) ∧ (z = true ↔ p) ∧ w.grownBy w' none

structure SeenM (w : World) (vn : Nat) (A : Option Addr) (n c : Nat) (gb : Nat) (bs : List Bool) (gs : Nat) (S : List Bool) (wr : World) : Prop where
  g : w.grownBy wr none
  ob : Own wr w.heap.size 24 [.int .i64 (vn : Nat), .slice A n c]
  bb : Own wr gb 4 (bools bs)
  os : Own wr gs 4 (bools S)

theorem SeenM.grown {w : World} {vn : Nat} {A : Option Addr} {n c : Nat} {gb : Nat} {bs : List Bool} {gs : Nat} {S : List Bool} {wr w' : World} (h : SeenM w vn A n c gb bs gs S wr) (k : wr.grownBy w' none) : SeenM w vn A n c gb bs gs S w' :=
  ⟨grown_trans h.g k, h.ob.kept k, h.bb.kept k, h.os.kept k⟩

theorem SeenM.put {w : World} {vn : Nat} {A : Option Addr} {n c : Nat} {gb : Nat} {bs : List Bool} {gs : Nat} {S : List Bool} {wr : World} (h : SeenM w vn A n c gb bs gs S wr) (h1 : w.heap.size < gs) (h2 : gb < w.heap.size) (v : Nat) : SeenM w vn A n c gb bs gs (S.set v true) (wr.setCell ⟨gs, v, none⟩ (.bool true)) := by
  refine ⟨grown_new h.g (by omega) _, h.ob.setOther (by omega) _, h.bb.setOther (by omega) _, ?_⟩
  have := h.os.put (i := v) (.bool true)
  rw [bools_set] at this
  exact this

def OutRel (w : World) (vn : Nat) (A : Option Addr) (n c : Nat) (ls : List Lk) (gb : Nat) (bs : List Bool) (gs : Nat) (s : Int) (i : Value) (wr : World) : Prop :=
  ∃ (k : Nat) (S : List Bool), k ≤ vn ∧ i = .int .i64 (k : Nat) ∧ SeenM w vn A n c gb bs gs S wr ∧ OutI ls bs (2 * n) vn s k S

def InnRel (w : World) (vn : Nat) (A : Option Addr) (n c : Nat) (ls : List Lk) (gb : Nat) (bs : List Bool) (gs : Nat) (s : Int) (S0 : List Bool) (i : Value) (wr : World) : Prop :=
  ∃ (a : Nat) (T : List Bool), a ≤ 2 * n ∧ i = .int .i64 (a : Nat) ∧ SeenM w vn A n c gb bs gs T wr ∧ InnI ls bs (2 * n) vn s S0 a T

set_option maxHeartbeats 2000000 in
theorem RWaysB_any (vn : Nat) (A : Option Addr) (n c : Nat) (ls : List Lk) (gb cb : Nat) (bs : List Bool) (s t : Nat) (w : World) {B : Nat} (h : Lks w B A n ls) (hB : B ≤ w.heap.size) (hb : Own w gb 4 (bools bs)) (hl : bs.length = 2 * n) (hm : mayG (vn : Nat) ls = true) (hs : s < vn) (ht : t < vn) :
    Calls Try.prog 34 #[.agg #[.int .i64 (vn : Nat), .slice A n c], .slice (some ⟨gb, 0, none⟩) (2 * n) cb, .int .i64 (s : Nat), .int .i64 (t : Nat)] w (Tells w (Way ls (lets bs) (2 * n) (s : Int) (t : Int))) := by
  have HL := Lib.hid h.len
  have h16 := may_small hm
  rw [HL.out] at h16
  have HMAY := Lib.hid hm
  have HR := Lib.hid h
  have HBS := Lib.hid hl
  have hgb := hb.lt
  obtain ⟨i0, hi, hz0, hz1, hz2⟩ := info_parts info4
  have HI := Lib.hid hi
  have HZ0 := Lib.hid hz0
  have HZ1 := Lib.hid hz1
  have HZ2 := Lib.hid hz2
  have OB := Lib.hid (Own.new w 24 [.int .i64 (vn : Nat), .slice A n c])
  have BB := Lib.hid (hb.kept (grow0 w (.cells #[.int .i64 (vn : Nat), .slice A n c] 24)))
  have G := Lib.hid (grow0 w (.cells #[.int .i64 (vn : Nat), .slice A n c] 24))
  have hs0 : (w.alloc (.cells #[.int .i64 (vn : Nat), .slice A n c] 24)).heap.size = w.heap.size + 1 := by simp
  have SF := Lib.hid (saw_first (ls := ls) (bs := bs) (m := 2 * n) hs)
  clear hi hz0 hz1 hz2 h hm hb hl
  go_enter Try.func34, Try.ntmps34
  go_upto_region 1 with fail
  generalize w.alloc (.cells #[.int .i64 (vn : Nat), .slice A n c] 24) = w0 at *
  obtain ⟨p0, p1⟩ := OB.out.two
  go_wp2_with (first | (refine wpList_make_full _ rfl _ _ 58 rfl w0.heap.size 4 i0 (.bool false) 1 Try.underlying58 HI.out HZ0.out HZ1.out .i64 .i64 (vn : Int) (vn : Int) vn rfl rfl rfl rfl (by rw [HZ2.out]; omega) (by unfold maxLen; omega) (Nat.le_refl _) ?_))
  intro w4 hmk k4
  rw [toList_madeCells_one, rep_bools] at hmk
  have os := Own.of_made hmk
  have SE : Hid (SeenM w vn A n c gb bs (w.heap.size + 1) (List.replicate vn false) w4) := ⟨grown_trans G.out k4, OB.out.kept k4, BB.out.kept k4, os⟩
  have c0 := os.cell s
  rw [bools_at (by simpa using hs)] at c0
  have f0 := os.frozen s
  have hsz := os.lt
  clear hmk k4 os G OB BB p0 p1 HI HZ0 HZ1 HZ2
  have SE2 := Lib.hid (SE.out.put (by omega) hgb s)
  go_upto_region 3 with fail
  clear c0 f0 SE
  generalize hS0 : (List.replicate vn false).set s true = S0 at *
  have hsz2 : w.heap.size + 1 < (w4.setCell ⟨w.heap.size + 1, s, none⟩ (.bool true)).heap.size := by simpa [World.setCell] using hsz
  generalize w4.setCell ⟨w.heap.size + 1, s, none⟩ (.bool true) = w5 at *
  clear hsz hS0
  have HS : Hid (OutRel w vn A n c ls gb bs (w.heap.size + 1) (s : Int) (.int .i64 0) w5) := ⟨0, S0, Nat.zero_le _, rfl, SE2.out, SF.out⟩
  have hgs : Hid (w.heap.size < w.heap.size + 1) := Nat.lt_succ_self _
  generalize w.heap.size + 1 = gs at *
  clear SE2 hsz2 hs0 SF
  have hw2 : IntKind.i64.wrap (2 * (n : Int)) = 2 * (n : Int) := IntWalk.i64_in _ (by omega)
  go_wp2
  go_loopw [10] (fun i wr => OutRel w vn A n c ls gb bs gs (s : Int) i wr) (fun i _ => vn - (intOf i).toNat)
  case atStart => exact HS.out
  case round =>
    clear HS
    obtain ⟨k, S, hk, rfl, se, oi⟩ := hrel
    obtain ⟨p0, p1⟩ := se.ob.two
    have SE := Lib.hid se
    have OI := Lib.hid oi
    clear se oi
    by_cases hlt : k < vn
    · have HS : Hid (InnRel w vn A n c ls gb bs gs (s : Int) S (.int .i64 0) wr) := ⟨0, S, Nat.zero_le _, rfl, SE.out, inn_first OI.out⟩
      clear SE
      go_wp2
      go_loopw [11] (fun i wi => InnRel w vn A n c ls gb bs gs (s : Int) S i wi) (fun i _ => 2 * n - (intOf i).toNat)
      case atStart => exact HS.out
      case round =>
        clear HS p0 p1
        obtain ⟨a, T, ha, rfl, se, ii⟩ := hrel
        obtain ⟨p0, p1⟩ := se.ob.two
        have SE := Lib.hid se
        have II := Lib.hid ii
        have GW := Lib.hid se.g
        have hsz := se.os.lt
        have TL := Lib.hid ii.1.len
        clear se ii
        by_cases hal : a < 2 * n
        · have hti : inV vn (tailOf ls a) := tail_bd HMAY.out (a := a) (by have := HL.out; omega)
          have hhi : inV vn (headOf ls a) := head_bd HMAY.out (a := a) (by have := HL.out; omega)
          have TA := Lib.hid (fun (wx : World) (gx : w.grownBy wx none) => RTail_any (vn : Nat) A n c ls a wx (HR.out.grown hB gx) hal)
          have HA := Lib.hid (fun (wx : World) (gx : w.grownBy wx none) => RHead_any (vn : Nat) A n c ls a wx (HR.out.grown hB gx) hal)
          have SK := Lib.hid (inn_skip II.out)
          have PU := Lib.hid (fun l t => inn_put II.out hal l t hti hhi)
          obtain ⟨tl, htl⟩ : ∃ tl : Nat, tailOf ls a = (tl : Nat) := ⟨(tailOf ls a).toNat, by have := hti.1; omega⟩
          obtain ⟨hd, hhd⟩ : ∃ hd : Nat, headOf ls a = (hd : Nat) := ⟨(headOf ls a).toNat, by have := hhi.1; omega⟩
          rw [htl] at TA hti SK PU
          rw [hhd] at HA hhi PU
          simp only [sawB, Int.toNat_natCast] at SK PU
          have htn : tl < vn := by have := hti.2; omega
          have hhn : hd < vn := by have := hhi.2; omega
          have b0 := SE.out.bb.cell a
          rw [bools_at (by rw [HBS.out]; exact hal)] at b0
          have LE : Hid (lets bs a = (bs[a]?.getD false = true)) := rfl
          clear htl hhd hti hhi II
          generalize bs[a]?.getD false = x at *
          cases x with
          | false =>
            have SK2 := Lib.hid (SK.out (fun q => by have := q.1; rw [LE.out] at this; cases this))
            clear SK PU
            go_wp2
            go_roundw
            case rel => exact ⟨a + 1, T, by omega, by go_num, SE.out, SK2.out⟩
            case measure => simp [intOf]; omega
          | true =>
            go_wp2_with fail
            refine (TA.out _ GW.out).mono ?_
            rintro e w6 ⟨rfl, g6⟩
            have SE := Lib.hid (SE.out.grown g6)
            have GW := Lib.hid (grown_trans GW.out g6)
            have hsz := SE.out.os.lt
            clear g6 p0 p1 b0
            obtain ⟨p0, p1⟩ := SE.out.ob.two
            have t0 := SE.out.os.cell tl
            rw [bools_at (by rw [TL.out]; exact htn)] at t0
            generalize T[tl]?.getD false = y at *
            cases y with
            | false =>
              have SK2 := Lib.hid (SK.out (fun q => by have := q.2; cases this))
              clear SK PU
              go_wp2
              go_roundw
              case rel => exact ⟨a + 1, T, by omega, by go_num, SE.out, SK2.out⟩
              case measure => simp [intOf]; omega
            | true =>
              have PU2 := Lib.hid (PU.out (by rw [LE.out]; trivial) rfl)
              clear SK PU
              go_wp2_with fail
              refine (HA.out _ GW.out).mono ?_
              rintro e w7 ⟨rfl, g7⟩
              have SE := Lib.hid (SE.out.grown g7)
              have hsz := SE.out.os.lt
              clear g7 p0 p1 t0
              have t1 := SE.out.os.cell hd
              rw [bools_at (by rw [TL.out]; exact hhn)] at t1
              have f1 := SE.out.os.frozen hd
              have SE2 := Lib.hid (SE.out.put hgs.out hgb hd)
              go_wp2
              go_roundw
              case rel => exact ⟨a + 1, _, by omega, by go_num, SE2.out, PU2.out⟩
              case measure => simp [intOf]; omega
        · obtain rfl : a = 2 * n := by omega
          have ON := Lib.hid (out_next OI.out II.out)
          go_wp2
          go_roundw
          case rel => exact ⟨k + 1, T, by omega, by go_num, SE.out, ON.out⟩
          case measure => simp [intOf]; omega
    · obtain rfl : k = vn := by omega
      have t0 := SE.out.os.cell t
      rw [bools_at (by rw [OI.out.1.len]; exact ht)] at t0
      have WY := Lib.hid (out_end OI.out ht)
      generalize S[t]?.getD false = y at *
      go_wp2
      go_ret
      exact ⟨y, rfl, WY.out, SE.out.g⟩

end Go.Proofs.Ytodjehljnmfbpaa
