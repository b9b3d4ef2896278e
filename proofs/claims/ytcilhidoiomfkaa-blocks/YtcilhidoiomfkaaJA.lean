/-
  Rows of Booleans of the call's own; the reference's Room where it is told. The reference's Ways; the law's steps.
-/
import Derived.Test.YtcilhidoiomfkaaFlowB
import Derived.Test.YtcilhidoiomfkaaOwnC
import Derived.Test.YtcilhidoiomfkaaMathPush
import Derived.Test.YtcilhidoiomfkaaLevelG
import Derived.Test.YtcilhidoiomfkaaSideB

namespace Go.Proofs.Ytcilhidoiomfkaa
open Go.RowKit

theorem room_nonneg {caps f : List Int} (h : ratesB caps f = true) {a : Nat} (ha : a < 2 * caps.length) : 0 ≤ roomI caps f (a : Int) := by
  obtain ⟨h1, h2⟩ := ratesB_parts h
  have := h2 (a / 2) (by omega)
  unfold capI at this
  rcases Nat.mod_two_eq_zero_or_one a with e | e
  · rw [room_even (i := a / 2) (by omega) (by omega)]
    omega
  · rw [room_odd (i := a / 2) (by omega) (by omega)]
    omega

theorem RRoom_yes (vn : Nat) (a : Int) (A : Option Addr) (n c : Nat) (L : List Lk) (X : Option Addr) (p d : Nat) (caps : List Int) (Y : Option Addr) (q e0 : Nat) (f : List Int) (w : World) {B B' B'' : Nat} (h : Lks w B A n L) (hB : B ≤ w.heap.size) (hx : Row w B' X p caps) (hB' : B' ≤ w.heap.size) (hy : Row w B'' Y q f) (hB'' : B'' ≤ w.heap.size) (hf : fitsF (vn : Nat) L caps f = true) (ha : 0 ≤ a ∧ a < (2 * n : Nat)) :
    Calls Try.prog 15 #[.agg #[.int .i64 (vn : Nat), .slice A n c], .slice X p d, .slice Y q e0, .int .i64 a] w (Says w (.tuple #[.int .i64 (roomI caps f a), .int .i64 0])) := by
  have hc := RRoom_any (vn : Nat) a A n c L X p d caps Y q e0 f w h hB hx hB' hy hB''
  have hb : roomB (vn : Nat) L caps f a = true := by
    rw [roomB, hf, h.len, Bool.true_and]
    exact isV_yes ha.1 (by omega)
  rw [roomV, (room_yes hb).1, (room_yes hb).2] at hc
  exact hc

def bools (bs : List Bool) : List Value := bs.map Value.bool

theorem bools_set (bs : List Bool) (i : Nat) (b : Bool) : (bools bs).set i (.bool b) = bools (bs.set i b) := by simp [bools, List.map_set]

theorem bools_at {bs : List Bool} {i : Nat} (h : i < bs.length) : (bools bs)[i]? = some (.bool (bs[i]?.getD false)) := by simp [bools, h]

theorem info4 : (Try.prog.info? 4).map (fun i => (i.zero, i.size, i.bytes)) = some (some (.bool false), 1, 1) := by kernel_rfl

theorem held2L {w w1 : World} {k : Nat} {x0 x1 : Value} (g : w.grownBy w1 none) (h : (fun w' : World => w'.cell? ⟨k, 0, none⟩ = some x0 ∧ w'.cell? ⟨k, 1, none⟩ = some x1) w) :
    (fun w' : World => w'.cell? ⟨k, 0, none⟩ = some x0 ∧ w'.cell? ⟨k, 1, none⟩ = some x1) w1 := ⟨kept g h.1, kept g h.2⟩

theorem rep_bools (n : Nat) : List.replicate n (Value.bool false) = bools (List.replicate n false) := by simp [bools]

end Go.Proofs.Ytcilhidoiomfkaa

namespace Go.Proofs.Ytcilhidoiomfkaa
open Go.RowKit

def WaysPost (w : World) (p : Prop) (e : Ending) (w' : World) : Prop := ∃ z, e = .returned (.bool z) ∧ (z = true → p) ∧ w.grownBy w' none

def lets (bs : List Bool) (a : Nat) : Prop := bs[a]?.getD false = true

structure Seen (w : World) (vn : Nat) (A : Option Addr) (n c : Nat) (ls : List Lk) (gb : Nat) (bs : List Bool) (gs : Nat) (s : Int) (S : List Bool) (wr : World) : Prop where
  g : w.grownBy wr none
  ob : Own wr w.heap.size 24 [.int .i64 (vn : Nat), .slice A n c]
  bb : Own wr gb 4 (bools bs)
  os : Own wr gs 4 (bools S)
  sl : S.length = vn
  way : ∀ v : Nat, v < vn → S[v]?.getD false = true → Way ls (lets bs) (2 * n) s (v : Int)

theorem Seen.grown {w : World} {vn : Nat} {A : Option Addr} {n c : Nat} {ls : List Lk} {gb : Nat} {bs : List Bool} {gs : Nat} {s : Int} {S : List Bool} {wr w' : World} (h : Seen w vn A n c ls gb bs gs s S wr) (k : wr.grownBy w' none) : Seen w vn A n c ls gb bs gs s S w' :=
  ⟨grown_trans h.g k, h.ob.kept k, h.bb.kept k, h.os.kept k, h.sl, h.way⟩

theorem Seen.put {w : World} {vn : Nat} {A : Option Addr} {n c : Nat} {ls : List Lk} {gb : Nat} {bs : List Bool} {gs : Nat} {s : Int} {S : List Bool} {wr : World} (h : Seen w vn A n c ls gb bs gs s S wr) (h1 : w.heap.size < gs) (h2 : gb < w.heap.size) {v : Nat} (hv : v < vn) (k : Way ls (lets bs) (2 * n) s (v : Int)) : Seen w vn A n c ls gb bs gs s (S.set v true) (wr.setCell ⟨gs, v, none⟩ (.bool true)) := by
  refine ⟨grown_new h.g (by omega) _, h.ob.setOther (by omega) _, h.bb.setOther (by omega) _, ?_, by simp [h.sl], fun u hu hs => ?_⟩
  · have := h.os.put (i := v) (.bool true)
    rw [bools_set] at this
    exact this
  · by_cases e : u = v
    · subst e; exact k
    · rw [List.getElem?_set_ne (by omega)] at hs
      exact h.way u hu hs

def SeenRel (w : World) (vn m : Nat) (A : Option Addr) (n c : Nat) (ls : List Lk) (gb : Nat) (bs : List Bool) (gs : Nat) (s : Int) (i : Value) (wr : World) : Prop :=
  ∃ (k : Nat) (S : List Bool), k ≤ m ∧ i = .int .i64 (k : Nat) ∧ Seen w vn A n c ls gb bs gs s S wr

set_option maxRecDepth 20000 in
set_option maxHeartbeats 2000000 in
theorem RWays_any (vn : Nat) (A : Option Addr) (n c : Nat) (ls : List Lk) (gb cb : Nat) (bs : List Bool) (s t : Nat) (w : World) {B : Nat} (h : Lks w B A n ls) (hB : B ≤ w.heap.size) (hb : Own w gb 4 (bools bs)) (hl : bs.length = 2 * n) (hm : mayG (vn : Nat) ls = true) (hs : s < vn) (ht : t < vn) :
    Calls Try.prog 16 #[.agg #[.int .i64 (vn : Nat), .slice A n c], .slice (some ⟨gb, 0, none⟩) (2 * n) cb, .int .i64 (s : Nat), .int .i64 (t : Nat)] w (WaysPost w (Way ls (lets bs) (2 * n) (s : Int) (t : Int))) := by
  have HL := Lib.hid h.len
  have h16 := may_small hm
  rw [HL.out] at h16
  have HMAY := Lib.hid hm
  have HR := Lib.hid h
  have HBS := Lib.hid hl
  have hgb := hb.lt
  obtain ⟨i0, hi, hz0, hz1, hz2⟩ := info_parts info4
  have HI := Lib.hid hi
  have HZ0 := Lib.hid hz0
  have HZ1 := Lib.hid hz1
  have HZ2 := Lib.hid hz2
  have OB := Lib.hid (Own.new w 24 [.int .i64 (vn : Nat), .slice A n c])
  have BB := Lib.hid (hb.kept (grow0 w (.cells #[.int .i64 (vn : Nat), .slice A n c] 24)))
  have G := Lib.hid (grow0 w (.cells #[.int .i64 (vn : Nat), .slice A n c] 24))
  have hs0 : (w.alloc (.cells #[.int .i64 (vn : Nat), .slice A n c] 24)).heap.size = w.heap.size + 1 := by simp
  clear hi hz0 hz1 hz2 h hm hb hl
  go_enter Try.func16, Try.ntmps16
  go_upto_region 1 with fail
  generalize w.alloc (.cells #[.int .i64 (vn : Nat), .slice A n c] 24) = w0 at *
  obtain ⟨p0, p1⟩ := OB.out.two
  go_wp2_with (first | (refine wpList_make_full _ rfl _ _ 34 rfl w0.heap.size 4 i0 (.bool false) 1 Try.underlying34 HI.out HZ0.out HZ1.out .i64 .i64 (vn : Int) (vn : Int) vn rfl rfl rfl rfl (by rw [HZ2.out]; omega) (by unfold maxLen; omega) (Nat.le_refl _) ?_))
  intro w4 hmk k4
  rw [toList_madeCells_one, rep_bools] at hmk
  have os := Own.of_made hmk
  have SE : Hid (Seen w vn A n c ls gb bs (w.heap.size + 1) (s : Int) (List.replicate vn false) w4) := ⟨grown_trans G.out k4, OB.out.kept k4, BB.out.kept k4, os, by simp, fun v hv e => by rw [List.getElem?_replicate, if_pos hv] at e; cases e⟩
  have c0 := os.cell s
  rw [bools_at (by simpa using hs)] at c0
  have f0 := os.frozen s
  have hsz := os.lt
  clear hmk k4 os G OB BB p0 p1 HI HZ0 HZ1 HZ2
  have SE2 := Lib.hid (SE.out.put (by omega) hgb hs .here)
  go_upto_region 3 with fail
  clear c0 f0 SE
  generalize hS0 : (List.replicate vn false).set s true = S0 at *
  have hsz2 : w.heap.size + 1 < (w4.setCell ⟨w.heap.size + 1, s, none⟩ (.bool true)).heap.size := by simpa [World.setCell] using hsz
  generalize w4.setCell ⟨w.heap.size + 1, s, none⟩ (.bool true) = w5 at *
  clear hsz hS0
  have HS : Hid (SeenRel w vn vn A n c ls gb bs (w.heap.size + 1) (s : Int) (.int .i64 0) w5) := ⟨0, S0, Nat.zero_le _, rfl, SE2.out⟩
  have hgs : Hid (w.heap.size < w.heap.size + 1) := Nat.lt_succ_self _
  generalize w.heap.size + 1 = gs at *
  clear SE2 hsz2 hs0
  have hw2 : IntKind.i64.wrap (2 * (n : Int)) = 2 * (n : Int) := IntWalk.i64_in _ (by omega)
  go_wp2
  go_loopw [10] (fun i wr => SeenRel w vn vn A n c ls gb bs gs (s : Int) i wr) (fun i _ => vn - (intOf i).toNat)
  case atStart => exact HS.out
  case round =>
    clear HS
    obtain ⟨k, S, hk, rfl, se⟩ := hrel
    obtain ⟨p0, p1⟩ := se.ob.two
    have SE := Lib.hid se
    clear se
    by_cases hlt : k < vn
    · have HS : Hid (SeenRel w vn (2 * n) A n c ls gb bs gs (s : Int) (.int .i64 0) wr) := ⟨0, S, Nat.zero_le _, rfl, SE.out⟩
      clear SE
      go_wp2
      go_loopw [11] (fun i wi => SeenRel w vn (2 * n) A n c ls gb bs gs (s : Int) i wi) (fun i _ => 2 * n - (intOf i).toNat)
      case atStart => exact HS.out
      case round =>
        clear HS p0 p1
        obtain ⟨a, T, ha, rfl, se⟩ := hrel
        obtain ⟨p0, p1⟩ := se.ob.two
        have SE := Lib.hid se
        have GW := Lib.hid se.g
        have hsz := se.os.lt
        clear se
        by_cases hal : a < 2 * n
        · have hti : inV vn (tailOf ls a) := tail_bd HMAY.out (a := a) (by have := HL.out; omega)
          have hhi : inV vn (headOf ls a) := head_bd HMAY.out (a := a) (by have := HL.out; omega)
          have TA := Lib.hid (fun (wx : World) (gx : w.grownBy wx none) => RTail_any (vn : Nat) A n c ls a wx (HR.out.grown hB gx) hal)
          have HA := Lib.hid (fun (wx : World) (gx : w.grownBy wx none) => RHead_any (vn : Nat) A n c ls a wx (HR.out.grown hB gx) hal)
          have ON := Lib.hid (fun (k1 : lets bs a) (k2 : Way ls (lets bs) (2 * n) (s : Int) (tailOf ls a)) => Way.on a hal k1 k2)
          obtain ⟨tl, htl⟩ : ∃ tl : Nat, tailOf ls a = (tl : Nat) := ⟨(tailOf ls a).toNat, by have := hti.1; omega⟩
          obtain ⟨hd, hhd⟩ : ∃ hd : Nat, headOf ls a = (hd : Nat) := ⟨(headOf ls a).toNat, by have := hhi.1; omega⟩
          rw [htl] at TA hti ON
          rw [hhd] at HA hhi ON
          have htn : tl < vn := by have := hti.2; omega
          have hhn : hd < vn := by have := hhi.2; omega
          have b0 := SE.out.bb.cell a
          rw [bools_at (by rw [HBS.out]; exact hal)] at b0
          have LE : Hid (lets bs a = (bs[a]?.getD false = true)) := rfl
          clear htl hhd hti hhi
          generalize bs[a]?.getD false = x at *
          cases x with
          | false =>
            go_wp2
            go_roundw
            case rel => exact ⟨a + 1, T, by omega, by go_num, SE.out⟩
            case measure => simp [intOf]; omega
          | true =>
            go_wp2_with fail
            refine (TA.out _ GW.out).mono ?_
            rintro e w6 ⟨rfl, g6⟩
            have SE := Lib.hid (SE.out.grown g6)
            have GW := Lib.hid (grown_trans GW.out g6)
            have hsz := SE.out.os.lt
            clear g6 p0 p1 b0
            obtain ⟨p0, p1⟩ := SE.out.ob.two
            have t0 := SE.out.os.cell tl
            rw [bools_at (by rw [SE.out.sl]; exact htn)] at t0
            have WY := Lib.hid (SE.out.way tl htn)
            generalize T[tl]?.getD false = y at *
            cases y with
            | false =>
              go_wp2
              go_roundw
              case rel => exact ⟨a + 1, T, by omega, by go_num, SE.out⟩
              case measure => simp [intOf]; omega
            | true =>
              go_wp2_with fail
              refine (HA.out _ GW.out).mono ?_
              rintro e w7 ⟨rfl, g7⟩
              have SE := Lib.hid (SE.out.grown g7)
              have hsz := SE.out.os.lt
              clear g7 p0 p1 t0
              have t1 := SE.out.os.cell hd
              rw [bools_at (by rw [SE.out.sl]; exact hhn)] at t1
              have f1 := SE.out.os.frozen hd
              have SE2 := Lib.hid (SE.out.put hgs.out hgb hhn (ON.out (by rw [LE.out]; trivial) (WY.out (by first | trivial | rfl))))
              go_wp2
              go_roundw
              case rel => exact ⟨a + 1, _, by omega, by go_num, SE2.out⟩
              case measure => simp [intOf]; omega
        · obtain rfl : a = 2 * n := by omega
          go_wp2
          go_roundw
          case rel => exact ⟨k + 1, T, by omega, by go_num, SE.out⟩
          case measure => simp [intOf]; omega
    · obtain rfl : k = vn := by omega
      have t0 := SE.out.os.cell t
      rw [bools_at (by rw [SE.out.sl]; exact ht)] at t0
      have WY := Lib.hid (SE.out.way t ht)
      generalize S[t]?.getD false = y at *
      go_wp2
      go_ret
      exact ⟨y, rfl, WY.out, SE.out.g⟩

/-- Of each arc: does it step? -/
def stepsL (ls : List Lk) (caps f M : List Int) (m : Nat) : List Bool := (List.range m).map fun a => decide (StepsA ls caps f M a)

theorem stepsL_len (ls : List Lk) (caps f M : List Int) (m : Nat) : (stepsL ls caps f M m).length = m := by simp [stepsL]
theorem stepsL_at {ls : List Lk} {caps f M : List Int} {m a : Nat} (h : a < m) : (stepsL ls caps f M m)[a]?.getD false = decide (StepsA ls caps f M a) := by simp [stepsL, h]

def StepsPost (w : World) (m : Nat) (bs : List Bool) (e : Ending) (w' : World) : Prop := ∃ g, e = .returned (.slice (some ⟨g, 0, none⟩) m m) ∧ w.heap.size ≤ g ∧ Own w' g 4 (bools bs) ∧ w.grownBy w' none

def StepRel (w : World) (B gl vn : Nat) (A : Option Addr) (n c : Nat) (ls : List Lk) (caps f M : List Int) (Aa : Option Addr) (i : Value) (wr : World) : Prop :=
  ∃ (k : Nat) (bs : List Bool), k ≤ 2 * n ∧ i = .int .i64 (k : Nat) ∧ w.grownBy wr none ∧ Own wr w.heap.size 24 [.int .i64 (vn : Nat), .slice A n c] ∧ Row wr B Aa vn M ∧ B ≤ gl ∧ Own wr gl 4 (bools bs) ∧ bs.length = 2 * n ∧ ∀ a, a < k → bs[a]?.getD false = decide (StepsA ls caps f M a)

theorem step_next {ls : List Lk} {caps f M : List Int} {bs : List Bool} {k : Nat} (h : ∀ a, a < k → bs[a]?.getD false = decide (StepsA ls caps f M a)) (hk : k < bs.length) : ∀ a, a < k + 1 → (bs.set k (decide (StepsA ls caps f M k)))[a]?.getD false = decide (StepsA ls caps f M a) := by
  intro a ha
  by_cases e : a = k
  · subst e
    rw [List.getElem?_set_self hk]
    rfl
  · rw [List.getElem?_set_ne (by omega)]
    exact h a (by omega)

set_option maxRecDepth 20000 in
set_option maxHeartbeats 4000000 in
theorem RSteps_any (vn : Nat) (A : Option Addr) (n c : Nat) (ls : List Lk) (X : Option Addr) (p d : Nat) (caps : List Int) (Y : Option Addr) (r f0 : Nat) (f : List Int) (s : Int) (M : List Int) (w : World) {B B' B'' : Nat} (h : Lks w B A n ls) (hB : B ≤ w.heap.size) (hx : Row w B' X p caps) (hB' : B' ≤ w.heap.size) (hy : Row w B'' Y r f) (hB'' : B'' ≤ w.heap.size) (hf : fitsF (vn : Nat) ls caps f = true) (hs : isV (vn : Nat) s = true) (hM : IsLv vn (Leads ls caps f (2 * n)) s M) :
    Calls Try.prog 14 #[.agg #[.int .i64 (vn : Nat), .slice A n c], .slice X p d, .slice Y r f0, .int .i64 s] w (StepsPost w (2 * n) (stepsL ls caps f M (2 * n))) := by
  have HR := Lib.hid h
  have HL := Lib.hid h.len
  have HX := Lib.hid hx
  have HY := Lib.hid hy
  have HFIT := Lib.hid hf
  obtain ⟨f1, f2, f3, _⟩ := fits_parts hf
  have HMAY := Lib.hid f1
  have HRT := Lib.hid f3
  have HLC : Hid (caps.length = n) := (capsB_parts f2).1.trans HL.out
  have h16 := may_small f1
  rw [HL.out] at h16
  have HLV : Hid (LvIs (vn : Nat) ls caps f s M 0) := lev_yes (by rw [lvB, hf, hs]; rfl) HL.out hM
  have OKM := Lib.hid (lvIs_okI HLV.out).1
  have LV := Lib.hid hM
  have hlm := hM.len
  have HG0 := Lib.hid (grow0 w (.cells #[.int .i64 (vn : Nat), .slice A n c] 24))
  obtain ⟨i0, hi, hz0, hz1, hz2⟩ := info_parts info4
  have HI := Lib.hid hi
  have HZ0 := Lib.hid hz0
  have HZ1 := Lib.hid hz1
  have HZ2 := Lib.hid hz2
  clear hi hz0 hz1 hz2 h hx hy hf hs hM f1 f2 f3
  obtain ⟨m2, hm2⟩ : ∃ m2, 2 * n = m2 := ⟨_, rfl⟩
  have HM2 := Lib.hid hm2
  have hm32 : m2 ≤ 32 := by omega
  have hw2 : IntKind.i64.wrap (2 * (n : Int)) = (m2 : Int) := by rw [IntWalk.i64_in _ (by omega)]; omega
  clear hm2
  go_enter Try.func14, Try.ntmps14
  go_wp2_with fail
  refine (RLevels_any (vn : Nat) s A n c ls X p d caps Y r f0 f _ (HR.out.grown hB HG0.out) (by simp; omega) (HX.out.grown hB' HG0.out) (by simp; omega) (HY.out.grown hB'' HG0.out) (by simp; omega) M 0 HLV.out).mono ?_
  rintro e w2 ⟨va, rfl, ha, k⟩
  obtain ⟨g1, ob⟩ := box1 [.int .i64 (vn : Nat), .slice A n c] k
  obtain ⟨Aa, ca, rfl, _, hna, ra⟩ := ha.rowN OKM.out
  rw [hlm] at ra
  have RA := Lib.hid ra
  have G := Lib.hid g1
  have OB := Lib.hid ob
  obtain ⟨p0, p1⟩ := OB.out.two
  have l3 := OB.out.lt
  clear k ha ra ob g1 HG0
  go_wp2_with (first | (refine wpList_make_full _ rfl _ _ 34 rfl w2.heap.size 4 i0 (.bool false) 1 Try.underlying34 HI.out HZ0.out HZ1.out .i64 .i64 (m2 : Int) (m2 : Int) m2 rfl rfl rfl rfl (by rw [HZ2.out]; omega) (by unfold maxLen; omega) (Nat.le_refl _) ?_))
  intro w4 hmk k4
  rw [toList_madeCells_one, rep_bools] at hmk
  have HS : Hid (StepRel w w2.heap.size w2.heap.size vn A n c ls caps f M Aa (.int .i64 0) w4) :=
    ⟨0, List.replicate m2 false, Nat.zero_le _, rfl, grown_trans G.out k4, OB.out.kept k4, RA.out.grown (Nat.le_refl _) k4, Nat.le_refl _, Own.of_made hmk, by rw [List.length_replicate, HM2.out], fun a ha => by omega⟩
  have hl4 : w.heap.size < w2.heap.size := l3
  clear hmk k4 G OB RA p0 p1 HI HZ0 HZ1 HZ2 l3
  go_wp2
  go_loopw [12] (fun i wr => StepRel w w2.heap.size w2.heap.size vn A n c ls caps f M Aa i wr) (fun i _ => m2 - (intOf i).toNat)
  case atStart => exact HS.out
  case round =>
    clear HS
    obtain ⟨k, bs, hk, rfl, hgr, ob, ra, _, ol, hbl, hst⟩ := hrel
    rw [HM2.out] at hk hbl
    have GR := Lib.hid hgr
    have OB := Lib.hid ob
    have RA := Lib.hid ra
    have OL := Lib.hid ol
    have ST := Lib.hid hst
    have lo := ol.lt
    have hsz := hgr.size
    obtain ⟨p0, p1⟩ := ob.two
    clear hgr ob ra ol hst
    by_cases hlt : k < m2
    · have hlt2 : k < 2 * n := by rw [HM2.out]; exact hlt
      have hti : inV vn (tailOf ls k) := tail_bd HMAY.out (a := k) (by have := HL.out; omega)
      have hhi : inV vn (headOf ls k) := head_bd HMAY.out (a := k) (by have := HL.out; omega)
      have hrn := room_nonneg HRT.out (a := k) (by rw [HLC.out]; exact hlt2)
      have TA := Lib.hid (fun (wx : World) (gx : w.grownBy wx none) => RTail_any (vn : Nat) A n c ls k wx (HR.out.grown hB gx) hlt2)
      have HA := Lib.hid (fun (wx : World) (gx : w.grownBy wx none) => RHead_any (vn : Nat) A n c ls k wx (HR.out.grown hB gx) hlt2)
      have bt := LV.out.bd _ hti
      have bh := LV.out.bd _ hhi
      have STEP : Hid (StepsA ls caps f M k ↔ 0 < roomI caps f (k : Int) ∧ 0 ≤ lvAt M (tailOf ls k) ∧ lvAt M (headOf ls k) = lvAt M (tailOf ls k) + 1) := Iff.rfl
      have NX := Lib.hid (step_next ST.out (by omega))
      obtain ⟨tl, htl⟩ : ∃ tl : Nat, tailOf ls k = (tl : Nat) := ⟨(tailOf ls k).toNat, by have := hti.1; omega⟩
      obtain ⟨hd, hhd⟩ : ∃ hd : Nat, headOf ls k = (hd : Nat) := ⟨(headOf ls k).toNat, by have := hhi.1; omega⟩
      rw [htl] at TA bt hti STEP
      rw [hhd] at HA bh hhi STEP
      have htn : tl < vn := by have := hti.2; omega
      have hhn : hd < vn := by have := hhi.2; omega
      obtain ⟨ba, offa, hAa, hba, _⟩ := RA.out.at_ (by omega)
      have hbag : ¬ w2.heap.size = ba := by omega
      subst hAa
      have E1 : Hid (wr.cell? ⟨ba, offa + tl, none⟩ = some (.int .i64 (lvAt M (tl : Int)))) := by have := RA.out.cellAt htn; rw [show M[tl]?.getD 0 = lvAt M (tl : Int) by simp [lvAt]] at this; exact this
      have E2 : Hid (wr.cell? ⟨ba, offa + hd, none⟩ = some (.int .i64 (lvAt M (hd : Int)))) := by have := RA.out.cellAt hhn; rw [show M[hd]?.getD 0 = lvAt M (hd : Int) by simp [lvAt]] at this; exact this
      clear htl hhd ST
      generalize lvAt M (tl : Int) = lt at *
      generalize lvAt M (hd : Int) = lh at *
      go_wp2_with fail
      refine (RRoom_yes vn (k : Nat) A n c ls X p d caps Y r f0 f _ (HR.out.grown hB GR.out) (by omega) (HX.out.grown hB' GR.out) (by omega) (HY.out.grown hB'' GR.out) (by omega) HFIT.out (by omega)).mono ?_
      rintro e w5 ⟨rfl, g5⟩
      generalize roomI caps f (k : Int) = rm at *
      generalize hsd : decide (StepsA ls caps f M k) = sd at *
      have G5 := Lib.hid (grown_trans GR.out g5)
      have GW := Lib.hid g5
      have hS := OB.out.kept g5
      have HS := Lib.hid hS.two
      have GK := Lib.hid (World.grownBy.refl w5 none)
      have C1 : Hid (∀ wx : World, w5.grownBy wx none → Calls Try.prog 30 #[.agg #[.int .i64 (vn : Nat), .slice A n c], .int .i64 (k : Nat)] wx (Says wx (.int .i64 (tl : Nat)))) := fun wx g => TA.out wx (grown_trans G5.out g)
      have C2 : Hid (∀ wx : World, w5.grownBy wx none → Calls Try.prog 31 #[.agg #[.int .i64 (vn : Nat), .slice A n c], .int .i64 (k : Nat)] wx (Says wx (.int .i64 (hd : Nat)))) := fun wx g => HA.out wx (grown_trans G5.out g)
      have HSD : Hid ((decide (0 < rm) && decide (0 ≤ lt) && decide (lh = lt + 1)) = sd) := by
        rw [Hid, ← hsd]
        by_cases z : StepsA ls caps f M k
        · have := STEP.out.1 z
          simp [z, this]
        · rw [decide_eq_false z]
          cases hb : (decide (0 < rm) && decide (0 ≤ lt) && decide (lh = lt + 1))
          · rfl
          · simp only [Bool.and_eq_true, decide_eq_true_eq] at hb
            exact absurd (STEP.out.2 ⟨hb.1.1, hb.1.2, hb.2⟩) z
      clear g5 hS p0 p1 TA HA hsd STEP
      obtain ⟨p0, p1⟩ := HS.out
      go_upto_region 7 with fail
      go_region_held3 (fun w' : World => w'.cell? ⟨w.heap.size, 0, none⟩ = some (.int .i64 (vn : Nat)) ∧ w'.cell? ⟨w.heap.size, 1, none⟩ = some (.slice A n c))
        (exact HS.out)
        (first
          | (go_at_call 30; refine (C1.out _ (by first | exact GK.out | exact grown_drew GK.out | exact grown_drewN GK.out _)).mono ?_; rintro e w8 ⟨rfl, g⟩; have GK : Hid (w5.grownBy w8 none) := (by first | exact grown_trans GK.out g | exact grown_trans (grown_drew GK.out) g | exact grown_trans (grown_drewN GK.out _) g); have HS := Lib.hid (held2L g HS.out); clear g)
          | (go_at_call 31; refine (C2.out _ (by first | exact GK.out | exact grown_drew GK.out | exact grown_drewN GK.out _)).mono ?_; rintro e w8 ⟨rfl, g⟩; have GK : Hid (w5.grownBy w8 none) := (by first | exact grown_trans GK.out g | exact grown_trans (grown_drew GK.out) g | exact grown_trans (grown_drewN GK.out _) g); have HS := Lib.hid (held2L g HS.out); clear g))
      have KW := grown_trans GW.out GK.out
      have G8 := Lib.hid (grown_trans GR.out KW)
      have OB := Lib.hid (OB.out.kept KW)
      have RA := Lib.hid (RA.out.grown (by omega) KW)
      have OL := Lib.hid (OL.out.kept KW)
      have e1 := kept KW E1.out
      have e2 := kept KW E2.out
      have l8 := OL.out.lt
      clear KW GW GK HS C1 C2 G5 GR p0 p1 E1 E2
      have q3 := OL.out.cell k
      rw [bools_at (by omega)] at q3
      have f3 := OL.out.frozen k
      have P2 : Hid (Own (w8.setCell ⟨w2.heap.size, k, none⟩ (.bool sd)) w2.heap.size 4 (bools (bs.set k sd))) := by
        have := OL.out.put (i := k) (.bool sd)
        rw [bools_set] at this
        exact this
      have hwl : IntKind.i64.wrap (lt + 1) = lt + 1 := IntWalk.i64_in _ (by omega)
      have FIN : Hid (StepRel w w2.heap.size w2.heap.size vn A n c ls caps f M (some ⟨ba, offa, none⟩) (.int .i64 ((k + 1 : Nat) : Int)) (w8.setCell ⟨w2.heap.size, k, none⟩ (.bool sd)).drew) :=
        ⟨k + 1, bs.set k sd, by rw [HM2.out]; omega, rfl, grown_drew (grown_new G8.out (by omega) _), OB.out.setOther (by omega) _, (RA.out.grown' (by omega) (grown_set (World.grownBy.refl _ (some w2.heap.size)) _) (fun g hg => by injection hg with hg; omega)).drewN 1, Nat.le_refl _, P2.out, by rw [List.length_set, HM2.out]; exact hbl, NX.out⟩
      have ht0 : (0 : Int) ≤ (tl : Int) := by omega
      have hu0 : (0 : Int) ≤ (hd : Int) := by omega
      have ht1 : (tl : Int) < (vn : Int) := by omega
      have hu1 : (hd : Int) < (vn : Int) := by omega
      have hk0 : (0 : Int) ≤ (k : Int) := by omega
      have hk1 : (k : Int) < (m2 : Int) := by omega
      clear G8 OB RA OL P2 NX HR HX HY HFIT HMAY HLV OKM LV hB hB' hB'' hsz lo htn hhn hti hhi hlt2 hk hbl
      go_upto_region 8 with fail
      by_cases z0 : 0 < rm
      · by_cases z1 : 0 ≤ lt
        · by_cases z2 : lh = lt + 1
          · have z0b : decide (0 < rm) = true := decide_eq_true z0
            have z1b : decide (0 ≤ lt) = true := decide_eq_true z1
            have z2b : (lh == lt + 1) = true := by simp [z2]
            have hsd : sd = true := by rw [← HSD.out]; simp [z0, z1, z2]
            subst hsd
            clear HSD
            subst z2
            go_still_tail 24, (by kernel_rfl)
            go_wp2
            go_roundw
            case rel => exact FIN.out
            case measure => simp [intOf]; omega
          · have z0b : decide (0 < rm) = true := decide_eq_true z0
            have z1b : decide (0 ≤ lt) = true := decide_eq_true z1
            have z2b : (lh == lt + 1) = false := by simp [z2]
            have hsd : sd = false := by rw [← HSD.out]; simp [z0, z1, z2]
            subst hsd
            clear HSD
            go_still_tail 24, (by kernel_rfl)
            go_wp2
            go_roundw
            case rel => exact FIN.out
            case measure => simp [intOf]; omega
        · have z0b : decide (0 < rm) = true := decide_eq_true z0
          have hsd : sd = false := by rw [← HSD.out]; simp [z0, z1]
          subst hsd
          obtain rfl : lt = -1 := by omega
          clear HSD z1 hwl bt
          refine wp_region_held_drew (S := fun w' : World => w'.cell? ⟨ba, offa + tl, none⟩ = some (.int .i64 (-1)) ∧ w'.cell? ⟨ba, offa + hd, none⟩ = some (.int .i64 lh)) (by kernel_rfl) ⟨e1, e2⟩ (fun hHeld => ?_)
          refine takeH (i := 0) (d := 50) (v := .slice (some ⟨w2.heap.size, 0, none⟩) m2 m2) rfl rfl (by kernel_rfl) (by kernel_rfl) (by kernel_rfl) (fun _ _ _ h => h) (Or.inl ⟨by rfl, ?_⟩) (by assumption) ?_
          · intro w hSw; go_simp
          simp only [Act.put, List.setIfInBounds_toArray, List.set_cons_zero, List.set_cons_succ]
          refine takeH (i := 1) (d := 51) (v := .int .i64 (k : Nat)) rfl rfl (by kernel_rfl) (by kernel_rfl) (by kernel_rfl) (fun _ _ _ h => h) (Or.inl ⟨by rfl, ?_⟩) (by assumption) ?_
          · intro w hSw; go_simp
          simp only [Act.put, List.setIfInBounds_toArray, List.set_cons_zero, List.set_cons_succ]
          refine takeH (i := 2) (d := 52) (v := .int .i64 rm) rfl rfl (by kernel_rfl) (by kernel_rfl) (by kernel_rfl) (fun _ _ _ h => h) (Or.inl ⟨by rfl, ?_⟩) (by assumption) ?_
          · intro w hSw; go_simp
          simp only [Act.put, List.setIfInBounds_toArray, List.set_cons_zero, List.set_cons_succ]
          refine takeH (i := 3) (d := 53) (v := .bool true) rfl rfl (by kernel_rfl) (by kernel_rfl) (by kernel_rfl) (fun _ _ _ h => h) (Or.inl ⟨by rfl, ?_⟩) (by assumption) ?_
          · intro w hSw; go_simp
          simp only [Act.put, List.setIfInBounds_toArray, List.set_cons_zero, List.set_cons_succ]
          refine takeH (i := 4) (d := 54) (v := .bool true) rfl rfl (by kernel_rfl) (by kernel_rfl) (by kernel_rfl) (fun _ _ _ h => h) (Or.inl ⟨by rfl, ?_⟩) (by assumption) ?_
          · intro w hSw; go_simp
          simp only [Act.put, List.setIfInBounds_toArray, List.set_cons_zero, List.set_cons_succ]
          refine takeH (i := 5) (d := 55) (v := .slice (some ⟨ba, offa, none⟩) vn ca) rfl rfl (by kernel_rfl) (by kernel_rfl) (by kernel_rfl) (fun _ _ _ h => h) (Or.inl ⟨by rfl, ?_⟩) (by assumption) ?_
          · intro w hSw; go_simp
          simp only [Act.put, List.setIfInBounds_toArray, List.set_cons_zero, List.set_cons_succ]
          refine takeH (i := 6) (d := 56) (v := .int .i64 (tl : Nat)) rfl rfl (by kernel_rfl) (by kernel_rfl) (by kernel_rfl) (fun _ _ _ h => h) (Or.inl ⟨by rfl, ?_⟩) (by assumption) ?_
          · intro w hSw; go_simp
          simp only [Act.put, List.setIfInBounds_toArray, List.set_cons_zero, List.set_cons_succ]
          refine takeH (i := 7) (d := 57) (v := .pointer (some ⟨ba, offa + tl, none⟩)) rfl rfl (by kernel_rfl) (by kernel_rfl) (by kernel_rfl) (fun _ _ _ h => h) (Or.inl ⟨by rfl, ?_⟩) (by assumption) ?_
          · intro w hSw; go_simp
          simp only [Act.put, List.setIfInBounds_toArray, List.set_cons_zero, List.set_cons_succ]
          refine takeH (i := 8) (d := 58) (v := .int .i64 (-1)) rfl rfl (by kernel_rfl) (by kernel_rfl) (by kernel_rfl) (fun _ _ _ h => h) (Or.inl ⟨by rfl, ?_⟩) (by assumption) ?_
          · intro w hSw; go_simp
          simp only [Act.put, List.setIfInBounds_toArray, List.set_cons_zero, List.set_cons_succ]
          refine takeH (i := 9) (d := 59) (v := .bool false) rfl rfl (by kernel_rfl) (by kernel_rfl) (by kernel_rfl) (fun _ _ _ h => h) (Or.inl ⟨by rfl, ?_⟩) (by assumption) ?_
          · intro w hSw; go_simp
          simp only [Act.put, List.setIfInBounds_toArray, List.set_cons_zero, List.set_cons_succ]
          refine takeH (i := 10) (d := 60) (v := .bool false) rfl rfl (by kernel_rfl) (by kernel_rfl) (by kernel_rfl) (fun _ _ _ h => h) (Or.inl ⟨by rfl, ?_⟩) (by assumption) ?_
          · intro w hSw; go_simp
          simp only [Act.put, List.setIfInBounds_toArray, List.set_cons_zero, List.set_cons_succ]
          refine takeH (i := 11) (d := 61) (v := .bool false) rfl rfl (by kernel_rfl) (by kernel_rfl) (by kernel_rfl) (fun _ _ _ h => h) (Or.inl ⟨by rfl, ?_⟩) (by assumption) ?_
          · intro w hSw; go_simp
          simp only [Act.put, List.setIfInBounds_toArray, List.set_cons_zero, List.set_cons_succ]
          refine takeH (i := 12) (d := 62) (v := undef) rfl rfl (by kernel_rfl) (by kernel_rfl) (by kernel_rfl) (fun _ _ _ h => h) (Or.inr ⟨by rfl, rfl⟩) (by assumption) ?_
          simp only [Act.put, List.setIfInBounds_toArray, List.set_cons_zero, List.set_cons_succ]
          refine takeH (i := 13) (d := 63) (v := undef) rfl rfl (by kernel_rfl) (by kernel_rfl) (by kernel_rfl) (fun _ _ _ h => h) (Or.inr ⟨by rfl, rfl⟩) (by assumption) ?_
          simp only [Act.put, List.setIfInBounds_toArray, List.set_cons_zero, List.set_cons_succ]
          refine takeH (i := 14) (d := 64) (v := undef) rfl rfl (by kernel_rfl) (by kernel_rfl) (by kernel_rfl) (fun _ _ _ h => h) (Or.inr ⟨by rfl, rfl⟩) (by assumption) ?_
          simp only [Act.put, List.setIfInBounds_toArray, List.set_cons_zero, List.set_cons_succ]
          refine takeH (i := 15) (d := 65) (v := undef) rfl rfl (by kernel_rfl) (by kernel_rfl) (by kernel_rfl) (fun _ _ _ h => h) (Or.inr ⟨by rfl, rfl⟩) (by assumption) ?_
          simp only [Act.put, List.setIfInBounds_toArray, List.set_cons_zero, List.set_cons_succ]
          refine takeH (i := 16) (d := 66) (v := undef) rfl rfl (by kernel_rfl) (by kernel_rfl) (by kernel_rfl) (fun _ _ _ h => h) (Or.inr ⟨by rfl, rfl⟩) (by assumption) ?_
          simp only [Act.put, List.setIfInBounds_toArray, List.set_cons_zero, List.set_cons_succ]
          refine takeH (i := 17) (d := 67) (v := undef) rfl rfl (by kernel_rfl) (by kernel_rfl) (by kernel_rfl) (fun _ _ _ h => h) (Or.inr ⟨by rfl, rfl⟩) (by assumption) ?_
          simp only [Act.put, List.setIfInBounds_toArray, List.set_cons_zero, List.set_cons_succ]
          refine takeH (i := 18) (d := 68) (v := undef) rfl rfl (by kernel_rfl) (by kernel_rfl) (by kernel_rfl) (fun _ _ _ h => h) (Or.inr ⟨by rfl, rfl⟩) (by assumption) ?_
          simp only [Act.put, List.setIfInBounds_toArray, List.set_cons_zero, List.set_cons_succ]
          refine takeH (i := 19) (d := 69) (v := undef) rfl rfl (by kernel_rfl) (by kernel_rfl) (by kernel_rfl) (fun _ _ _ h => h) (Or.inr ⟨by rfl, rfl⟩) (by assumption) ?_
          simp only [Act.put, List.setIfInBounds_toArray, List.set_cons_zero, List.set_cons_succ]
          refine takeH (i := 20) (d := 70) (v := undef) rfl rfl (by kernel_rfl) (by kernel_rfl) (by kernel_rfl) (fun _ _ _ h => h) (Or.inr ⟨by rfl, rfl⟩) (by assumption) ?_
          simp only [Act.put, List.setIfInBounds_toArray, List.set_cons_zero, List.set_cons_succ]
          refine takeH (i := 21) (d := 71) (v := undef) rfl rfl (by kernel_rfl) (by kernel_rfl) (by kernel_rfl) (fun _ _ _ h => h) (Or.inr ⟨by rfl, rfl⟩) (by assumption) ?_
          simp only [Act.put, List.setIfInBounds_toArray, List.set_cons_zero, List.set_cons_succ]
          refine takeH (i := 22) (d := 72) (v := .bool false) rfl rfl (by kernel_rfl) (by kernel_rfl) (by kernel_rfl) (fun _ _ _ h => h) (Or.inl ⟨by rfl, ?_⟩) (by assumption) ?_
          · intro w hSw; go_simp
          simp only [Act.put, List.setIfInBounds_toArray, List.set_cons_zero, List.set_cons_succ]
          refine takeH (i := 23) (d := 73) (v := .pointer (some ⟨w2.heap.size, k, none⟩)) rfl rfl (by kernel_rfl) (by kernel_rfl) (by kernel_rfl) (fun _ _ _ h => h) (Or.inl ⟨by rfl, ?_⟩) (by assumption) ?_
          · intro w hSw; go_simp
          simp only [Act.put, List.setIfInBounds_toArray, List.set_cons_zero, List.set_cons_succ]
          refine wpAnyH_ready (rs := [24]) (by kernel_rfl) (by simp) ?_
          refine AllReadyH.cons rfl (fun K hK => ?_) AllReadyH.nil
          go_simp
          refine hK.out _ _ ⟨other_get hbag e1, other_get hbag e2⟩ (fun hHeld => ?_)
          clear hK
          refine wpAnyH_done (by kernel_rfl) ?_ _
          go_wp2
          go_roundw
          case rel => exact FIN.out
          case measure => simp [intOf]; omega
      · have hsd : sd = false := by rw [← HSD.out]; simp [z0]
        subst hsd
        obtain rfl : rm = 0 := by omega
        clear HSD z0
        refine wp_region_held_drew (S := fun w' : World => w'.cell? ⟨ba, offa + tl, none⟩ = some (.int .i64 lt) ∧ w'.cell? ⟨ba, offa + hd, none⟩ = some (.int .i64 lh)) (by kernel_rfl) ⟨e1, e2⟩ (fun hHeld => ?_)
        refine takeH (i := 0) (d := 50) (v := .slice (some ⟨w2.heap.size, 0, none⟩) m2 m2) rfl rfl (by kernel_rfl) (by kernel_rfl) (by kernel_rfl) (fun _ _ _ h => h) (Or.inl ⟨by rfl, ?_⟩) (by assumption) ?_
        · intro w hSw; go_simp
        simp only [Act.put, List.setIfInBounds_toArray, List.set_cons_zero, List.set_cons_succ]
        refine takeH (i := 1) (d := 51) (v := .int .i64 (k : Nat)) rfl rfl (by kernel_rfl) (by kernel_rfl) (by kernel_rfl) (fun _ _ _ h => h) (Or.inl ⟨by rfl, ?_⟩) (by assumption) ?_
        · intro w hSw; go_simp
        simp only [Act.put, List.setIfInBounds_toArray, List.set_cons_zero, List.set_cons_succ]
        refine takeH (i := 2) (d := 52) (v := .int .i64 0) rfl rfl (by kernel_rfl) (by kernel_rfl) (by kernel_rfl) (fun _ _ _ h => h) (Or.inl ⟨by rfl, ?_⟩) (by assumption) ?_
        · intro w hSw; go_simp
        simp only [Act.put, List.setIfInBounds_toArray, List.set_cons_zero, List.set_cons_succ]
        refine takeH (i := 3) (d := 53) (v := .bool false) rfl rfl (by kernel_rfl) (by kernel_rfl) (by kernel_rfl) (fun _ _ _ h => h) (Or.inl ⟨by rfl, ?_⟩) (by assumption) ?_
        · intro w hSw; go_simp
        simp only [Act.put, List.setIfInBounds_toArray, List.set_cons_zero, List.set_cons_succ]
        refine takeH (i := 4) (d := 54) (v := .bool false) rfl rfl (by kernel_rfl) (by kernel_rfl) (by kernel_rfl) (fun _ _ _ h => h) (Or.inl ⟨by rfl, ?_⟩) (by assumption) ?_
        · intro w hSw; go_simp
        simp only [Act.put, List.setIfInBounds_toArray, List.set_cons_zero, List.set_cons_succ]
        refine takeH (i := 5) (d := 55) (v := undef) rfl rfl (by kernel_rfl) (by kernel_rfl) (by kernel_rfl) (fun _ _ _ h => h) (Or.inr ⟨by rfl, rfl⟩) (by assumption) ?_
        simp only [Act.put, List.setIfInBounds_toArray, List.set_cons_zero, List.set_cons_succ]
        refine takeH (i := 6) (d := 56) (v := undef) rfl rfl (by kernel_rfl) (by kernel_rfl) (by kernel_rfl) (fun _ _ _ h => h) (Or.inr ⟨by rfl, rfl⟩) (by assumption) ?_
        simp only [Act.put, List.setIfInBounds_toArray, List.set_cons_zero, List.set_cons_succ]
        refine takeH (i := 7) (d := 57) (v := undef) rfl rfl (by kernel_rfl) (by kernel_rfl) (by kernel_rfl) (fun _ _ _ h => h) (Or.inr ⟨by rfl, rfl⟩) (by assumption) ?_
        simp only [Act.put, List.setIfInBounds_toArray, List.set_cons_zero, List.set_cons_succ]
        refine takeH (i := 8) (d := 58) (v := undef) rfl rfl (by kernel_rfl) (by kernel_rfl) (by kernel_rfl) (fun _ _ _ h => h) (Or.inr ⟨by rfl, rfl⟩) (by assumption) ?_
        simp only [Act.put, List.setIfInBounds_toArray, List.set_cons_zero, List.set_cons_succ]
        refine takeH (i := 9) (d := 59) (v := undef) rfl rfl (by kernel_rfl) (by kernel_rfl) (by kernel_rfl) (fun _ _ _ h => h) (Or.inr ⟨by rfl, rfl⟩) (by assumption) ?_
        simp only [Act.put, List.setIfInBounds_toArray, List.set_cons_zero, List.set_cons_succ]
        refine takeH (i := 10) (d := 60) (v := .bool false) rfl rfl (by kernel_rfl) (by kernel_rfl) (by kernel_rfl) (fun _ _ _ h => h) (Or.inl ⟨by rfl, ?_⟩) (by assumption) ?_
        · intro w hSw; go_simp
        simp only [Act.put, List.setIfInBounds_toArray, List.set_cons_zero, List.set_cons_succ]
        refine takeH (i := 11) (d := 61) (v := .bool false) rfl rfl (by kernel_rfl) (by kernel_rfl) (by kernel_rfl) (fun _ _ _ h => h) (Or.inl ⟨by rfl, ?_⟩) (by assumption) ?_
        · intro w hSw; go_simp
        simp only [Act.put, List.setIfInBounds_toArray, List.set_cons_zero, List.set_cons_succ]
        refine takeH (i := 12) (d := 62) (v := undef) rfl rfl (by kernel_rfl) (by kernel_rfl) (by kernel_rfl) (fun _ _ _ h => h) (Or.inr ⟨by rfl, rfl⟩) (by assumption) ?_
        simp only [Act.put, List.setIfInBounds_toArray, List.set_cons_zero, List.set_cons_succ]
        refine takeH (i := 13) (d := 63) (v := undef) rfl rfl (by kernel_rfl) (by kernel_rfl) (by kernel_rfl) (fun _ _ _ h => h) (Or.inr ⟨by rfl, rfl⟩) (by assumption) ?_
        simp only [Act.put, List.setIfInBounds_toArray, List.set_cons_zero, List.set_cons_succ]
        refine takeH (i := 14) (d := 64) (v := undef) rfl rfl (by kernel_rfl) (by kernel_rfl) (by kernel_rfl) (fun _ _ _ h => h) (Or.inr ⟨by rfl, rfl⟩) (by assumption) ?_
        simp only [Act.put, List.setIfInBounds_toArray, List.set_cons_zero, List.set_cons_succ]
        refine takeH (i := 15) (d := 65) (v := undef) rfl rfl (by kernel_rfl) (by kernel_rfl) (by kernel_rfl) (fun _ _ _ h => h) (Or.inr ⟨by rfl, rfl⟩) (by assumption) ?_
        simp only [Act.put, List.setIfInBounds_toArray, List.set_cons_zero, List.set_cons_succ]
        refine takeH (i := 16) (d := 66) (v := undef) rfl rfl (by kernel_rfl) (by kernel_rfl) (by kernel_rfl) (fun _ _ _ h => h) (Or.inr ⟨by rfl, rfl⟩) (by assumption) ?_
        simp only [Act.put, List.setIfInBounds_toArray, List.set_cons_zero, List.set_cons_succ]
        refine takeH (i := 17) (d := 67) (v := undef) rfl rfl (by kernel_rfl) (by kernel_rfl) (by kernel_rfl) (fun _ _ _ h => h) (Or.inr ⟨by rfl, rfl⟩) (by assumption) ?_
        simp only [Act.put, List.setIfInBounds_toArray, List.set_cons_zero, List.set_cons_succ]
        refine takeH (i := 18) (d := 68) (v := undef) rfl rfl (by kernel_rfl) (by kernel_rfl) (by kernel_rfl) (fun _ _ _ h => h) (Or.inr ⟨by rfl, rfl⟩) (by assumption) ?_
        simp only [Act.put, List.setIfInBounds_toArray, List.set_cons_zero, List.set_cons_succ]
        refine takeH (i := 19) (d := 69) (v := undef) rfl rfl (by kernel_rfl) (by kernel_rfl) (by kernel_rfl) (fun _ _ _ h => h) (Or.inr ⟨by rfl, rfl⟩) (by assumption) ?_
        simp only [Act.put, List.setIfInBounds_toArray, List.set_cons_zero, List.set_cons_succ]
        refine takeH (i := 20) (d := 70) (v := undef) rfl rfl (by kernel_rfl) (by kernel_rfl) (by kernel_rfl) (fun _ _ _ h => h) (Or.inr ⟨by rfl, rfl⟩) (by assumption) ?_
        simp only [Act.put, List.setIfInBounds_toArray, List.set_cons_zero, List.set_cons_succ]
        refine takeH (i := 21) (d := 71) (v := undef) rfl rfl (by kernel_rfl) (by kernel_rfl) (by kernel_rfl) (fun _ _ _ h => h) (Or.inr ⟨by rfl, rfl⟩) (by assumption) ?_
        simp only [Act.put, List.setIfInBounds_toArray, List.set_cons_zero, List.set_cons_succ]
        refine takeH (i := 22) (d := 72) (v := .bool false) rfl rfl (by kernel_rfl) (by kernel_rfl) (by kernel_rfl) (fun _ _ _ h => h) (Or.inl ⟨by rfl, ?_⟩) (by assumption) ?_
        · intro w hSw; go_simp
        simp only [Act.put, List.setIfInBounds_toArray, List.set_cons_zero, List.set_cons_succ]
        refine takeH (i := 23) (d := 73) (v := .pointer (some ⟨w2.heap.size, k, none⟩)) rfl rfl (by kernel_rfl) (by kernel_rfl) (by kernel_rfl) (fun _ _ _ h => h) (Or.inl ⟨by rfl, ?_⟩) (by assumption) ?_
        · intro w hSw; go_simp
        simp only [Act.put, List.setIfInBounds_toArray, List.set_cons_zero, List.set_cons_succ]
        refine wpAnyH_ready (rs := [24]) (by kernel_rfl) (by simp) ?_
        refine AllReadyH.cons rfl (fun K hK => ?_) AllReadyH.nil
        go_simp
        refine hK.out _ _ ⟨other_get hbag e1, other_get hbag e2⟩ (fun hHeld => ?_)
        clear hK
        refine wpAnyH_done (by kernel_rfl) ?_ _
        go_wp2
        go_roundw
        case rel => exact FIN.out
        case measure => simp [intOf]; omega
    · obtain rfl : k = m2 := by omega
      have HE : Hid (bs = stepsL ls caps f M k) := by
        refine List.ext_getElem (by rw [stepsL_len]; exact hbl) fun i i1 i2 => ?_
        have h1 := ST.out i (by omega)
        rw [List.getElem?_eq_getElem i1] at h1
        have h2 := stepsL_at (ls := ls) (caps := caps) (f := f) (M := M) (m := k) (a := i) (by omega)
        rw [List.getElem?_eq_getElem i2] at h2
        exact h1.trans h2.symm
      go_wp2
      go_ret
      refine ⟨w2.heap.size, by rw [HM2.out]; rfl, by omega, ?_, GR.out⟩
      rw [HM2.out, ← HE.out]
      exact OL.out

end Go.Proofs.Ytcilhidoiomfkaa
