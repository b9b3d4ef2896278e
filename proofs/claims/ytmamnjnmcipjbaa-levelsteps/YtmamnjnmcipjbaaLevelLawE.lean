/-
  The law LevelSteps, walked: an arc with room leads at most one higher; each one above 0 is led to from one lower.
-/
import Derived.Test.YtmamnjnmcipjbaaLevelLawC
namespace Go.Proofs.Ytmamnjnmcipjbaa
open Go.RowKit

theorem room_nonneg {caps f : List Int} (h : ratesB caps f = true) {a : Nat} (ha : a < 2 * caps.length) : 0 ≤ roomI caps f (a : Int) := by
  obtain ⟨h1, h2⟩ := ratesB_parts h
  have := h2 (a / 2) (by omega)
  unfold capI at this
  rcases Nat.mod_two_eq_zero_or_one a with e | e
  · rw [room_even (i := a / 2) (by omega) (by omega)]
    omega
  · rw [room_odd (i := a / 2) (by omega) (by omega)]
    omega

theorem RRoom_yes (vn : Nat) (a : Int) (A : Option Addr) (n c : Nat) (L : List Lk) (X : Option Addr) (p d : Nat) (caps : List Int) (Y : Option Addr) (q e0 : Nat) (f : List Int) (w : World) {B B' B'' : Nat} (h : Lks w B A n L) (hB : B ≤ w.heap.size) (hx : Row w B' X p caps) (hB' : B' ≤ w.heap.size) (hy : Row w B'' Y q f) (hB'' : B'' ≤ w.heap.size) (hf : fitsF (vn : Nat) L caps f = true) (ha : 0 ≤ a ∧ a < (2 * n : Nat)) :
    Calls Try.prog 16 #[.agg #[.int .i64 (vn : Nat), .slice A n c], .slice X p d, .slice Y q e0, .int .i64 a] w (Says w (.tuple #[.int .i64 (roomI caps f a), .int .i64 0])) := by
  have hc := RRoom_any (vn : Nat) a A n c L X p d caps Y q e0 f w h hB hx hB' hy hB''
  have hb : roomB (vn : Nat) L caps f a = true := by
    rw [roomB, hf, h.len, Bool.true_and]
    exact isV_yes ha.1 (by omega)
  rw [roomV, (room_yes hb).1, (room_yes hb).2] at hc
  exact hc

def bools (bs : List Bool) : List Value := bs.map Value.bool

theorem bools_set (bs : List Bool) (i : Nat) (b : Bool) : (bools bs).set i (.bool b) = bools (bs.set i b) := by simp [bools, List.map_set]

theorem bools_at {bs : List Bool} {i : Nat} (h : i < bs.length) : (bools bs)[i]? = some (.bool (bs[i]?.getD false)) := by simp [bools, h]

/-- Those to which one of the first k arcs leads from one lower are marked. -/
def LedK (ls : List Lk) (caps f M : List Int) (bs : List Bool) (k : Nat) : Prop :=
  ∀ a : Nat, a < k → 0 < roomI caps f (a : Int) → 0 ≤ lvAt M (tailOf ls a) → lvAt M (headOf ls a) = lvAt M (tailOf ls a) + 1 → bs[(headOf ls a).toNat]?.getD false = true

theorem led_skip {ls : List Lk} {caps f M : List Int} {bs : List Bool} {k : Nat} (h : LedK ls caps f M bs k) (no : ¬ (0 < roomI caps f (k : Int) ∧ 0 ≤ lvAt M (tailOf ls k) ∧ lvAt M (headOf ls k) = lvAt M (tailOf ls k) + 1)) : LedK ls caps f M bs (k + 1) := by
  intro a ha h1 h2 h3
  by_cases e : a < k
  · exact h a e h1 h2 h3
  · obtain rfl : a = k := by omega
    exact absurd ⟨h1, h2, h3⟩ no

theorem led_put {ls : List Lk} {caps f M : List Int} {bs : List Bool} {k : Nat} (h : LedK ls caps f M bs k) (hh : (headOf ls k).toNat < bs.length) : LedK ls caps f M (bs.set (headOf ls k).toNat true) (k + 1) := by
  intro a ha h1 h2 h3
  by_cases e : (headOf ls a).toNat = (headOf ls k).toNat
  · rw [e, List.getElem?_set_self hh]
    rfl
  · rw [List.getElem?_set_ne (by omega)]
    by_cases e2 : a < k
    · exact h a e2 h1 h2 h3
    · obtain rfl : a = k := by omega
      exact absurd rfl e

theorem led_end {V n : Nat} {ls : List Lk} {caps f M : List Int} {bs : List Bool} {s : Int} (h : IsLv V (Leads ls caps f (2 * n)) s M) (l : LedK ls caps f M bs (2 * n)) {v : Nat} (hv : v < V) (h1 : 1 ≤ lvAt M (v : Int)) : bs[v]?.getD false = true := by
  obtain ⟨u, ⟨a, ha, h2, h3, h4⟩, h5⟩ := h.led (v : Int) ⟨by omega, by omega⟩ h1
  have := l a ha h4 (by rw [h2]; omega) (by rw [h2, h3]; omega)
  rw [h3] at this
  simpa using this

def StRel (w : World) (B gl vn : Nat) (A : Option Addr) (n c : Nat) (ls : List Lk) (caps f M : List Int) (Aa : Option Addr) (i : Value) (wr : World) : Prop :=
  ∃ (k : Nat) (bs : List Bool), k ≤ 2 * n ∧ i = .int .i64 (k : Nat) ∧ w.grownBy wr none ∧ Own wr w.heap.size 24 [.int .i64 (vn : Nat), .slice A n c] ∧ Row wr B Aa vn M ∧ B ≤ gl ∧ Own wr gl 4 (bools bs) ∧ bs.length = vn ∧ LedK ls caps f M bs k

def StIn (w : World) (B gl vn : Nat) (A : Option Addr) (n c : Nat) (M : List Int) (Aa : Option Addr) (bs : List Bool) (i : Value) (wr : World) : Prop :=
  ∃ (k : Nat), k ≤ vn ∧ i = .int .i64 (k : Nat) ∧ w.grownBy wr none ∧ Own wr w.heap.size 24 [.int .i64 (vn : Nat), .slice A n c] ∧ Row wr B Aa vn M ∧ Own wr gl 4 (bools bs)

theorem info4 : (Try.prog.info? 4).map (fun i => (i.zero, i.size, i.bytes)) = some (some (.bool false), 1, 1) := by kernel_rfl

theorem held2L {w w1 : World} {k : Nat} {x0 x1 : Value} (g : w.grownBy w1 none) (h : (fun w' : World => w'.cell? ⟨k, 0, none⟩ = some x0 ∧ w'.cell? ⟨k, 1, none⟩ = some x1) w) :
    (fun w' : World => w'.cell? ⟨k, 0, none⟩ = some x0 ∧ w'.cell? ⟨k, 1, none⟩ = some x1) w1 := ⟨kept g h.1, kept g h.2⟩

theorem rep_bools (n : Nat) : List.replicate n (Value.bool false) = bools (List.replicate n false) := by simp [bools]

set_option maxRecDepth 20000 in
set_option maxHeartbeats 8000000 in
theorem LevelSteps_walk (V : Int) (A : Option Addr) (n c : Nat) (ls : List Lk) (X : Option Addr) (m d : Nat) (caps : List Int) (Y : Option Addr) (r f0 : Nat) (f : List Int) (s : Int) (w : World) (h : InG w A n c ls) (hX : In w X m d caps) (hY : In w Y r f0 f) :
    Calls Try.prog 4 #[.agg #[.int .i64 V, .slice A n c], .slice X m d, .slice Y r f0, .int .i64 s] w (LawPost w) := by
  obtain ⟨hs, hnc, hc, hnil⟩ := h
  obtain ⟨hx, hpd, hd, hnilx⟩ := hX
  obtain ⟨hy, hqf, hf, hnily⟩ := hY
  have HR := Lib.hid hs
  have HL := Lib.hid hs.len
  have HX := Lib.hid hx
  have HY := Lib.hid hy
  have HLX := Lib.hid hx.len
  have HG0 := Lib.hid (grow0 w (.cells #[.int .i64 V, .slice A n c] 24))
  clear hs hnil hx hnilx hy hnily
  go_enter Try.func4, Try.ntmps4
  go_wp2_with fail
  refine (Levels_any V s A n c ls X m d caps Y r f0 f _ (HR.out.grown (Nat.le_refl _) HG0.out) (by simp) (HX.out.grown (Nat.le_refl _) HG0.out) (by simp) (HY.out.grown (Nat.le_refl _) HG0.out) (by simp)).mono ?_
  rintro e w2 ⟨M, z, hM, va, rfl, ha, k⟩
  obtain ⟨g1, ob⟩ := box1 [.int .i64 V, .slice A n c] k
  have HM := Lib.hid hM
  have OKM := Lib.hid (lvIs_okI hM).1
  obtain ⟨Aa, ca, rfl, _, hna, ra⟩ := ha.rowN OKM.out
  have RA := Lib.hid ra
  have G := Lib.hid g1
  have OB := Lib.hid ob
  clear k ha ra ob g1 hM HG0
  go_wp2_with fail
  refine (num_says _ _).mono ?_
  rintro e w3 ⟨rfl, k⟩
  have G := Lib.hid (grown_trans G.out k)
  have OB := Lib.hid (OB.out.kept k)
  have RA := Lib.hid ((RA.out.grown (Nat.le_refl _) k).wide k.size)
  clear k
  by_cases hz : z = 0
  case neg =>
    have hzb : (z != 0) = true := by simp [hz]
    go_wp2
    go_ret
    exact ⟨rfl, below_of G.out⟩
  subst hz
  have hB : lvB V ls caps f s = true := by
    rcases HM.out with ⟨h1, _⟩ | ⟨_, h2, _⟩
    · exact h1
    · cases h2
  obtain ⟨_, hlv⟩ := lvIs_yes HM.out hB
  obtain ⟨hfit, hsv⟩ := lvB_parts hB
  have HFIT := Lib.hid hfit
  obtain ⟨f1, f2, f3, _⟩ := fits_parts hfit
  have HMAY := Lib.hid f1
  have HRT := Lib.hid f3
  have h16 := may_small f1
  rw [HL.out] at h16
  obtain ⟨vn, rfl⟩ : ∃ vn : Nat, V = (vn : Nat) := ⟨V.toNat, by omega⟩
  rw [HL.out, Int.toNat_natCast] at hlv
  have hmn : m = n := by have := (capsB_parts f2).1; have := HL.out; have := HLX.out; omega
  subst hmn
  have hs2 : 0 ≤ s ∧ s < vn := by simpa [isV] using hsv
  obtain ⟨sn, rfl⟩ : ∃ sn : Nat, s = (sn : Nat) := ⟨s.toNat, by omega⟩
  have LV := Lib.hid hlv
  have hlm := hlv.len
  have hsrc := hlv.src
  rw [hlm]
  have ra := RA.out
  rw [hlm] at ra
  have RA := Lib.hid ra
  obtain ⟨ba, offa, hAa, _, hca⟩ := ra.at_ (by omega)
  subst hAa
  have ds := hca sn (by omega)
  rw [show M[sn]?.getD 0 = lvAt M (sn : Int) by simp [lvAt], hsrc] at ds
  obtain ⟨p0, p1⟩ := OB.out.two
  obtain ⟨i0, hi, hz0, hz1, hz2⟩ := info_parts info4
  have HI := Lib.hid hi
  have HZ0 := Lib.hid hz0
  have HZ1 := Lib.hid hz1
  have HZ2 := Lib.hid hz2
  have nb : ((vn : Int) != (vn : Int)) = false := by simp
  clear hi hz0 hz1 hz2 hB hfit hsv f1 f2 f3 hlv hsrc ra hca
  go_wp2_with (first | (refine wpList_make_full _ rfl _ _ 37 rfl w3.heap.size 4 i0 (.bool false) 1 Try.underlying37 HI.out HZ0.out HZ1.out .i64 .i64 (vn : Int) (vn : Int) vn rfl rfl rfl rfl (by rw [HZ2.out]; omega) (by unfold maxLen; omega) (Nat.le_refl _) ?_))
  intro w4 hmk k4
  rw [toList_madeCells_one, rep_bools] at hmk
  have l3 := OB.out.lt
  have HS : Hid (StRel w w3.heap.size w3.heap.size vn A m c ls caps f M (some ⟨ba, offa, none⟩) (.int .i64 0) w4) :=
    ⟨0, List.replicate vn false, Nat.zero_le _, rfl, grown_trans G.out k4, OB.out.kept k4, RA.out.grown (Nat.le_refl _) k4, Nat.le_refl _, Own.of_made hmk, by simp, fun a ha => by omega⟩
  clear hmk k4 G OB RA ds p0 p1 HI HZ0 HZ1 HZ2
  go_wp2
  go_loopw [12] (fun i wr => StRel w w3.heap.size w3.heap.size vn A m c ls caps f M (some ⟨ba, offa, none⟩) i wr) (fun i _ => 2 * m - (intOf i).toNat)
  case atStart => exact HS.out
  case round =>
    clear HS
    obtain ⟨k, bs, hk, rfl, hgr, ob, ra, _, ol, hbl, led⟩ := hrel
    have GR := Lib.hid hgr
    have OB := Lib.hid ob
    have RA := Lib.hid ra
    have OL := Lib.hid ol
    have LED := Lib.hid led
    have lo := ol.lt
    have hsz := hgr.size
    obtain ⟨p0, p1⟩ := ob.two
    clear hgr ob ra ol led
    by_cases hlt : k < 2 * m
    · have hti : inV vn (tailOf ls k) := by have := tail_bd HMAY.out (a := k) (by have := HL.out; omega); exact ⟨this.1, this.2⟩
      have hhi : inV vn (headOf ls k) := by have := head_bd HMAY.out (a := k) (by have := HL.out; omega); exact ⟨this.1, this.2⟩
      have hrn := room_nonneg HRT.out (a := k) (by have := HLX.out; omega)
      have UP := Lib.hid (fun hr => LV.out.up (tailOf ls k) (headOf ls k) ⟨k, hlt, rfl, rfl, hr⟩)
      have SK := Lib.hid (led_skip LED.out)
      have TA := Lib.hid (fun (wx : World) (gx : w.grownBy wx none) => RTail_any (vn : Nat) A m c ls k wx (HR.out.grown (Nat.le_refl _) gx) hlt)
      have HA := Lib.hid (fun (wx : World) (gx : w.grownBy wx none) => RHead_any (vn : Nat) A m c ls k wx (HR.out.grown (Nat.le_refl _) gx) hlt)
      have bt := LV.out.bd _ hti
      have bh := LV.out.bd _ hhi
      obtain ⟨tl, htl⟩ : ∃ tl : Nat, tailOf ls k = (tl : Nat) := ⟨(tailOf ls k).toNat, by have := hti.1; omega⟩
      obtain ⟨hd, hhd⟩ : ∃ hd : Nat, headOf ls k = (hd : Nat) := ⟨(headOf ls k).toNat, by have := hhi.1; omega⟩
      have PU := Lib.hid (led_put LED.out (by have := hhi.1; have := hhi.2; omega))
      rw [htl] at SK TA bt hti UP
      rw [hhd] at SK HA bh hhi UP PU
      rw [Int.toNat_natCast] at PU
      have htn : tl < vn := by have := hti.2; omega
      have hhn : hd < vn := by have := hhi.2; omega
      have E1 : Hid (wr.cell? ⟨ba, offa + tl, none⟩ = some (.int .i64 (lvAt M (tl : Int)))) := by have := RA.out.cellAt htn; rw [show M[tl]?.getD 0 = lvAt M (tl : Int) by simp [lvAt]] at this; exact this
      have E2 : Hid (wr.cell? ⟨ba, offa + hd, none⟩ = some (.int .i64 (lvAt M (hd : Int)))) := by have := RA.out.cellAt hhn; rw [show M[hd]?.getD 0 = lvAt M (hd : Int) by simp [lvAt]] at this; exact this
      clear htl hhd LED
      generalize lvAt M (tl : Int) = lt at *
      generalize lvAt M (hd : Int) = lh at *
      go_wp2_with fail
      refine (RRoom_yes vn (k : Nat) A m c ls X m d caps Y r f0 f _ (HR.out.grown (Nat.le_refl _) GR.out) GR.out.size (HX.out.grown (Nat.le_refl _) GR.out) GR.out.size (HY.out.grown (Nat.le_refl _) GR.out) GR.out.size HFIT.out (by omega)).mono ?_
      rintro e w5 ⟨rfl, g5⟩
      generalize roomI caps f (k : Int) = rm at *
      have G5 := Lib.hid (grown_trans GR.out g5)
      have GW := Lib.hid g5
      have hS := OB.out.kept g5
      have HS := Lib.hid hS.two
      have GK := Lib.hid (World.grownBy.refl w5 none)
      have C1 : Hid (∀ wx : World, w5.grownBy wx none → Calls Try.prog 17 #[.agg #[.int .i64 (vn : Nat), .slice A m c], .int .i64 (k : Nat)] wx (Says wx (.int .i64 (tl : Nat)))) := fun wx g => TA.out wx (grown_trans G5.out g)
      have C2 : Hid (∀ wx : World, w5.grownBy wx none → Calls Try.prog 18 #[.agg #[.int .i64 (vn : Nat), .slice A m c], .int .i64 (k : Nat)] wx (Says wx (.int .i64 (hd : Nat)))) := fun wx g => HA.out wx (grown_trans G5.out g)
      clear g5 hS p0 p1 TA HA
      obtain ⟨p0, p1⟩ := HS.out
      go_upto_region 11 with fail
      go_region_held3 (fun w' : World => w'.cell? ⟨w.heap.size, 0, none⟩ = some (.int .i64 (vn : Nat)) ∧ w'.cell? ⟨w.heap.size, 1, none⟩ = some (.slice A m c))
        (exact HS.out)
        (first
          | (go_at_call 17; refine (C1.out _ (by first | exact GK.out | exact grown_drew GK.out | exact grown_drewN GK.out _)).mono ?_; rintro e w8 ⟨rfl, g⟩; have GK : Hid (w5.grownBy w8 none) := (by first | exact grown_trans GK.out g | exact grown_trans (grown_drew GK.out) g | exact grown_trans (grown_drewN GK.out _) g); have HS := Lib.hid (held2L g HS.out); clear g)
          | (go_at_call 18; refine (C2.out _ (by first | exact GK.out | exact grown_drew GK.out | exact grown_drewN GK.out _)).mono ?_; rintro e w8 ⟨rfl, g⟩; have GK : Hid (w5.grownBy w8 none) := (by first | exact grown_trans GK.out g | exact grown_trans (grown_drew GK.out) g | exact grown_trans (grown_drewN GK.out _) g); have HS := Lib.hid (held2L g HS.out); clear g))
      have KW := grown_trans GW.out GK.out
      have G8 := Lib.hid (grown_trans GR.out KW)
      have OB := Lib.hid (OB.out.kept KW)
      have RA := Lib.hid (RA.out.grown (by omega) KW)
      have OL := Lib.hid (OL.out.kept KW)
      have e1 := kept KW E1.out
      have e2 := kept KW E2.out
      have l8 := OL.out.lt
      clear KW GW GK HS C1 C2 G5 GR p0 p1 E1 E2
      by_cases h1 : rm = 0
      · subst h1
        have SK2 := Lib.hid (SK.out (fun h => by omega))
        clear SK PU UP
        have h1b : ((0 : Int) == 0) = true := by simp
        go_wp2
        go_roundw
        case rel => exact ⟨k + 1, bs, by omega, by go_num, G8.out, OB.out, RA.out, Nat.le_refl _, OL.out, hbl, SK2.out⟩
        case measure => simp [intOf]; omega
      have h1b : (rm == 0) = false := by simp [h1]
      by_cases h2 : lt < 0
      · have SK2 := Lib.hid (SK.out (fun h => by omega))
        clear SK PU UP
        go_wp2
        go_roundw
        case rel => exact ⟨k + 1, bs, by omega, by go_num, G8.out, OB.out, RA.out, Nat.le_refl _, OL.out, hbl, SK2.out⟩
        case measure => simp [intOf]; omega
      obtain ⟨hu1, hu2⟩ := UP.out (by omega) (by omega)
      have hw : IntKind.i64.wrap (lt + 1) = lt + 1 := IntWalk.i64_in _ (by omega)
      clear UP
      go_upto_region 13 with fail
      have b1 : decide (lh < 0) = false := decide_eq_false (by omega)
      have b2 : decide (lt + 1 < lh) = false := decide_eq_false (by omega)
      go_quiet (fail)
      have e1 : (w8.drewN nq).cell? ⟨ba, offa + tl, none⟩ = some (.int .i64 lt) := e1
      have e2 : (w8.drewN nq).cell? ⟨ba, offa + hd, none⟩ = some (.int .i64 lh) := e2
      have G8 := Lib.hid (grown_drewN G8.out nq)
      have OB := Lib.hid (OB.out.drewN nq)
      have RA := Lib.hid (RA.out.drewN nq)
      have OL := Lib.hid (OL.out.drewN nq)
      have l8 : w3.heap.size < (w8.drewN nq).heap.size := OL.out.lt
      generalize w8.drewN nq = w9 at *
      clear b1 b2
      have q3 := OL.out.cell hd
      rw [bools_at (by omega)] at q3
      have Q3 := Lib.hid q3
      have f3 := OL.out.frozen hd
      clear q3
      by_cases h3 : lh = lt + 1
      · subst h3
        have h3b : (lt + 1 == lt + 1) = true := by simp
        have P2 : Hid (Own (w9.setCell ⟨w3.heap.size, hd, none⟩ (.bool true)) w3.heap.size 4 (bools (bs.set hd true))) := by
          have := OL.out.put (i := hd) (.bool true)
          rw [bools_set] at this
          exact this
        go_upto_region 15 with fail
        go_quiet (fail)
        have q3 : (w9.drewN nq).cell? ⟨w3.heap.size, hd, none⟩ = some (.bool (bs[hd]?.getD false)) := Q3.out
        have f3 : (w9.drewN nq).frozen? ⟨w3.heap.size, hd, none⟩ = false := f3
        have G8 := Lib.hid (grown_drewN G8.out nq)
        have OB := Lib.hid (OB.out.drewN nq)
        have RA := Lib.hid (RA.out.drewN nq)
        have P2 : Hid (Own ((w9.drewN nq).setCell ⟨w3.heap.size, hd, none⟩ (.bool true)) w3.heap.size 4 (bools (bs.set hd true))) := P2.out
        have l8 : w3.heap.size < (w9.drewN nq).heap.size := l8
        clear e1 e2
        generalize w9.drewN nq = w10 at *
        go_wp2
        go_roundw
        case rel => exact ⟨k + 1, bs.set hd true, by omega, by go_num, grown_new G8.out (by omega) _, OB.out.setOther (by omega) _, RA.out.grown' (by omega) (grown_set (World.grownBy.refl _ (some w3.heap.size)) _) (fun g hg => by injection hg with hg; omega), Nat.le_refl _, P2.out, by simpa using hbl, PU.out⟩
        case measure => simp [intOf]; omega
      · have h3b : (lh == lt + 1) = false := by simp [h3]
        have SK2 := Lib.hid (SK.out (fun h => h3 h.2.2))
        clear SK PU
        go_upto_region 15 with fail
        go_quiet (fail)
        go_wp2
        go_roundw
        case rel => exact ⟨k + 1, bs, by omega, by go_num, grown_drewN G8.out _, OB.out.drewN _, RA.out.drewN _, Nat.le_refl _, OL.out.drewN _, hbl, SK2.out⟩
        case measure => simp [intOf]; omega
    · obtain rfl : k = 2 * m := by omega
      have LE := Lib.hid (fun v (hv : v < vn) => led_end LV.out LED.out hv)
      have HS : Hid (StIn w w3.heap.size w3.heap.size vn A m c M (some ⟨ba, offa, none⟩) bs (.int .i64 0) wr) := ⟨0, Nat.zero_le _, rfl, GR.out, OB.out, RA.out, OL.out⟩
      clear GR OB RA OL LED
      go_wp2
      go_loopw [17] (fun i wi => StIn w w3.heap.size w3.heap.size vn A m c M (some ⟨ba, offa, none⟩) bs i wi) (fun i _ => vn - (intOf i).toNat)
      case atStart => exact HS.out
      case round =>
        clear HS p0 p1
        obtain ⟨k, hk2, rfl, hgr, ob, ra, ol⟩ := hrel
        have GR := Lib.hid hgr
        have OB := Lib.hid ob
        have RA := Lib.hid ra
        have OL := Lib.hid ol
        obtain ⟨p0, p1⟩ := ob.two
        clear hgr ob ra ol
        by_cases hkv : k < vn
        · have e1 : wr.cell? ⟨ba, offa + k, none⟩ = some (.int .i64 (lvAt M (k : Int))) := by have := RA.out.cellAt hkv; rw [show M[k]?.getD 0 = lvAt M (k : Int) by simp [lvAt]] at this; exact this
          have q3 := OL.out.cell k
          rw [bools_at (by omega)] at q3
          have hbd := LV.out.bd (k : Int) ⟨by omega, by omega⟩
          have hze := LV.out.zero (k : Int) ⟨by omega, by omega⟩
          have hle := LE.out k hkv
          generalize lvAt M (k : Int) = x at *
          generalize bs[k]?.getD false = b at *
          by_cases h1 : 1 ≤ x
          · obtain rfl := hle h1
            clear hze hle
            have hx0 : ¬ x = 0 := by omega
            go_upto_region 20 with fail
            have t1 : decide (1 ≤ x) = true := decide_eq_true h1
            have t2 : (x == 0) = false := by simp [hx0]
            have t3 : decide (x < -1) = false := decide_eq_false (by omega)
            have t4 : decide ((vn : Int) ≤ x) = false := decide_eq_false (by omega)
            go_quiet (fail)
            go_wp2
            go_roundw
            case rel => exact ⟨k + 1, by omega, by go_num, grown_drewN GR.out _, OB.out.drewN _, RA.out.drewN _, OL.out.drewN _⟩
            case measure => simp [intOf]; omega
          · by_cases h2 : x = 0
            · have hks := hze h2
              subst h2
              obtain rfl : k = sn := by omega
              clear hze hle
              go_upto_region 20 with fail
              have t2 : ((k : Int) != (k : Int)) = false := by simp
              have t4 : decide ((vn : Int) ≤ 0) = false := decide_eq_false (by omega)
              go_quiet (fail)
              go_wp2
              go_roundw
              case rel => exact ⟨k + 1, by omega, by go_num, grown_drewN GR.out _, OB.out.drewN _, RA.out.drewN _, OL.out.drewN _⟩
              case measure => simp [intOf]; omega
            · obtain rfl : x = -1 := by omega
              clear hze hle
              go_upto_region 20 with fail
              have t4 : decide ((vn : Int) ≤ -1) = false := decide_eq_false (by omega)
              go_quiet (fail)
              go_wp2
              go_roundw
              case rel => exact ⟨k + 1, by omega, by go_num, grown_drewN GR.out _, OB.out.drewN _, RA.out.drewN _, OL.out.drewN _⟩
              case measure => simp [intOf]; omega
        · obtain rfl : vn = k := by omega
          go_wp2_with fail
          refine (awake10_any _).mono ?_
          rintro e w6 ⟨rfl, k6⟩
          have G6 := Lib.hid (grown_trans GR.out k6)
          clear k6
          go_wp2
          go_ret
          exact ⟨rfl, below_of G6.out⟩

end Go.Proofs.Ytmamnjnmcipjbaa
