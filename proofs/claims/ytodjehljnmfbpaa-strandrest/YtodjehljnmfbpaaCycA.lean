/-
  The reference's Cyclic, walked: it answers just whether there is a cycle.
-/
import Derived.Test.YtodjehljnmfbpaaWaysA
set_option maxRecDepth 20000
namespace Go.Proofs.Ytodjehljnmfbpaa
open Go.RowKit

theorem fill_led {L : List Lk} {f : List Int} {u v : Int} : Way L (lets (fillL f L.length L.length)) (2 * L.length) u v ↔ Led L f u v := by
  constructor
  · intro w
    refine w.to fun a ha h => ?_
    rw [lets, fill_at ha] at h
    have := of_decide_eq_true h
    exact ⟨this.2.1, this.2.2⟩
  · intro w
    refine w.to fun a ha h => ?_
    rw [lets, fill_at ha]
    exact decide_eq_true ⟨ha, h.1, h.2⟩

def CycRel (w : World) (vn : Nat) (A : Option Addr) (n c : Nat) (ls : List Lk) (f : List Int) (i : Value) (wr : World) : Prop :=
  ∃ k : Nat, k ≤ n ∧ i = .int .i64 (k : Nat) ∧ w.grownBy wr none ∧ Own wr w.heap.size 24 [.int .i64 (vn : Nat), .slice A n c] ∧ ∀ j, j < k → ¬ (0 < f[j]?.getD 0 ∧ Led ls f (at3 ls j).2.1 (at3 ls j).1)

def FillByRel (w : World) (vn gb : Nat) (A : Option Addr) (n c : Nat) (f : List Int) (i : Value) (wr : World) : Prop :=
  ∃ k : Nat, k ≤ n ∧ i = .int .i64 (k : Nat) ∧ w.grownBy wr none ∧ Own wr w.heap.size 24 [.int .i64 (vn : Nat), .slice A n c] ∧ Own wr gb 4 (bools (fillL f n k))

theorem held5 {w w1 : World} {b b2 b3 i j l : Nat} {x y z u v : Value} (g : w.grownBy w1 none) (h : (fun w' : World => w'.cell? ⟨b, 0, none⟩ = some x ∧ w'.cell? ⟨b, 1, none⟩ = some y ∧ w'.cell? ⟨b2, i, none⟩ = some z ∧ w'.cell? ⟨b2, j, none⟩ = some u ∧ w'.cell? ⟨b3, l, none⟩ = some v) w) :
    (fun w' : World => w'.cell? ⟨b, 0, none⟩ = some x ∧ w'.cell? ⟨b, 1, none⟩ = some y ∧ w'.cell? ⟨b2, i, none⟩ = some z ∧ w'.cell? ⟨b2, j, none⟩ = some u ∧ w'.cell? ⟨b3, l, none⟩ = some v) w1 := ⟨kept g h.1, kept g h.2.1, kept g h.2.2.1, kept g h.2.2.2.1, kept g h.2.2.2.2⟩

set_option maxHeartbeats 4000000 in
theorem RCyclic_any (vn : Nat) (A : Option Addr) (n c : Nat) (ls : List Lk) (Y : Option Addr) (m e0 : Nat) (f : List Int) (w : World) {B B' : Nat} (h : Lks w B A n ls) (hB : B ≤ w.heap.size) (hy : Row w B' Y m f) (hm : mayG (vn : Nat) ls = true) (hmn : m = n) :
    Calls Try.prog 19 #[.agg #[.int .i64 (vn : Nat), .slice A n c], .slice Y m e0] w (Tells w (CycP ls f)) := by
  subst hmn
  have HL := Lib.hid h.len
  have h16 := may_small hm
  rw [HL.out] at h16
  have HMAY := Lib.hid hm
  have HR := Lib.hid h
  have HY := Lib.hid hy
  have HS : Hid (CycRel w vn A m c ls f (.int .i64 0) (w.alloc (.cells #[.int .i64 (vn : Nat), .slice A m c] 24))) := ⟨0, Nat.zero_le _, rfl, grow0 _ _, Own.new w 24 [.int .i64 (vn : Nat), .slice A m c], fun j hj => by omega⟩
  obtain ⟨i0, hi, hz0, hz1, hz2⟩ := info_parts info4
  have HI := Lib.hid hi
  have HZ0 := Lib.hid hz0
  have HZ1 := Lib.hid hz1
  have HZ2 := Lib.hid hz2
  obtain ⟨m2, hm2⟩ : ∃ m2, 2 * m = m2 := ⟨_, rfl⟩
  have HM2 := Lib.hid hm2
  have hm32 : m2 ≤ 32 := by omega
  have hw2 : IntKind.i64.wrap (2 * (m : Int)) = (m2 : Int) := by rw [IntWalk.i64_in _ (by omega)]; omega
  clear hi hz0 hz1 hz2 h hy hm hm2
  go_enter Try.func19, Try.ntmps19
  go_wp2
  go_loopw [5] (fun i wr => CycRel w vn A m c ls f i wr) (fun i _ => m - (intOf i).toNat)
  case atStart => exact HS.out
  case round =>
    clear HS
    obtain ⟨k, hk, rfl, hg, ob, hno⟩ := hrel
    have G := Lib.hid hg
    have OB := Lib.hid ob
    have NO := Lib.hid hno
    have hsz := ob.lt
    obtain ⟨p0, p1⟩ := ob.two
    clear hg ob hno
    by_cases hlt : k < m
    · obtain ⟨wo, hwo⟩ : ∃ wo : World, wo = wr := ⟨_, rfl⟩
      go_wp2_with (first | (refine wpList_make_full _ rfl _ _ 58 rfl wr.heap.size 4 i0 (.bool false) 1 Try.underlying58 HI.out HZ0.out HZ1.out .i64 .i64 (m2 : Int) (m2 : Int) m2 rfl rfl rfl rfl (by rw [HZ2.out]; omega) (by unfold maxLen; omega) (Nat.le_refl _) ?_))
      intro w4 hmk k4
      rw [toList_madeCells_one, rep_bools] at hmk
      have os := Own.of_made hmk
      rw [← HM2.out, ← fill_zero f m] at os
      have FS : Hid (FillByRel w vn wr.heap.size A m c f (.int .i64 0) w4) := ⟨0, Nat.zero_le _, rfl, grown_trans G.out k4, OB.out.kept k4, os⟩
      subst hwo
      generalize hgb : wo.heap.size = gb at *
      have hgw : w.heap.size < gb := hsz
      clear hmk k4 os G OB p0 p1 hgb
      go_wp2
      go_loopw [7] (fun i wi => FillByRel w vn gb A m c f i wi) (fun i _ => m - (intOf i).toNat)
      case atStart => exact FS.out
      case round =>
        clear FS
        obtain ⟨q, hq, rfl, hg, ob, os⟩ := hrel
        have G := Lib.hid hg
        have OB := Lib.hid ob
        have OS := Lib.hid os
        have hls := os.lt
        obtain ⟨p0, p1⟩ := ob.two
        clear hg ob os
        by_cases hqm : q < m
        · obtain ⟨bf, of, rfl, hbf, hcell⟩ := HY.out.at_ (by omega)
          have d0 := kept G.out (hcell q hqm)
          have b0 := OS.out.cell (2 * q)
          rw [bools_at (by rw [fill_len]; omega)] at b0
          have f0 := OS.out.frozen (2 * q)
          have PU := OS.out.put (i := 2 * q) (.bool (decide (0 < f[q]?.getD 0)))
          rw [bools_set, fill_next] at PU
          have PUT := Lib.hid PU
          have G2 := Lib.hid (grown_new (i := 2 * q) G.out (show w.heap.size ≤ gb by omega) (.bool (decide (0 < f[q]?.getD 0))))
          have O2 := Lib.hid (OB.out.setOther (k := gb) (j := 2 * q) (by omega) (.bool (decide (0 < f[q]?.getD 0))))
          obtain ⟨q2, hq2⟩ : ∃ q2, 2 * q = q2 := ⟨_, rfl⟩
          have hwq : IntKind.i64.wrap (2 * (q : Int)) = (q2 : Int) := by rw [IntWalk.i64_in _ (by omega)]; omega
          have hq2m : q2 < m2 := by have := HM2.out; omega
          rw [hq2] at b0 f0 PUT G2 O2
          clear hcell hq2 PU
          generalize f[q]?.getD 0 = x at *
          by_cases hx : 0 < x
          · have q1 : decide (0 < x) = true := decide_eq_true hx
            rw [q1] at PUT G2 O2
            clear q1
            go_wp2
            go_roundw
            case rel => exact ⟨q + 1, by omega, by go_num, G2.out, O2.out, PUT.out⟩
            case measure => simp [intOf]; omega
          · have q1 : decide (0 < x) = false := decide_eq_false hx
            rw [q1] at PUT G2 O2
            clear q1
            go_wp2
            go_roundw
            case rel => exact ⟨q + 1, by omega, by go_num, G2.out, O2.out, PUT.out⟩
            case measure => simp [intOf]; omega
        · obtain rfl : q = m := by omega
          obtain ⟨bf, of, rfl, hbf, hcell⟩ := HY.out.at_ (by omega)
          have d0 := kept G.out (hcell k hlt)
          obtain ⟨b2, off2, hA2, hb2, hcell2⟩ := HR.out.cells (by omega)
          subst hA2
          obtain ⟨e0', e1', _⟩ := hcell2 k hlt
          have e0' := kept G.out e0'
          have e1' := kept G.out e1'
          have hj := may_joins HMAY.out (i := k) (by rw [HL.out]; exact hlt)
          obtain ⟨j0, j1, j2, j3, _⟩ := hj
          have NO2 : Hid ((0 < f[k]?.getD 0 ∧ Led ls f (at3 ls k).2.1 (at3 ls k).1 → CycP ls f) ∧ (¬ (0 < f[k]?.getD 0 ∧ Led ls f (at3 ls k).2.1 (at3 ls k).1) → ∀ j, j < k + 1 → ¬ (0 < f[j]?.getD 0 ∧ Led ls f (at3 ls j).2.1 (at3 ls j).1))) := by
            refine ⟨fun h => ⟨k, by rw [HL.out]; exact hlt, h.1, h.2⟩, fun h j hj => ?_⟩
            by_cases e : j = k
            · subst e; exact h
            · exact NO.out j (by omega)
          have CW : Hid (∀ wx : World, wr.grownBy wx none → Calls Try.prog 34 #[.agg #[.int .i64 (vn : Nat), .slice (some ⟨b2, off2, none⟩) q c], .slice (some ⟨gb, 0, none⟩) m2 m2, .int .i64 (at3 ls k).2.1, .int .i64 (at3 ls k).1] wx (Tells wx (Led ls f (at3 ls k).2.1 (at3 ls k).1))) := fun wx g => by
            have r := RWaysB_any vn (some ⟨b2, off2, none⟩) q c ls gb m2 (fillL f q q) (at3 ls k).2.1.toNat (at3 ls k).1.toNat wx (HR.out.grown hB (grown_trans G.out g)) (by have := (grown_trans G.out g).size; omega) (OS.out.kept g) (fill_len f q q) HMAY.out (by omega) (by omega)
            rw [show (((at3 ls k).2.1.toNat : Nat) : Int) = (at3 ls k).2.1 by omega, show (((at3 ls k).1.toNat : Nat) : Int) = (at3 ls k).1 by omega] at r
            have hl := HL.out
            rw [← hl] at r
            rw [hl, HM2.out] at r
            refine r.mono ?_
            rintro e w' ⟨z, he, hz, hg⟩
            refine ⟨z, he, hz.trans ?_, hg⟩
            subst hl
            rw [← HM2.out]
            exact fill_led
          clear hcell hcell2 j0 j1 j2 j3 NO
          generalize f[k]?.getD 0 = x at *
          generalize hfr : (at3 ls k).1 = fr at *
          generalize hto : (at3 ls k).2.1 = to' at *
          generalize Led ls f to' fr = P at *
          clear hfr hto
          clear HMAY HI HZ0 HZ1 HZ2
          by_cases hx : 0 < x
          case neg =>
            have q1 : decide (0 < x) = false := decide_eq_false hx
            have NO3 := Lib.hid (NO2.out.2 (fun h => hx h.1))
            clear NO2 CW
            go_upto_region 9 with fail
            go_quiet (fail)
            go_wp2
            go_roundw
            case rel => exact ⟨k + 1, by omega, by go_num, by first | exact G.out | exact grown_drew G.out | exact grown_drewN G.out _, by first | exact OB.out | exact OB.out.drewN _, NO3.out⟩
            case measure => simp [intOf]; omega
          case pos =>
            have q1 : decide (0 < x) = true := decide_eq_true hx
            have HS := Lib.hid (show (fun w' : World => w'.cell? ⟨w.heap.size, 0, none⟩ = some (.int .i64 (vn : Nat)) ∧ w'.cell? ⟨w.heap.size, 1, none⟩ = some (.slice (some ⟨b2, off2, none⟩) q c) ∧ w'.cell? ⟨b2, off2 + k * 3, none⟩ = some (.int .i64 fr) ∧ w'.cell? ⟨b2, off2 + k * 3 + 1, none⟩ = some (.int .i64 to') ∧ w'.cell? ⟨bf, of + k, none⟩ = some (.int .i64 x)) wr from ⟨p0, p1, e0', e1', d0⟩)
            have GK := Lib.hid (World.grownBy.refl wr none)
            go_upto_region 9 with fail
            go_region_held3 (fun w' : World => w'.cell? ⟨w.heap.size, 0, none⟩ = some (.int .i64 (vn : Nat)) ∧ w'.cell? ⟨w.heap.size, 1, none⟩ = some (.slice (some ⟨b2, off2, none⟩) q c) ∧ w'.cell? ⟨b2, off2 + k * 3, none⟩ = some (.int .i64 fr) ∧ w'.cell? ⟨b2, off2 + k * 3 + 1, none⟩ = some (.int .i64 to') ∧ w'.cell? ⟨bf, of + k, none⟩ = some (.int .i64 x))
              (exact HS.out)
              (first
                | (go_at_call 34; refine (CW.out _ (by first | exact GK.out | exact grown_drew GK.out | exact grown_drewN GK.out _)).mono ?_; rintro e w8 ⟨z, rfl, hz, g⟩; have HZ := Lib.hid hz; have GK : Hid (wr.grownBy w8 none) := (by first | exact grown_trans GK.out g | exact grown_trans (grown_drew GK.out) g | exact grown_trans (grown_drewN GK.out _) g); have HS := Lib.hid (held5 g HS.out); clear g hz))
            have G2 := Lib.hid (grown_trans G.out GK.out)
            have OB2 := Lib.hid (OB.out.kept GK.out)
            clear p0 p1 e0' e1' d0 HS GK G OB CW
            cases z with
            | false =>
              have NO3 := Lib.hid (NO2.out.2 (fun h => by have := HZ.out.2 h.2; cases this))
              clear NO2 HZ
              go_wp2
              go_roundw
              case rel => exact ⟨k + 1, by omega, by go_num, by first | exact G2.out | exact grown_drew G2.out | exact grown_drewN G2.out _, by first | exact OB2.out | exact OB2.out.drewN _, NO3.out⟩
              case measure => simp [intOf]; omega
            | true =>
              have YES := Lib.hid (NO2.out.1 ⟨hx, HZ.out.1 rfl⟩)
              clear NO2 HZ
              go_wp2
              go_ret
              exact ⟨true, rfl, ⟨fun _ => YES.out, fun _ => rfl⟩, by first | exact G2.out | exact grown_drew G2.out | exact grown_drewN G2.out _⟩
    · obtain rfl : k = m := by omega
      have E : Hid (¬ CycP ls f) := by
        rintro ⟨j, hj, hp, w⟩
        exact NO.out j (by rw [← HL.out]; exact hj) ⟨hp, w⟩
      go_wp2
      go_ret
      exact ⟨false, rfl, ⟨(fun h => by cases h), (fun h => absurd h E.out)⟩, G.out⟩

end Go.Proofs.Ytodjehljnmfbpaa
