/-
  The reference's Rate and Loads.
-/
import Derived.Test.YtodjehljnmfbpaaBundleC
set_option maxRecDepth 20000
namespace Go.Proofs.Ytodjehljnmfbpaa
open Go.RowKit

theorem RRate_any (x : Int) (w : World) : Calls Try.prog 31 #[.int .i64 x] w (Says w (.bool (rateB x))) := by
  go_enter Try.func31, Try.ntmps31
  by_cases h1 : 0 ≤ x
  · by_cases h2 : x ≤ 4611686018427387904
    · go_wp2
      go_ret
      exact ⟨ret_bool (by simp [rateB, h1, h2]), World.grownBy.refl _ _⟩
    · go_wp2
      go_ret
      exact ⟨ret_bool (by simp [rateB, h2]), World.grownBy.refl _ _⟩
  · go_wp2
    go_ret
    exact ⟨ret_bool (by simp [rateB]; omega), World.grownBy.refl _ _⟩

theorem RRateQ_any (x : Int) (q : Bool) (hq : rateB x = q) (w : World) : Calls Try.prog 31 #[.int .i64 x] w fun e w' => e = .returned (.bool q) ∧ w = w' := by
  subst hq
  go_enter Try.func31, Try.ntmps31
  by_cases h1 : 0 ≤ x
  · by_cases h2 : x ≤ 4611686018427387904
    · go_wp2
      go_ret
      exact ⟨ret_bool (by simp [rateB, h1, h2]), rfl⟩
    · go_wp2
      go_ret
      exact ⟨ret_bool (by simp [rateB, h2]), rfl⟩
  · go_wp2
    go_ret
    exact ⟨ret_bool (by simp [rateB]; omega), rfl⟩

theorem held4b {w w1 : World} {k b i j : Nat} {x0 x1 x2 x3 : Value} (g : w.grownBy w1 none) (h : (fun w' : World => w'.cell? ⟨k, 0, none⟩ = some x0 ∧ w'.cell? ⟨k, 1, none⟩ = some x1 ∧ w'.cell? ⟨b, i, none⟩ = some x2 ∧ w'.cell? ⟨b, j, none⟩ = some x3) w) :
    (fun w' : World => w'.cell? ⟨k, 0, none⟩ = some x0 ∧ w'.cell? ⟨k, 1, none⟩ = some x1 ∧ w'.cell? ⟨b, i, none⟩ = some x2 ∧ w'.cell? ⟨b, j, none⟩ = some x3) w1 :=
  ⟨kept g h.1, kept g h.2.1, kept g h.2.2.1, kept g h.2.2.2⟩

def RLoRel (w : World) (gm n m : Nat) (ps : List Pth) (i : Value) (wr : World) : Prop :=
  ∃ k : Nat, k ≤ m ∧ i = .int .i64 (k : Nat) ∧ w.grownBy wr none ∧ Own wr gm 3 (ints (loadsQ n (preQ ps k 0))) ∧ fineL n (preQ ps k 0) = true

def RLoIn (w : World) (gm n k q : Nat) (ps : List Pth) (i : Value) (wr : World) : Prop :=
  ∃ j : Nat, j ≤ q ∧ i = .int .i64 (j : Nat) ∧ w.grownBy wr none ∧ Own wr gm 3 (ints (loadsQ n (preQ ps k j))) ∧ fineL n (preQ ps k j) = true

set_option maxRecDepth 20000 in
set_option maxHeartbeats 4000000 in
theorem RLoads_any (V : Int) (A : Option Addr) (n c : Nat) (L : List Lk) (P : Option Addr) (m d : Nat) (ps : List Pth) (w : World) {B B' : Nat} (h : Lks w B A n L) (hB : B ≤ w.heap.size) (hp : Pths w B' P m ps) (hB' : B' ≤ w.heap.size) :
    Calls Try.prog 15 #[.agg #[.int .i64 V, .slice A n c], .slice P m d] w (SelPost w (loadsV V L ps) (loadsE V L ps)) := by
  have hn := h.small
  have hm := hp.small
  have HL := Lib.hid h.len
  have HLP := Lib.hid hp.len
  have HR := Lib.hid h
  have HP := Lib.hid hp
  have HR1 := Lib.hid (h.grown hB (grow0 w (.cells #[.int .i64 V, .slice A n c] 24)))
  clear h hp
  go_enter Try.func15, Try.ntmps15
  go_wp2_with fail
  refine (RMay_any V A n c L _ HR1.out).mono ?_
  rintro e w1 ⟨rfl, g1⟩
  obtain ⟨g, o2⟩ := box1 [.int .i64 V, .slice A n c] g1
  obtain ⟨c0, c1⟩ := o2.two
  have G := Lib.hid g
  have O2 := Lib.hid o2
  clear g g1 o2 HR1
  cases hmay : mayG V L
  · have E := Lib.hid (loads_form (formB_may (ps := ps) hmay))
    go_wp2
    go_ret2
    exact ⟨.slice none 0 0, ret_sel E.out.1, by rw [E.out.2]; exact Mine.nil _ _, G.out⟩
  by_cases h16 : m ≤ 16
  case neg =>
    have E := Lib.hid (loads_form (formB_len (V := V) (L := L) (ps := ps) (by rw [HLP.out]; exact h16)))
    go_wp2
    go_ret2
    exact ⟨.slice none 0 0, ret_sel E.out.1, by rw [E.out.2]; exact Mine.nil _ _, G.out⟩
  have hn16 : n ≤ 16 := by have := may_small hmay; have := HL.out; omega
  have HMAY := Lib.hid hmay
  have HS : Hid (SoundRel w V A n c m ps (.int .i64 0) w1) := ⟨0, Nat.zero_le _, rfl, G.out, O2.out, rfl⟩
  clear hmay G O2 c0 c1
  go_wp2
  go_loopw [6] (fun i wr => SoundRel w V A n c m ps i wr) (fun i _ => m - (intOf i).toNat)
  case atStart => exact HS.out
  case round =>
    clear HS
    obtain ⟨k, hk, rfl, hg, ob, hall⟩ := hrel
    have G := Lib.hid hg
    have HA := Lib.hid hall
    obtain ⟨c0, c1⟩ := ob.two
    have l1 := ob.lt
    have O := Lib.hid ob
    by_cases hlt : k < m
    · obtain ⟨b, off, X, q, d2, hA, hb, e0, e1, hrow⟩ := HP.out.at_ k hlt
      subst hA
      have hsz := hg.size
      have d0 := kept hg e0
      have d1 := kept hg e1
      have HN := Lib.hid (sound_take (n := n) (ps := ps) (k := k) (by rw [HLP.out]; exact hlt))
      have HX := Lib.hid (sound_stop (n := n) (ps := ps) (k := k) (by rw [HLP.out]; exact hlt))
      have HE : Hid (soundB n (at2 ps k) = (rateB (rt ps k) && linksR n (lk ps k))) := rfl
      have HRW := Lib.hid (hrow.grown hB' hg)
      clear hg hall ob e0 e1 hrow
      generalize rt ps k = r at *
      generalize lk ps k = xs at *
      generalize at2 ps k = p at *
      have HSS : Hid ((fun w' : World => w'.cell? ⟨w.heap.size, 0, none⟩ = some (.int .i64 V) ∧ w'.cell? ⟨w.heap.size, 1, none⟩ = some (.slice A n c) ∧ w'.cell? ⟨b, off + k * 2, none⟩ = some (.int .i64 r) ∧ w'.cell? ⟨b, off + k * 2 + 1, none⟩ = some (.slice X q d2)) wr) := ⟨c0, c1, d0, d1⟩
      have GK := Lib.hid (World.grownBy.refl wr none)
      have HC1 : Hid (∀ wx : World, wr.grownBy wx none → Calls Try.prog 32 #[.agg #[.int .i64 V, .slice A n c], .slice X q d2] wx (Says wx (.bool (linksR n xs)))) := fun wx kx => links_any V A n c X q d2 xs wx (HRW.out.grown (by omega) kx)
      cases hrb : rateB r
      · have E := Lib.hid (loads_form (formB_sound (V := V) (L := L) (ps := ps) (by rw [HL.out]; exact HX.out (by rw [HE.out, hrb]; rfl))))
        have HRB := Lib.hid hrb
        clear HN HX HE hrb
        go_wp2_with fail
        go_quiet ((go_at_call 31; exact quiet_left (RRateQ_any r false HRB.out _)))
        go_wp2
        go_ret2
        exact ⟨.slice none 0 0, ret_sel E.out.1, by rw [E.out.2]; exact Mine.nil _ _, grown_drewN G.out _⟩
      · have HRB := Lib.hid hrb
        cases hl : linksR n xs
        · have E := Lib.hid (loads_form (formB_sound (V := V) (L := L) (ps := ps) (by rw [HL.out]; exact HX.out (by rw [HE.out, hl]; simp))))
          have HLK := Lib.hid hl
          clear HN HX HE hrb hl
          go_wp2_with fail
          go_region_held3 (fun w' : World => w'.cell? ⟨w.heap.size, 0, none⟩ = some (.int .i64 V) ∧ w'.cell? ⟨w.heap.size, 1, none⟩ = some (.slice A n c) ∧ w'.cell? ⟨b, off + k * 2, none⟩ = some (.int .i64 r) ∧ w'.cell? ⟨b, off + k * 2 + 1, none⟩ = some (.slice X q d2)) (exact HSS.out)
            (first
              | (go_at_call 31; refine (RRate_any r _).mono ?_; rintro e w8 ⟨he, g⟩; rw [HRB.out] at he; subst he; have GK : Hid (wr.grownBy w8 none) := (by first | exact grown_trans GK.out g | exact grown_trans (grown_drew GK.out) g | exact grown_trans (grown_drewN GK.out _) g); have HSS := Lib.hid (held4b g HSS.out); clear g)
              | (go_at_call 32; refine (HC1.out _ (by first | exact GK.out | exact grown_drew GK.out | exact grown_drewN GK.out _)).mono ?_; rintro e w8 ⟨he, g⟩; rw [HLK.out] at he; subst he; have GK : Hid (wr.grownBy w8 none) := (by first | exact grown_trans GK.out g | exact grown_trans (grown_drew GK.out) g | exact grown_trans (grown_drewN GK.out _) g); have HSS := Lib.hid (held4b g HSS.out); clear g))
          go_wp2
          go_ret2
          exact ⟨.slice none 0 0, ret_sel E.out.1, by rw [E.out.2]; exact Mine.nil _ _, grown_trans G.out GK.out⟩
        · have E : Hid (soundL n (ps.take (k + 1)) = true) := by rw [Hid, HN.out, HA.out, HE.out, hl, hrb]; rfl
          have HLK := Lib.hid hl
          clear HN HX HE hrb hl
          go_wp2_with fail
          go_region_held3 (fun w' : World => w'.cell? ⟨w.heap.size, 0, none⟩ = some (.int .i64 V) ∧ w'.cell? ⟨w.heap.size, 1, none⟩ = some (.slice A n c) ∧ w'.cell? ⟨b, off + k * 2, none⟩ = some (.int .i64 r) ∧ w'.cell? ⟨b, off + k * 2 + 1, none⟩ = some (.slice X q d2)) (exact HSS.out)
            (first
              | (go_at_call 31; refine (RRate_any r _).mono ?_; rintro e w8 ⟨he, g⟩; rw [HRB.out] at he; subst he; have GK : Hid (wr.grownBy w8 none) := (by first | exact grown_trans GK.out g | exact grown_trans (grown_drew GK.out) g | exact grown_trans (grown_drewN GK.out _) g); have HSS := Lib.hid (held4b g HSS.out); clear g)
              | (go_at_call 32; refine (HC1.out _ (by first | exact GK.out | exact grown_drew GK.out | exact grown_drewN GK.out _)).mono ?_; rintro e w8 ⟨he, g⟩; rw [HLK.out] at he; subst he; have GK : Hid (wr.grownBy w8 none) := (by first | exact grown_trans GK.out g | exact grown_trans (grown_drew GK.out) g | exact grown_trans (grown_drewN GK.out _) g); have HSS := Lib.hid (held4b g HSS.out); clear g))
          go_wp2
          go_roundw
          case rel => exact ⟨k + 1, by omega, by go_num, grown_trans G.out GK.out, O.out.kept GK.out, E.out⟩
          case measure => simp [intOf]; omega
    · obtain rfl : k = m := by omega
      have hso : soundL n ps = true := by
        have := HA.out
        rwa [List.take_of_length_le (by rw [HLP.out]; exact Nat.le_refl _)] at this
      have HSO := Lib.hid hso
      have HF := Lib.hid (formB_yes (V := V) (L := L) (ps := ps) HMAY.out (by rw [HLP.out]; exact h16) (by rw [HL.out]; exact hso))
      obtain ⟨i0, hi, hz0, hz1, hz2⟩ := info_parts info3
      have HI := Lib.hid hi
      have HZ0 := Lib.hid hz0
      have HZ1 := Lib.hid hz1
      have HZ2 := Lib.hid hz2
      clear hi hz0 hz1 hz2 hso hg hall ob HA
      go_upto_region 8 with fail
      go_wp2_with (first | (refine wpList_make_full _ rfl _ _ 25 rfl wr.heap.size 3 i0 (.int .i64 0) 1 Try.underlying25 HI.out HZ0.out HZ1.out .i64 .i64 (n : Int) (n : Int) n rfl rfl rfl rfl (by rw [HZ2.out]; omega) (by unfold maxLen; omega) (Nat.le_refl _) ?_))
      intro w3 hmk k3
      rw [toList_madeCells_one, ints_zero, ← loadsQ_nil, ← preQ_zero ps] at hmk
      have OM := Lib.hid (Own.of_made hmk)
      have HS : Hid (RLoRel w wr.heap.size n k ps (.int .i64 0) w3) := ⟨0, Nat.zero_le _, rfl, grown_trans G.out k3, OM.out, by rw [preQ_zero]; exact fine_nil n⟩
      clear hmk O c0 c1 HI HZ0 HZ1 HZ2 k3 OM G
      generalize wr.heap.size = gm at *
      go_wp2
      go_loopw [8] (fun i wr => RLoRel w gm n k ps i wr) (fun i _ => k - (intOf i).toNat)
      case atStart => exact HS.out
      case round =>
        clear HS
        obtain ⟨a, ha, rfl, hg, om, hfine⟩ := hrel
        have G := Lib.hid hg
        have OM := Lib.hid om
        have HFI := Lib.hid hfine
        have lm := om.lt
        by_cases hlt2 : a < k
        · obtain ⟨b, off, X, q, d2, hA, hb, e0, e1, hrow⟩ := HP.out.at_ a hlt2
          subst hA
          have hq := hrow.small
          have HE0 := Lib.hid e0
          have HE1 := Lib.hid e1
          have HRW := Lib.hid hrow
          have HXL := Lib.hid hrow.len
          have hkl : Hid (a < ps.length) := by rw [Hid, HLP.out]; exact hlt2
          obtain ⟨hrate, _, hall⟩ := sound_at HSO.out hkl.out
          have HALL := Lib.hid hall
          have HST : Hid (∀ j, j < q → preQ ps a (j + 1) = preQ ps a j ++ [(rt ps a, (lk ps a)[j]?.getD 0)]) := fun j hj => preQ_step (by rw [HXL.out]; exact hj)
          have HEND : Hid (preQ ps a q = preQ ps (a + 1) 0) := by have := preQ_row hkl.out; rwa [HXL.out] at this
          have HS : Hid (RLoIn w gm n a q ps (.int .i64 0) wr) := ⟨0, Nat.zero_le _, rfl, hg, om, hfine⟩
          clear hg om hfine e0 e1 hrow hall
          generalize rt ps a = r at *
          generalize lk ps a = xs at *
          go_wp2
          go_loopw [9] (fun i wr => RLoIn w gm n a q ps i wr) (fun i _ => q - (intOf i).toNat)
          case atStart => exact HS.out
          case round =>
            clear HS G OM HFI
            obtain ⟨j, hj, rfl, hg, om, hfine⟩ := hrel
            have G := Lib.hid hg
            have OM := Lib.hid om
            have lm2 := om.lt
            have d0 := kept hg HE0.out
            have d1 := kept hg HE1.out
            by_cases hlj : j < q
            · obtain ⟨px, ox, hX, hp, hcell⟩ := HRW.out.at_ (by omega)
              subst hX
              have g0 := kept hg (hcell j hlj)
              obtain ⟨l, hl, hlx⟩ := allL_get HALL.out (i := j) (by rw [HXL.out]; exact hlj)
              rw [hlx] at g0
              have HNX : Hid (preQ ps a (j + 1) = preQ ps a j ++ [(r, (l : Int))]) := by rw [Hid, HST.out j hlj, hlx]
              have f0 : wr.cell? ⟨gm, l, none⟩ = some (.int .i64 (loadQ (l : Int) (preQ ps a j))) := by rw [om.cell l, ints_get _ l (by rw [loadsQ_len]; exact hl), loadsQ_get hl]
              have ff := om.frozen l
              have hnn := loadQ_nonneg (preQ_nonneg j hkl.out HSO.out) (l : Int)
              have hle := fine_get hfine hl
              have HSET := Lib.hid (loadsQ_step hl (preQ ps a j) r)
              have HFS := Lib.hid (fine_step (r := r) hl hfine)
              have HOV := Lib.hid (over_no (n := n) (ps := ps) (i := a) (j + 1) hkl.out HSO.out hl)
              rw [HNX.out, loadQ_app] at HOV
              have hbg : ¬ gm = b := by omega
              have hbg2 : ¬ gm = px := by omega
              clear hg om hfine hcell
              generalize preQ ps a j = qs at *
              generalize hms : loadsQ n qs = ms at *
              clear hms
              generalize loadQ (l : Int) qs = t at *
              have hw1 : IntKind.i64.wrap (4611686018427387904 - t) = 4611686018427387904 - t := IntWalk.i64_in _ (by omega)
              by_cases hc : r ≤ 4611686018427387904 - t
              · have HF2 := Lib.hid (HFS.out (by omega))
                have hc2 : ¬ 4611686018427387904 - t < r := by omega
                have hw2 : IntKind.i64.wrap (t + r) = t + r := IntWalk.i64_in _ (by omega)
                clear HFS HOV
                go_wp2_with fail
                go_quiet (fail)
                go_wp2_with fail
                have G := Lib.hid (grown_drewN G.out nq)
                have OM : Hid (Own (wr.drewN nq) gm 3 (ints ms)) := OM.out
                have d0 : (wr.drewN nq).cell? ⟨b, off + a * 2, none⟩ = some (.int .i64 r) := d0
                have f0 : (wr.drewN nq).cell? ⟨gm, l, none⟩ = some (.int .i64 t) := f0
                have ff : (wr.drewN nq).frozen? ⟨gm, l, none⟩ = false := ff
                clear g0 d1
                generalize wr.drewN nq = wq at *
                go_still_tail 13, (by kernel_rfl)
                go_wp2
                have k3 : wq.grownBy (wq.setCell ⟨gm, l, none⟩ (.int .i64 (t + r))).drew (some gm) := grown_drew (grown_set (World.grownBy.refl wq _) _)
                go_roundw
                case rel => exact ⟨j + 1, by omega, by go_num, grown_none G.out k3 (fun g hg => by injection hg with hg; omega), by rw [HNX.out, HSET.out, ← ints_set]; exact (OM.out.setAt _ _).kept (grown_drew (World.grownBy.refl _ none)), by rw [HNX.out]; exact HF2.out⟩
                case measure => simp [intOf]; omega
              · have E := Lib.hid (loads_over HF.out (by rw [HL.out]; exact HOV.out (by simp only [loadQ]; simp; omega)))
                have hc2 : 4611686018427387904 - t < r := by omega
                clear HFS HOV hc
                go_wp2_with fail
                go_quiet (fail)
                go_wp2
                go_ret2
                exact ⟨.slice none 0 0, ret_sel E.out.1, by rw [E.out.2]; exact Mine.nil _ _, grown_drewN G.out _⟩
            · obtain rfl : j = q := by omega
              rw [HEND.out] at om hfine
              have OM := Lib.hid om
              have HFI := Lib.hid hfine
              clear hg om hfine
              go_wp2
              go_roundw
              case rel => exact ⟨a + 1, by omega, by go_num, G.out, OM.out, HFI.out⟩
              case measure => simp [intOf]; omega
        · obtain rfl : a = k := by omega
          have e : preQ ps a 0 = pairsOf ps := by rw [← HLP.out]; exact preQ_all ps
          rw [e] at om hfine
          have HV := Lib.hid (loads_goes HF.out (by rw [HL.out]; exact hfine))
          rw [HL.out] at HV
          have HMI := Lib.hid (Own.mine (base := w.heap.size) om (by omega) (loadsQ_len n _) (by omega))
          clear e hg om hfine
          go_wp2
          go_ret2
          exact ⟨_, ret_sel HV.out.1, by rw [HV.out.2, loadsQ_len]; exact HMI.out, G.out⟩

end Go.Proofs.Ytodjehljnmfbpaa
