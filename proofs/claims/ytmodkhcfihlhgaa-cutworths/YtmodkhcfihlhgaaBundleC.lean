/-
  bundle.Loads.
-/
import Derived.Test.YtmodkhcfihlhgaaBundleB
namespace Go.Proofs.Ytmodkhcfihlhgaa
open Go.RowKit

theorem Own.of_made {w : World} {base g n : Nat} {T : TypeId} {xs : List Value} (h : w.ownsRow base T 1 (.slice (some ⟨g, 0, none⟩) n n) n xs) : Own w g T xs := by
  rcases h.2 with ⟨hv, _⟩ | ⟨g', cap, cur, hv, _, hh, _, _, hsz, htk⟩
  · cases hv
  · injection hv with e1 e2 e3
    injection e1 with e1
    injection e1 with e1 _
    subst e1 e3
    have : cur.toList.take (n * 1) = cur.toList := List.take_of_length_le (by simp [hsz])
    rw [this] at htk
    unfold Own
    rw [← htk]
    simpa using hh

theorem infoMeter : (Try.prog.info? 81).map (fun i => (i.zero, i.size, i.bytes)) = some (some (.agg #[.int .i64 0]), 1, 8) := by kernel_rfl

def LoRel (w : World) (gm n m : Nat) (ps : List Pth) (i : Value) (wr : World) : Prop :=
  ∃ k : Nat, k ≤ m ∧ i = .int .i64 (k : Nat) ∧ w.grownBy wr none ∧ Own wr gm 81 (ints (loadsQ n (preQ ps k 0))) ∧ fineL n (preQ ps k 0) = true

def LoIn (w : World) (gm gp n k q : Nat) (ps : List Pth) (vs : List Value) (i : Value) (wr : World) : Prop :=
  ∃ j : Nat, j ≤ q ∧ i = .int .i64 (j : Nat) ∧ w.grownBy wr none ∧ Own wr gm 81 (ints (loadsQ n (preQ ps k j))) ∧ fineL n (preQ ps k j) = true ∧ Own wr gp 51 vs

def LoOut (w : World) (gm n : Nat) (ms : List Int) (o i : Value) (wr : World) : Prop :=
  ∃ k : Nat, k ≤ n ∧ i = .int .i64 (k : Nat) ∧ w.grownBy wr none ∧ Own wr gm 81 (ints ms) ∧ Mine wr (gm + 1) o k (ms.take k)

theorem ints_zero (n : Nat) : List.replicate n (Value.int .i64 0) = ints (List.replicate n 0) := by simp [ints]

theorem ret_sel' {v : Value} {a b : Int} (h : b = a) : Ending.returned (.tuple #[v, .int .i64 a]) = .returned (.tuple #[v, .int .i64 b]) := by rw [h]

set_option maxRecDepth 20000 in
set_option maxHeartbeats 2000000 in
theorem Loads_any (V : Int) (A : Option Addr) (n c : Nat) (L : List Lk) (P : Option Addr) (m d : Nat) (ps : List Pth) (w : World) {B B' : Nat} (h : Lks w B A n L) (hB : B ≤ w.heap.size) (hp : Pths w B' P m ps) (hB' : B' ≤ w.heap.size) :
    Calls Try.prog 17 #[.agg #[.int .i64 V, .slice A n c], .slice P m d] w (SelPost w (loadsV V L ps) (loadsE V L ps)) := by
  have hn := h.small
  have hm := hp.small
  have HL := Lib.hid h.len
  have HLP := Lib.hid hp.len
  have HR := Lib.hid h
  have HP := Lib.hid hp
  have HR1 := Lib.hid (h.grown hB (grow0 w (.cells #[.int .i64 V, .slice A n c] 24)))
  clear h hp
  go_enter Try.func17, Try.ntmps17
  go_wp2_with fail
  refine (GMay_any V A n c L _ HR1.out (by simp; omega)).mono ?_
  rintro e w1 ⟨rfl, g1⟩
  obtain ⟨g, o2⟩ := box1 [.int .i64 V, .slice A n c] g1
  obtain ⟨c0, c1⟩ := o2.two
  have G := Lib.hid g
  have O2 := Lib.hid o2
  clear g g1 o2 HR1
  cases hmay : mayG V L
  · have E := Lib.hid (loads_form (formB_may (ps := ps) hmay))
    go_wp2
    go_ret2
    exact ⟨.slice none 0 0, ret_sel E.out.1, by rw [E.out.2]; exact Mine.nil _ _, G.out⟩
  by_cases h16 : m ≤ 16
  case neg =>
    have E := Lib.hid (loads_form (formB_len (V := V) (L := L) (ps := ps) (by rw [HLP.out]; exact h16)))
    go_wp2
    go_ret2
    exact ⟨.slice none 0 0, ret_sel E.out.1, by rw [E.out.2]; exact Mine.nil _ _, G.out⟩
  go_wp2_with fail
  refine (areSound_any V A n c L P m d ps _ (HR.out.grown hB G.out) (by have := G.out.size; omega) (HP.out.grown hB' G.out) (by have := G.out.size; omega) hmay).mono ?_
  rintro e w2 ⟨rfl, g2⟩
  have O2 := Lib.hid (O2.out.kept g2)
  have G := Lib.hid (grown_trans G.out g2)
  clear g2 c0 c1
  obtain ⟨c0, c1⟩ := O2.out.two
  cases hso : soundL n ps
  · have E := Lib.hid (loads_form (formB_sound (V := V) (L := L) (ps := ps) (by rw [HL.out]; exact hso)))
    go_wp2
    go_ret2
    exact ⟨.slice none 0 0, ret_sel E.out.1, by rw [E.out.2]; exact Mine.nil _ _, G.out⟩
  have HSO := Lib.hid hso
  have HF := Lib.hid (formB_yes (V := V) (L := L) (ps := ps) hmay (by rw [HLP.out]; exact h16) (by rw [HL.out]; exact hso))
  have hn16 : n ≤ 16 := by have := may_small hmay; have := HL.out; omega
  obtain ⟨i0, hi, hz0, hz1, hz2⟩ := info_parts infoMeter
  have HI := Lib.hid hi
  have HZ0 := Lib.hid hz0
  have HZ1 := Lib.hid hz1
  have HZ2 := Lib.hid hz2
  clear hi hz0 hz1 hz2 hmay hso
  go_upto_region 3 with fail
  go_wp2_with (first | (refine wpList_make_full _ rfl _ _ 79 rfl w2.heap.size 81 i0 (.agg #[.int .i64 0]) 1 Try.underlying79 HI.out HZ0.out HZ1.out .i64 .i64 (n : Int) (n : Int) n rfl rfl rfl rfl (by rw [HZ2.out]; omega) (by unfold maxLen; omega) (Nat.le_refl _) ?_))
  intro w3 hmk k3
  rw [toList_madeCells_one, ints_zero, ← loadsQ_nil, ← preQ_zero ps] at hmk
  have OM := Lib.hid (Own.of_made hmk)
  have hgm := O2.out.lt
  have HS : Hid (LoRel w w2.heap.size n m ps (.int .i64 0) w3) := ⟨0, Nat.zero_le _, rfl, grown_trans G.out k3, OM.out, by rw [preQ_zero]; exact fine_nil n⟩
  clear hmk O2 c0 c1 HI HZ0 HZ1 HZ2 k3 OM G
  generalize w2.heap.size = gm at *
  go_wp2
  go_loopw [33] (fun i wr => LoRel w gm n m ps i wr) (fun i _ => m - (intOf i).toNat)
  case atStart => exact HS.out
  case round =>
    clear HS
    obtain ⟨k, hk, rfl, hg, om, hfine⟩ := hrel
    have G := Lib.hid hg
    have OM := Lib.hid om
    have HFI := Lib.hid hfine
    have lm := om.lt
    by_cases hlt : k < m
    · obtain ⟨b, off, X, q, d2, hA, hb, e0, e1, hrow⟩ := HP.out.at_ k hlt
      subst hA
      have hq := hrow.small
      have hsz := hg.size
      have d0 := kept hg e0
      have d1 := kept hg e1
      have HRW := Lib.hid hrow
      have HXL := Lib.hid hrow.len
      have hkl : Hid (k < ps.length) := by rw [Hid, HLP.out]; exact hlt
      obtain ⟨hrate, _, hall⟩ := sound_at HSO.out hkl.out
      have HALL := Lib.hid hall
      have HST : Hid (∀ j, j < q → preQ ps k (j + 1) = preQ ps k j ++ [(rt ps k, (lk ps k)[j]?.getD 0)]) := fun j hj => preQ_step (by rw [HXL.out]; exact hj)
      have HEND : Hid (preQ ps k q = preQ ps (k + 1) 0) := by have := preQ_row hkl.out; rwa [HXL.out] at this
      have HS : Hid (LoIn w gm wr.heap.size n k q ps [.int .i64 (rt ps k), .slice X q d2] (.int .i64 0) (wr.alloc (.cells #[.int .i64 (rt ps k), .slice X q d2] 51))) :=
        ⟨0, Nat.zero_le _, rfl, grown_alloc hg _, om.alloc _, hfine, Own.new wr 51 [.int .i64 (rt ps k), .slice X q d2]⟩
      clear hg om hfine e0 e1 hrow hall
      generalize rt ps k = r at *
      generalize lk ps k = xs at *
      go_wp2
      generalize wr.heap.size = gp at *
      go_loopw [40] (fun i wr' => LoIn w gm gp n k q ps [.int .i64 r, .slice X q d2] i wr') (fun i _ => q - (intOf i).toNat)
      case atStart => exact HS.out
      case round =>
        clear HS G OM HFI d0 d1
        obtain ⟨j, hj, rfl, hg, om, hfine, op⟩ := hrel
        have G := Lib.hid hg
        have OM := Lib.hid om
        have OP := Lib.hid op
        have lm2 := om.lt
        have lp := op.lt
        obtain ⟨f0, f1⟩ := op.two
        by_cases hlj : j < q
        · obtain ⟨px, ox, hX, hp, hcell⟩ := HRW.out.at_ (by omega)
          subst hX
          have g0 := kept hg (hcell j hlj)
          obtain ⟨l, hl, hlx⟩ := allL_get HALL.out (i := j) (by rw [HXL.out]; exact hlj)
          rw [hlx] at g0
          have HNX : Hid (preQ ps k (j + 1) = preQ ps k j ++ [(r, (l : Int))]) := by rw [Hid, HST.out j hlj, hlx]
          have HLQ := Lib.hid (loadsQ_get hl (preQ ps k j))
          have hnn := loadQ_nonneg (preQ_nonneg j hkl.out HSO.out) (l : Int)
          have hle := fine_get hfine hl
          have HLEN : Hid (l < (loadsQ n (preQ ps k j)).length) := by rw [Hid, loadsQ_len]; exact hl
          have HSET := Lib.hid (loadsQ_step hl (preQ ps k j) r)
          have HFS := Lib.hid (fine_step (r := r) hl hfine)
          have HOV := Lib.hid (over_no (n := n) (ps := ps) (i := k) (j + 1) hkl.out HSO.out hl)
          rw [HNX.out, loadQ_app] at HOV
          have HSS := Lib.hid f0
          have HRO : Hid (Row (wr.alloc (.cells #[.int .i64 r] 3)).drew (wr.heap.size + 1) (some ⟨wr.heap.size, 0, none⟩) 1 [r]) := (Row.newAt (w := wr) [r] rfl rfl rfl (by simp) (by simp; omega)).keep fun _ _ => rfl
          have GA : Hid (w.grownBy (wr.alloc (.cells #[.int .i64 r] 3)).drew none) := grown_drew (grown_alloc hg _)
          have OA : Hid (Own (wr.alloc (.cells #[.int .i64 r] 3)).drew gm 81 (ints (loadsQ n (preQ ps k j)))) := om.kept (grown_drew (grow0 _ _))
          have OPA : Hid (Own (wr.alloc (.cells #[.int .i64 r] 3)).drew gp 51 [.int .i64 r, .slice (some ⟨px, ox, none⟩) q d2]) := op.kept (grown_drew (grow0 _ _))
          have FA : Hid ((wr.alloc (.cells #[.int .i64 r] 3)).drew.cell? ⟨gp, 0, none⟩ = some (.int .i64 r)) := kept (grown_drew (grow0 _ _)) f0
          clear hg om hfine op hcell f1 OM OP
          generalize preQ ps k j = qs at *
          generalize hms : loadsQ n qs = ms at *
          clear hms
          generalize loadQ (l : Int) qs = t at *
          by_cases hc : 0 ≤ r ∧ r ≤ 4611686018427387904 - t
          · obtain ⟨ea, eb⟩ := add_one hc
            have EA := Lib.hid ea
            have EB := Lib.hid eb
            have HF2 := Lib.hid (HFS.out (by omega))
            clear ea eb HFS HOV
            go_wp2_with fail
            go_region_held3 (fun w' : World => w'.cell? ⟨gp, 0, none⟩ = some (.int .i64 r)) (first | exact HSS.out | exact kept (grow0 _ _) HSS.out | exact kept (grown_drew (grow0 _ _)) HSS.out)
              (first
                | (go_at_call 56; refine (MeterAddAt_any gm l 81 ms _ 1 1 [r] _ HRO.out OA.out HLEN.out (by rw [HLQ.out]; omega) (by rw [HLQ.out]; omega)).mono ?_; rintro e w4 ⟨he, om4, hg4⟩; rw [HLQ.out, EB.out] at he; rw [HLQ.out, EA.out] at om4; subst he; have OM4 := Lib.hid om4; have GG := Lib.hid hg4; have HSS := Lib.hid (far hg4 (by simp; omega) FA.out); clear om4 hg4))
            go_wp2
            go_roundw
            case rel => exact ⟨j + 1, by omega, by go_num, grown_none GA.out GG.out (by intro g hg; injection hg with hg; omega), by rw [HNX.out, HSET.out]; exact OM4.out, by rw [HNX.out]; exact HF2.out, OPA.out.kept' GG.out (by simp; omega)⟩
            case measure => simp [intOf]; omega
          · have EB := Lib.hid (add_one_no hc)
            have E := Lib.hid (loads_over HF.out (by rw [HL.out]; exact HOV.out (by simp only [loadQ]; simp; omega)))
            clear HFS HOV
            go_wp2_with fail
            go_region_held3 (fun w' : World => w'.cell? ⟨gp, 0, none⟩ = some (.int .i64 r)) (first | exact HSS.out | exact kept (grow0 _ _) HSS.out | exact kept (grown_drew (grow0 _ _)) HSS.out)
              (first
                | (go_at_call 56; refine (MeterAddAt_any gm l 81 ms _ 1 1 [r] _ HRO.out OA.out HLEN.out (by rw [HLQ.out]; omega) (by rw [HLQ.out]; omega)).mono ?_; rintro e w4 ⟨he, om4, hg4⟩; rw [HLQ.out, EB.out] at he; subst he; have GG := Lib.hid hg4; have HSS := Lib.hid (far hg4 (by simp; omega) FA.out); clear om4 hg4))
            go_wp2
            go_ret2
            exact ⟨.slice none 0 0, ret_sel E.out.1, by rw [E.out.2]; exact Mine.nil _ _, grown_none GA.out GG.out (by intro g hg; injection hg with hg; omega)⟩
        · obtain rfl : j = q := by omega
          rw [HEND.out] at om hfine
          have OM := Lib.hid om
          have HFI := Lib.hid hfine
          clear hg om hfine op f0 f1
          go_wp2
          go_roundw
          case rel => exact ⟨k + 1, by omega, by go_num, G.out, OM.out, HFI.out⟩
          case measure => simp [intOf]; omega
    · obtain rfl : k = m := by omega
      have e : preQ ps k 0 = pairsOf ps := by rw [← HLP.out]; exact preQ_all ps
      rw [e] at om hfine
      have HV := Lib.hid (loads_goes HF.out (by rw [HL.out]; exact hfine))
      rw [HL.out] at HV
      have HLEN := Lib.hid (loadsQ_len n (pairsOf ps))
      have HBD : Hid (∀ i : Nat, 0 ≤ (loadsQ n (pairsOf ps))[i]?.getD 0 ∧ (loadsQ n (pairsOf ps))[i]?.getD 0 ≤ 4611686018427387904) := fun i => by rw [← HV.out.2]; exact loads_bd i
      generalize hms : loadsQ n (pairsOf ps) = ms at *
      have HS : Hid (LoOut w gm n ms (.slice none 0 0) (.int .i64 0) wr) := ⟨0, Nat.zero_le _, rfl, hg, om, Mine.nil _ _⟩
      clear hms hg om hfine G OM HFI e
      go_wp2
      go_loopw [11, 56] (fun o i wr => LoOut w gm n ms o i wr) (fun _ i _ => n - (intOf i).toNat)
      case atStart => exact HS.out
      case round =>
        clear HS
        obtain ⟨j, hj, rfl, hg, om, hmine⟩ := hrel
        have G := Lib.hid hg
        have OM := Lib.hid om
        have HM := Lib.hid hmine
        have lm2 := om.lt
        have hsz := hg.size
        by_cases hlj : j < n
        · have f0 : wr.cell? ⟨gm, j, none⟩ = some (.int .i64 (ms[j]?.getD 0)) := by rw [om.cell j, ints_get ms j (by rw [HLEN.out]; exact hlj)]
          have HT : Hid (ms.take (j + 1) = ms.take j ++ [ms[j]?.getD 0]) := take_next (by rw [HLEN.out]; exact hlj)
          have hb0 := HBD.out j
          clear hg om hmine
          generalize ms[j]?.getD 0 = x at *
          go_wp2_with fail
          refine (TotalAt_any gm j x _ f0).mono ?_
          rintro e w5 ⟨rfl, rfl⟩
          go_wp2_with (first | (at_builtin; refine wpList_app _ rfl _ _ rfl (gm + 1) _ j _ rfl (HM.out.kept (grow0 _ _)) _ 1 1 [x] rfl (Row.newAt [x] rfl rfl rfl (by simp) (by simp; omega)) (by simp) (by omega) (by simp; omega) ?_))
          intro v1 w6 hm1 hg3 _
          have G3 := Lib.hid (grown_none (grown_alloc G.out _) hg3 (fun g hg => by have := HM.out.own_ge g hg; omega))
          have OM3 := Lib.hid ((OM.out.alloc _).kept' hg3 HM.out.apart)
          have HM3 := Lib.hid hm1
          clear hm1 hg3
          go_wp2
          go_roundw
          case rel => exact ⟨j + 1, by omega, by go_num, G3.out, OM3.out, by rw [HT.out]; exact HM3.out⟩
          case measure => simp [intOf]; omega
        · obtain rfl : j = n := by omega
          rw [List.take_of_length_le (by rw [HLEN.out]; exact Nat.le_refl _)] at HM
          clear hg om hmine
          go_wp2
          go_ret2
          exact ⟨_, ret_sel HV.out.1, by rw [HV.out.2, HLEN.out]; exact HM.out.wide (by omega), G.out⟩

end Go.Proofs.Ytmodkhcfihlhgaa
