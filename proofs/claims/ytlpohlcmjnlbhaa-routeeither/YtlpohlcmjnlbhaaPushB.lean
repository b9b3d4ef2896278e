/-
  (*block.pusher).push, walked.
-/
import Derived.Test.YtlpohlcmjnlbhaaPushA
set_option maxRecDepth 20000
namespace Go.Proofs.Ytlpohlcmjnlbhaa
open Go.RowKit

def rowLen (w : World) (g v : Nat) : Nat := match w.cell? ⟨g, v, none⟩ with
  | some (.slice _ n _) => n
  | _ => 0

theorem len_of {w : World} {g v : Nat} {A : Option Addr} {n c : Nat} (h : w.cell? ⟨g, v, none⟩ = some (.slice A n c)) : rowLen w g v = n := by rw [rowLen, h]

def PushPost (w : World) (N : Net) (q gO base : Nat) (Hz : Option Addr) (ch : Nat) (rA : Option Addr) (rc : Nat) (v most : Int) (R : List Int) (O : List (List Int)) (e : Ending) (w' : World) : Prop :=
  ∃ (k : Int) (R' : List Int) (O' : List (List Int)) (vs' : List Value), e = .returned (.int .i64 k) ∧ PL N v most R O k R' O' ∧ (k = most ∨ ¬ To N R' v) ∧ Pst w' N q gO base Hz ch rA rc vs' R' O' ∧ Trn w w' (rBlk rA) gO

def PushRel (w : World) (N : Net) (q gO base : Nat) (Hz : Option Addr) (ch : Nat) (rA : Option Addr) (rc : Nat) (v most : Int) (R : List Int) (O : List (List Int)) (i : Value) (wr : World) : Prop :=
  ∃ (k : Int) (R' : List Int) (O' : List (List Int)) (vs' : List Value), i = .int .i64 k ∧ PL N v most R O k R' O' ∧ Pst wr N q gO base Hz ch rA rc vs' R' O' ∧ Trn w wr (rBlk rA) gO

theorem PI.bd {N : Net} (ok : N.Ok) {R : List Int} {O : List (List Int)} (h : PI N R O) {a : Nat} (ha : a < 2 * N.n) : 0 ≤ rAt R a ∧ 0 ≤ rAt R (flipN a) ∧ rAt R a + rAt R (flipN a) ≤ 4611686018427387904 := by
  have h1 := h.low a ha
  have h2 := h.low _ (flip_lt ha)
  have h3 := h.pair a ha
  obtain ⟨f1, f2, _, _⟩ := fits_parts (flow_parts ok.flow).1
  have h4 := (f_bd f2 (k := a / 2) (by rw [ok.hl]; omega)).2
  have h5 := may_sum f1 (a / 2 + 1) (by rw [ok.hl]; omega)
  have h6 := (gk_bd (f := N.caps) 0 f2 (a / 2) (by rw [ok.hl]; omega)).1
  rw [capSum] at h5
  omega

theorem push_held {w2 : World} {N : Net} {q gO base nn bh offh ch g rc hn a : Nat} {us2 : List Value} {R1 R2 : List Int} {O1 O2 : List (List Int)} {k2 m rr : Int} (HNN : N.n = nn) (hs : N.stp a) (ha : a < 2 * nn) (hh : N.hd a = (hn : Int)) (hlv : N.lev (N.tl a) < N.lev (hn : Int)) (hrr : rAt R1 a = rr)
    (hp : PL N (hn : Int) m R1 O1 k2 R2 O2) (ps : Pst w2 N q gO base (some ⟨bh, offh, none⟩) ch (some ⟨g, 0, none⟩) rc us2 R2 O2) :
    w2.cell? ⟨q, 1, none⟩ = some (.slice (some ⟨bh, offh, none⟩) (2 * nn) ch) ∧ w2.cell? ⟨q, 2, none⟩ = some (.slice (some ⟨g, 0, none⟩) (2 * nn) rc) ∧ w2.cell? ⟨bh, offh + a, none⟩ = some (.int .i64 (hn : Nat)) ∧ w2.cell? ⟨g, a, none⟩ = some (.int .i64 rr) := by
  subst HNN
  obtain ⟨c0, c1, c2, c3⟩ := ps.oq.four
  have d1 := ps.hh.cellAt (i := a) ha
  rw [heads_at N.ls _ a ha, show headOf N.ls a = (hn : Int) from hh] at d1
  have d2 := ps.rm.cellAt (i := a) ha
  rw [hp.keepR a ha hs hlv, hrr] at d2
  exact ⟨c1, c2, d1, d2⟩

theorem len_set {w : World} {g v : Nat} {x : Value} (h : w.cell? ⟨g, v, none⟩ = some x) (A : Option Addr) (n c : Nat) : rowLen (w.setCell ⟨g, v, none⟩ (.slice A n c)).drew g v = n :=
  len_of (w := w.setCell ⟨g, v, none⟩ (.slice A n c)) (World.cell?_setCell_same' _ _ _ (by rw [h]; rfl))

/-- The first open arc of v is left out. -/
theorem Pst.tailO {w : World} {N : Net} {q gO base : Nat} {Hz : Option Addr} {ch : Nat} {rA : Option Addr} {rc : Nat} {vs : List Value} {R : List Int} {O : List (List Int)} (p : Pst w N q gO base Hz ch rA rc vs R O) (hO : O.length = N.V) {v : Nat} (hv : v < N.V) {b off c : Nat} {x : Int} {rest : List Int} (hr : Row w w.heap.size (some ⟨b, off, none⟩) (rest.length + 1) (x :: rest)) (ho : OffR (some ⟨b, off, none⟩) (rest.length + 1) (rBlk rA)) (hc : rest.length + 1 ≤ c) :
    Pst (w.setCell ⟨gO, v, none⟩ (.slice (some ⟨b, off + 1, none⟩) rest.length (c - 1))).drew N q gO base Hz ch rA rc (vs.set v (.slice (some ⟨b, off + 1, none⟩) rest.length (c - 1))) R (O.set v rest) := by
  have h1 := hr.tail (A' := some ⟨b, off + 1, none⟩) (k := 1) (by omega) (fun _ => by simp [add_at])
  rw [Nat.add_sub_cancel, List.drop_succ_cons, List.drop_zero] at h1
  refine (p.setO hO hv rfl (by omega) h1 (fun _ a ha => ?_)).drew
  have := ho (by omega) ⟨b, off, none⟩ rfl
  have := Option.some.inj ha
  subst this
  assumption

theorem Pst.tail0 {w : World} {N : Net} {q gO base : Nat} {Hz : Option Addr} {ch : Nat} {rA : Option Addr} {rc : Nat} {vs : List Value} {R : List Int} {O : List (List Int)} (p : Pst w N q gO base Hz ch rA rc vs R O) (hO : O.length = N.V) {v : Nat} (hv : v < N.V) {A : Option Addr} {rest : List Int} (hr : rest = []) :
    Pst (w.setCell ⟨gO, v, none⟩ (.slice A rest.length 0)).drew N q gO base Hz ch rA rc (vs.set v (.slice A rest.length 0)) R (O.set v rest) := by
  subst hr
  exact (p.setO hO hv rfl (by simp) ⟨rfl, by simp, fun i => by simp, fun h => absurd h (by simp)⟩ (fun h => absurd h (by simp))).drew

set_option maxRecDepth 20000 in
set_option maxHeartbeats 4000000 in
theorem push_any (N : Net) (ok : N.Ok) (q gO base : Nat) (Hz : Option Addr) (ch : Nat) (rA : Option Addr) (rc : Nat) : ∀ (d : Nat) (v : Nat) (most : Int) (w : World) (R : List Int) (O : List (List Int)) (vs : List Value), Pst w N q gO base Hz ch rA rc vs R O → PI N R O → v < N.V → 0 ≤ N.lev (v : Int) → (N.V : Int) ≤ N.lev (v : Int) + d → 0 ≤ most → most ≤ 4611686018427387904 →
    Calls Try.prog 69 #[.pointer (some ⟨q, 0, none⟩), .int .i64 (v : Nat), .int .i64 most] w (PushPost w N q gO base Hz ch rA rc (v : Int) most R O)
  | 0, v, most, w, R, O, vs, _, _, hv, _, hd, _, _ => by
    have := ok.lv.bd (v : Int) ⟨by omega, by omega⟩
    unfold Net.lev at hd
    omega
  | d + 1, v, most, w, R, O, vs, hp, hi, hv, hl, hd, m0, m1 => by
    have IH := Lib.hid (push_any N ok q gO base Hz ch rA rc d)
    have h8 := may_small ok.may
    rw [ok.hl] at h8
    have HP := Lib.hid hp
    have HI := Lib.hid hi
    have HLV := Lib.hid hl
    have HD := Lib.hid hd
    have OK := Lib.hid ok
    obtain ⟨c0, c1, c2, c3⟩ := hp.oq.four
    clear hp hi hl hd ok
    generalize hnv : N.V = nv at *
    have HNV := Lib.hid hnv
    generalize hnn : N.n = nn at *
    have HNN := Lib.hid hnn
    clear hnv hnn
    by_cases hvt : (v : Int) = N.t
    · have HT := Lib.hid hvt
      rw [← hvt] at c0
      clear hvt
      go_enter Try.func69, Try.ntmps69
      go_wp2
      go_ret
      exact ⟨most, R, O, vs, rfl, pl_here HI.out m0 HT.out, .inl rfl, HP.out, Trn.refl _ _ _⟩
    · have hvt2 : ((v : Int) == N.t) = false := by simpa using hvt
      have HVT := Lib.hid hvt
      clear hvt
      go_enter Try.func69, Try.ntmps69
      go_wp2
      go_loopw [7] (fun i wr => PushRel w N q gO base Hz ch rA rc (v : Int) most R O i wr) (fun i wr => (most - intOf i).toNat + rowLen wr gO v)
      case atStart => exact ⟨0, R, O, vs, rfl, pl_start HI.out m0, HP.out, Trn.refl _ _ _⟩
      case round =>
        clear HP HI c0 c1 c2 c3 hvt2
        obtain ⟨k, R1, O1, us, rfl, hp, ps, tr⟩ := hrel
        have k0 := hp.low
        have k1 := hp.high
        have PS := Lib.hid ps
        have PLk := Lib.hid hp
        have TR := Lib.hid tr
        obtain ⟨c0, c1, c2, c3⟩ := ps.oq.four
        obtain ⟨A, c, e1, e2, e3, e4⟩ := ps.rows v (by rw [HNV.out]; exact hv)
        have o1 := ps.oo.cell v
        rw [e1] at o1
        have hln := len_of o1
        rw [HNN.out] at c1 c2
        rw [HNV.out] at c3
        clear hp ps tr e1
        by_cases hlt : k < most
        · cases hrow : oAt O1 (v : Int) with
          | nil =>
            rw [hrow] at e2 e3 e4 o1 hln
            have HROW := Lib.hid hrow
            clear hrow e2 e3 e4 hln
            go_wp2
            go_ret
            exact ⟨k, R1, O1, us, rfl, PLk.out, .inr (pl_end PLk.out.inv HROW.out HVT.out), PS.out, TR.out⟩
          | cons x rest =>
            obtain ⟨a, rfl, ha, ht, hs⟩ := PLk.out.inv.mem (v : Int) ⟨by omega, by rw [HNV.out]; omega⟩ x (by rw [hrow]; simp)
            rw [hrow] at e2 e3 e4 o1 hln
            have HROW := Lib.hid hrow
            have HT := Lib.hid ht
            have HST := Lib.hid hs
            have HLEN := Lib.hid hln
            have HOFF := Lib.hid e4
            have HRW := Lib.hid e3
            rw [HNN.out] at ha
            obtain ⟨hlv1, hlv2⟩ := N.stp_lev hs
            obtain ⟨hh1, hh2⟩ := OK.out.hd_in (a := a) (by rw [HNN.out]; exact ha)
            rw [HNV.out] at hh2
            obtain ⟨hn, hhn⟩ : ∃ hn : Nat, N.hd a = (hn : Int) := ⟨(N.hd a).toNat, by omega⟩
            have HHN := Lib.hid hhn
            rw [hhn] at hh2
            have hd1 : Hid (0 ≤ N.lev (hn : Int) ∧ (nv : Int) ≤ N.lev (hn : Int) + d) := by
              have h1 := HD.out
              rw [hhn, ht] at hlv2
              rw [ht] at hlv1
              constructor <;> omega
            have hlv3 : N.lev (N.tl a) < N.lev (hn : Int) := by rw [hhn] at hlv2; omega
            obtain ⟨b0, b1, b2⟩ := PLk.out.inv.bd OK.out (a := a) (by rw [HNN.out]; exact ha)
            obtain ⟨b, off, rfl, _, hc⟩ := e3.at_ (by simp)
            have d0 := hc 0 (by simp)
            rw [Nat.add_zero] at d0
            simp only [List.getElem?_cons_zero, Option.getD_some] at d0
            obtain ⟨bh, offh, hHz, _, hch⟩ := PS.out.hh.at_ (by rw [HNN.out]; omega)
            subst hHz
            have d1 := hch a (by rw [HNN.out]; exact ha)
            rw [heads_at N.ls _ a (by rw [HNN.out]; exact ha), show headOf N.ls a = (hn : Int) from hhn] at d1
            obtain ⟨g, hrA, _⟩ := PS.out.rm.at0 (by rw [HNN.out]; omega)
            subst hrA
            have d2 := PS.out.rm.cellAt (i := a) (by rw [HNN.out]; exact ha)
            clear hrow ht hs hln e4 e3 hc hch hhn hlv1 hlv2 hh1
            simp only [List.length_cons] at *
            obtain ⟨rr, hrr⟩ : ∃ rr, rAt R1 a = rr := ⟨_, rfl⟩
            rw [hrr] at b0 b2 d2
            have HRR := Lib.hid hrr
            clear hrr
            obtain ⟨m, hm⟩ : ∃ m, (if rr < most - k then rr else most - k) = m := ⟨_, rfl⟩
            have HM : Hid (0 ≤ m ∧ m ≤ most - k ∧ m ≤ rr ∧ (m = most - k ∨ m = rr) ∧ m ≤ 4611686018427387904) := by
              rw [Hid, ← hm]
              split <;> omega
            have hnl : (0 : Int) < ((rest.length + 1 : Nat) : Int) := by omega
            have hwr : IntKind.i64.wrap (most - k) = most - k := IntWalk.i64_in _ (by omega)
            have hai0 : (0 : Int) ≤ (a : Int) := by omega
            have hai1 : (a : Int) < 2 * (nn : Int) := by omega
            go_upto_region 6 with fail
            have HS : Hid (wr.cell? ⟨q, 1, none⟩ = some (.slice (some ⟨bh, offh, none⟩) (2 * nn) ch) ∧ wr.cell? ⟨q, 2, none⟩ = some (.slice (some ⟨g, 0, none⟩) (2 * nn) rc) ∧ wr.cell? ⟨bh, offh + a, none⟩ = some (.int .i64 (hn : Nat)) ∧ wr.cell? ⟨g, a, none⟩ = some (.int .i64 rr)) := ⟨c1, c2, d1, d2⟩
            clear c0 c1 c2 c3 d0 d1 d2 o1
            go_region_held3 (fun w' : World => w'.cell? ⟨q, 1, none⟩ = some (.slice (some ⟨bh, offh, none⟩) (2 * nn) ch) ∧ w'.cell? ⟨q, 2, none⟩ = some (.slice (some ⟨g, 0, none⟩) (2 * nn) rc) ∧ w'.cell? ⟨bh, offh + a, none⟩ = some (.int .i64 (hn : Nat)) ∧ w'.cell? ⟨g, a, none⟩ = some (.int .i64 rr))
              (exact HS.out)
              (first
                | (go_at_call 69; refine (IH.out hn m _ R1 O1 us (by first | exact PS.out | exact PS.out.drew | exact PS.out.drewN _) PLk.out.inv (by omega) hd1.out.1 hd1.out.2 HM.out.1 HM.out.2.2.2.2).mono ?_; rintro e w2 ⟨k2, R2, O2, us2, rfl, hp2, he2, ps2, tr2⟩; have HP2 := Lib.hid hp2; have HE2 := Lib.hid he2; have PS2 := Lib.hid ps2; have TR2 : Hid (Trn wr w2 (rBlk (some ⟨g, 0, none⟩)) gO) := (by first | exact tr2.undrew | exact tr2); have HS := Lib.hid (push_held HNN.out HST.out ha HHN.out hlv3 HRR.out hp2 ps2); clear hp2 he2 ps2 tr2))
            clear hm HS hwr
            have hp2 := HP2.out
            have he2 := HE2.out
            rw [← HHN.out] at hp2 he2
            have e2k : rAt R2 a = rr := by rw [hp2.keepR a (by rw [HNN.out]; exact ha) HST.out (by rw [HHN.out]; exact hlv3), HRR.out]
            obtain ⟨s1, s2, s3, s4, s5⟩ := pl_step OK.out PLk.out ⟨by omega, by rw [HNV.out]; omega⟩ (by rw [HNN.out]; exact ha) HT.out HST.out HROW.out HM.out.2.1 (by rw [HRR.out]; exact HM.out.2.2.1) (by rw [HRR.out]; exact HM.out.2.2.2.1) hp2 he2
            obtain ⟨t0, t1, t2⟩ := hp2.inv.bd OK.out (a := a) (by rw [HNN.out]; exact ha)
            have kk := s4.high
            rw [e2k] at s3 t0 t2
            have E2K := Lib.hid e2k
            have S1 := Lib.hid s1
            have S4 := Lib.hid s4
            have S5 := Lib.hid s5
            have LENO := Lib.hid hp2.inv.lenO
            have LENR := Lib.hid hp2.inv.lenR
            have hfl := flip_lt ha
            have hfn := flip_ne a
            have d2 := PS2.out.rm.cellAt (i := a) (by rw [HNN.out]; exact ha)
            rw [e2k] at d2
            have f2 := PS2.out.rm.frozen a
            obtain ⟨c0, c1, c2, c3⟩ := PS2.out.oq.four
            rw [HNN.out] at c1 c2
            rw [HNV.out] at c3
            clear s1 s4 s5 e2k hp2 he2 HP2 HE2 HM PS
            have PS3 := Lib.hid (PS2.out.setR (i := a) (by rw [HNN.out]; exact ha) (rr - k2))
            have TR3 := Lib.hid (TR2.out.setR (i := a) (.int .i64 (rr - k2)))
            go_upto_region 8 with fail
            clear f2 d2 c0 c1 c2 c3 PS2 TR2
            generalize w2.setCell ⟨g, a, none⟩ (.int .i64 (rr - k2)) = w3 at *
            obtain ⟨c0, c1, c2, c3⟩ := PS3.out.oq.four
            rw [HNN.out] at c1 c2
            rw [HNV.out] at c3
            have d3 := PS3.out.rm.cellAt (i := flipN a) (by rw [HNN.out]; exact hfl)
            have er : rAt (R2.set a (rr - k2)) (flipN a) = rAt R2 (flipN a) := by unfold rAt; rw [List.getElem?_set_ne (fun e => hfn e.symm)]
            rw [er] at d3
            have f3 := PS3.out.rm.frozen (flipN a)
            clear er
            generalize hr3 : rAt R2 (flipN a) = r3 at *
            have HR3 := Lib.hid hr3
            have hfi0 : (0 : Int) ≤ (flipN a : Nat) := by omega
            have hfi1 : ((flipN a : Nat) : Int) < 2 * (nn : Int) := by omega
            have HFL := Lib.hid hfl
            have HFN := Lib.hid hfn
            clear hr3 hfl hfn
            have CP := Lib.hid (fun w => (pair_any a w (by omega)).mono (fun _ _ h => (⟨h.1, h.2.symm⟩ : _ ∧ _ = w)))
            generalize hfa : flipN a = fa at *
            have HFA := Lib.hid hfa
            clear hfa
            go_still_tail 11, (by kernel_rfl)
            still_call (CP.out _)
            repeat still_step
            refine wpStill_nil ?_
            go_upto_region 10 with fail
            have ps4 := (PS3.out.setR (i := fa) (by rw [HNN.out]; exact HFL.out) (r3 + k2)).drew
            have TR4 : Hid (Trn w (w3.setCell ⟨g, fa, none⟩ (.int .i64 (r3 + k2))).drew (rBlk (some ⟨g, 0, none⟩)) gO) := TR.out.trans (TR3.out.setR (i := fa) _).drew
            have er : (R2.set a (rr - k2)).set fa (r3 + k2) = overA R2 a k2 := by rw [overA, E2K.out, HFA.out, HR3.out]
            rw [er] at ps4
            have PS4 := Lib.hid ps4
            clear ps4 er c0 c1 c2 c3 d3 f3 PS3 TR3 TR
            generalize (w3.setCell ⟨g, fa, none⟩ (.int .i64 (r3 + k2))).drew = w4 at *
            obtain ⟨c0, c1, c2, c3⟩ := PS4.out.oq.four
            rw [HNV.out] at c3
            obtain ⟨A4, c4, e1, e5, e3, e4⟩ := PS4.out.rows v (by rw [HNV.out]; exact hv)
            have o1 := PS4.out.oo.cell v
            have f1 := PS4.out.oo.frozen v
            rw [e1] at o1
            have hln := len_of o1
            rw [S1.out] at e3 e4 e5 o1 hln
            simp only [List.length_cons] at e3 e4 e5 o1 hln
            have HLN := Lib.hid hln
            have RW := Lib.hid e3
            have OFF := Lib.hid e4
            clear e3 e4 e1 hln
            by_cases hmore : k + k2 < most
            · have S6 := Lib.hid (S5.out hmore)
              clear S5 S4
              have hvi0 : (0 : Int) ≤ (v : Int) := by omega
              have hvi1 : (v : Int) < (nv : Int) := by omega
              obtain ⟨b4, off4, rfl, _, _⟩ := RW.out.at_ (by omega)
              go_upto_region 11 with fail
              have hz7 : (1 : Int) ≤ (rest.length : Int) + 1 := by omega
              by_cases hc1 : c4 = 1
              · subst hc1
                have hr0 : Hid (rest = []) := List.eq_nil_of_length_eq_zero (by omega)
                clear e5
                go_still_tail 14, (by kernel_rfl)
                go_wp2
                go_roundw
                case rel => exact ⟨_, _, _, _, rfl, S6.out, PS4.out.tail0 LENO.out (by rw [HNV.out]; exact hv) hr0.out, (TR4.out.setO _).drew⟩
                case measure => have h1 := len_set o1 (some ⟨b4, off4, none⟩) rest.length 0; have h2 := HLEN.out; simp only [intOf]; omega
              · have hc2 : ¬ 1 = c4 := fun h => hc1 h.symm
                go_still_tail 14, (by kernel_rfl)
                go_wp2
                go_roundw
                case rel => exact ⟨_, _, _, _, rfl, S6.out, PS4.out.tailO LENO.out (by rw [HNV.out]; exact hv) RW.out OFF.out e5, (TR4.out.setO _).drew⟩
                case measure => have h1 := len_set o1 (some ⟨b4, off4 + 1, none⟩) rest.length (c4 - 1); have h2 := HLEN.out; simp only [intOf]; omega
            · have hkm : k + k2 = most := by omega
              go_wp2
              go_roundw
              case rel => exact ⟨_, _, _, _, rfl, S4.out, PS4.out, TR4.out⟩
              case measure => have h1 := HLN.out; have h2 := HLEN.out; simp only [intOf]; omega
        · obtain rfl : k = most := by omega
          clear e2 e3 e4
          go_wp2
          go_ret
          exact ⟨k, R1, O1, us, rfl, PLk.out, .inl rfl, PS.out, TR.out⟩

end Go.Proofs.Ytlpohlcmjnlbhaa
