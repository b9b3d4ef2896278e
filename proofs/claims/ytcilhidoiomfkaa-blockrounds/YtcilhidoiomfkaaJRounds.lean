/-
  (*block.pusher).flow, walked. cut.May and the reference's CutMay. cut.Leaving and the reference's. cut.Worth and the reference's. Rows of Booleans of the call's own; the reference's Room where it is told. The reference's set and Least: all sets of vertices, as the bits of numbers. block.Block, walked. What every program answers that is one: layer 11's awake. The law BlockShut, walked: where the sink can't be reached nothing is pushed. The law BlockRounds, walked: block by block the flow becomes as great as the least cut. Proved here: for every input that can be read as data, the law BlockRounds returns true and leaves its arguments as they read before. No condition.
-/
import Derived.Test.YtcilhidoiomfkaaPushA
import Derived.Test.YtcilhidoiomfkaaSideB
import Derived.Test.YtcilhidoiomfkaaFlowB
import Derived.Test.YtcilhidoiomfkaaOwnC
import Derived.Test.YtcilhidoiomfkaaPushE
import Derived.Test.YtcilhidoiomfkaaFlowC
import Derived.OwnWalk
import Derived.Test.YtcilhidoiomfkaaBlocks
import Derived.Test.YtcilhidoiomfkaaFrameGraph

namespace Go.Proofs.Ytcilhidoiomfkaa
open Go.RowKit

def FlowPost (w : World) (xs : List Int) (e : Ending) (w' : World) : Prop :=
  ∃ v, e = .returned v ∧ Mine w' w.heap.size v xs.length xs ∧ w.grownBy w' none

def FlowRel (w : World) (m : Nat) (R : List Int) (o i : Value) (wr : World) : Prop :=
  ∃ k : Nat, k ≤ m ∧ i = .int .i64 (k : Nat) ∧ w.grownBy wr none ∧ Mine wr w.heap.size o (k / 2) (bOf R (k / 2))

theorem bOf_next (R : List Int) (k : Nat) : bOf R (k + 1) = bOf R k ++ [rAt R (2 * k + 1)] := by simp [bOf, List.range_succ]

set_option maxRecDepth 20000 in
set_option maxHeartbeats 1000000 in
theorem flow_any (q n rc : Nat) (t : Int) (hs os : Value) (rA : Option Addr) (R : List Int) (w : World) {B : Nat} (hq : Own w q 50 [.int .i64 t, hs, .slice rA (2 * n) rc, os]) (hr : Row w B rA (2 * n) R) (hn : n ≤ 16) :
    Calls Try.prog 27 #[.pointer (some ⟨q, 0, none⟩)] w (FlowPost w (bOf R n)) := by
  obtain ⟨c0, c1, c2, c3⟩ := hq.four
  have HR := Lib.hid hr
  clear hq hr c0 c1 c3
  obtain ⟨m, hm⟩ : ∃ m, 2 * n = m := ⟨_, rfl⟩
  have HM := Lib.hid hm
  rw [hm] at c2 HR
  have hm1 : m ≤ 32 := by omega
  clear hm hn
  have HS : Hid (FlowRel w m R (.slice none 0 0) (.int .i64 0) w) := ⟨0, Nat.zero_le _, rfl, World.grownBy.refl w _, Mine.nil _ _⟩
  go_enter Try.func27, Try.ntmps27
  go_wp2
  go_loopw [3, 11] (fun o i wr => FlowRel w m R o i wr) (fun _ i _ => m - (intOf i).toNat)
  case atStart => exact HS.out
  case round =>
    clear HS
    obtain ⟨k, hk, rfl, hg, hmine⟩ := hrel
    have G := Lib.hid hg
    have HM1 := Lib.hid hmine
    have hsz := hg.size
    clear hg hmine
    by_cases hlt : k < m
    · obtain ⟨b, off, rfl, hb, hcell⟩ := HR.out.at_ (by omega)
      have d0 := kept G.out (hcell k hlt)
      have D0 : Hid (R[k]?.getD 0 = rAt R k) := rfl
      have okk := HR.out.ok k
      clear hcell
      generalize R[k]?.getD 0 = x at *
      rcases Nat.mod_two_eq_zero_or_one k with e | e
      · have hmod : ((k : Nat) : Int).tmod 2 = 0 := by rw [Int.tmod_eq_emod_of_nonneg (by omega)]; omega
        have HD : Hid ((k + 1) / 2 = k / 2) := by rw [Hid]; omega
        clear e
        go_wp2
        go_roundw
        case rel => exact ⟨k + 1, by omega, by go_num, G.out, by rw [HD.out]; exact HM1.out⟩
        case measure => simp [intOf]; omega
      · have hmod : ((k : Nat) : Int).tmod 2 = 1 := by rw [Int.tmod_eq_emod_of_nonneg (by omega)]; omega
        have HD : Hid ((k + 1) / 2 = k / 2 + 1) := by rw [Hid]; omega
        have HB : Hid (bOf R (k / 2 + 1) = bOf R (k / 2) ++ [x]) := by rw [Hid, bOf_next, show 2 * (k / 2) + 1 = k by omega, ← D0.out]
        have h2 : k / 2 ≤ 16 := by omega
        clear e
        generalize hh : k / 2 = kh at *
        clear hh
        have HM2 := Lib.hid (HM1.out.kept (grow0 _ (.cells #[.int .i64 x] 3)))
        have HROW := Lib.hid (Row.newAt (w := wr) (g := wr.heap.size) (n := 1) (vs := #[.int .i64 x]) [x] (by simp) rfl rfl (by simp) (by simp; omega))
        go_wp2_with (first | (at_builtin; refine wpList_app _ rfl _ _ rfl w.heap.size _ _ _ rfl HM2.out _ 1 1 [x] rfl HROW.out (by simp) (by omega) (by simp; omega) ?_))
        intro v1 w3 hm1 hg3 _
        have G3 := Lib.hid (grown_none (grown_alloc G.out (.cells #[.int .i64 x] 3)) hg3 (fun g hg => HM1.out.own_ge g hg))
        have HM3 := Lib.hid hm1
        clear hm1 hg3
        go_wp2
        go_roundw
        case rel => exact ⟨k + 1, by omega, by go_num, G3.out, by rw [HD.out, HB.out]; exact HM3.out⟩
        case measure => simp [intOf]; omega
    · obtain rfl : k = m := by omega
      have HN : Hid (k / 2 = n) := by rw [Hid, ← HM.out]; omega
      go_wp2
      go_ret
      have hf := HM1.out
      rw [HN.out] at hf
      exact ⟨_, rfl, by rw [bOf_len]; exact hf, G.out⟩

end Go.Proofs.Ytcilhidoiomfkaa

namespace Go.Proofs.Ytcilhidoiomfkaa
open Go.RowKit

end Go.Proofs.Ytcilhidoiomfkaa

namespace Go.Proofs.Ytcilhidoiomfkaa
open Go.RowKit

def LvRel (w : World) (V : Int) (A : Option Addr) (n c : Nat) (L : List Lk) (vs : List Int) (o i : Value) (wr : World) : Prop :=
  ∃ k : Nat, k ≤ n ∧ i = .int .i64 (k : Nat) ∧ w.grownBy wr none ∧ Own wr w.heap.size 24 [.int .i64 V, .slice A n c] ∧ Mine wr (w.heap.size + 1) o (lv L vs k).length (lv L vs k)

theorem leav_may {V : Int} {L : List Lk} {vs : List Int} (h : mayG V L = false) : leavV V L vs = [] ∧ leavE V L vs = 800 := leav_no (by simp [leavB, h])
theorem leav_verts {V : Int} {L : List Lk} {vs : List Int} (h : vertsB V vs = false) : leavV V L vs = [] ∧ leavE V L vs = 800 := leav_no (by simp [leavB, h])
theorem leav_goes {V : Int} {L : List Lk} {vs : List Int} (h : mayG V L = true) (k : vertsB V vs = true) : leavV V L vs = lv L vs L.length ∧ leavE V L vs = 0 := leav_yes (by simp [leavB, h, k])
theorem leaves_from {vs : List Int} {f t cp : Int} (h : decide (f ∈ vs) = false) : leaves vs (f, t, cp) = false := by simp only [leaves, h, Bool.false_and]
theorem leaves_to {vs : List Int} {f t cp : Int} (h : decide (t ∈ vs) = true) : leaves vs (f, t, cp) = false := by simp only [leaves, h, Bool.not_true, Bool.and_false]
theorem leaves_yes {vs : List Int} {f t cp : Int} (h : decide (f ∈ vs) = true) (k : decide (t ∈ vs) = false) : leaves vs (f, t, cp) = true := by simp only [leaves, h, k, Bool.not_false, Bool.and_true]

set_option maxHeartbeats 2000000 in
theorem RLeaving_any (V : Int) (A : Option Addr) (n c : Nat) (L : List Lk) (X : Option Addr) (m d : Nat) (vs : List Int) (w : World) {B B' : Nat} (h : Lks w B A n L) (hB : B ≤ w.heap.size) (hx : Row w B' X m vs) (hB' : B' ≤ w.heap.size) :
    Calls Try.prog 45 #[.agg #[.int .i64 V, .slice A n c], .slice X m d] w (SelPost w (leavV V L vs) (leavE V L vs)) := by
  have hn := h.small
  have HL := Lib.hid h.len
  have HR := Lib.hid h
  have HX := Lib.hid hx
  have HR1 := Lib.hid (h.grown hB (grow0 w (.cells #[.int .i64 V, .slice A n c] 24)))
  clear h hx
  go_enter Try.func45, Try.ntmps45
  go_wp2_with fail
  refine (RMay_any V A n c L _ HR1.out).mono ?_
  rintro e w1 ⟨rfl, g1⟩
  obtain ⟨g, o2⟩ := box1 [.int .i64 V, .slice A n c] g1
  obtain ⟨c0, c1⟩ := o2.two
  have G := Lib.hid g
  have O2 := Lib.hid o2
  clear g g1 o2 HR1
  cases hm : mayG V L
  · have E := Lib.hid (leav_may (vs := vs) hm)
    go_wp2
    go_ret2
    exact ⟨.slice none 0 0, ret_sel E.out.2, by rw [E.out.1]; exact Mine.nil _ _, G.out⟩
  go_wp2_with fail
  refine (VertsMay_any V A n c X m d vs _ (HX.out.grown hB' G.out)).mono ?_
  rintro e w2 ⟨rfl, g2⟩
  have O2 := Lib.hid (O2.out.kept g2)
  have G := Lib.hid (grown_trans G.out g2)
  clear c0 c1
  obtain ⟨c0, c1⟩ := O2.out.two
  clear g2
  cases hv : vertsB V vs
  · have E := Lib.hid (leav_verts (V := V) (L := L) hv)
    go_wp2
    go_ret2
    exact ⟨.slice none 0 0, ret_sel E.out.2, by rw [E.out.1]; exact Mine.nil _ _, G.out⟩
  have E := Lib.hid (leav_goes hm hv)
  have h16 := may_small hm
  rw [HL.out] at h16
  have HS : Hid (LvRel w V A n c L vs (.slice none 0 0) (.int .i64 0) w2) := ⟨0, Nat.zero_le _, rfl, G.out, O2.out, Mine.nil _ _⟩
  clear G hm hv
  go_wp2
  go_loopw [6, 7] (fun o i wr => LvRel w V A n c L vs o i wr) (fun _ i _ => n - (intOf i).toNat)
  case atStart => exact HS.out
  case round =>
    clear HS c0 c1 O2
    obtain ⟨k, hk, rfl, hg, o2, hmine⟩ := hrel
    have G := Lib.hid hg
    have hsz := hg.size
    have l2 := o2.lt
    obtain ⟨c0, c1⟩ := o2.two
    have O2 := Lib.hid o2
    have HM := Lib.hid hmine
    by_cases hlt : k < n
    · obtain ⟨b, off, hA, hb, hcell⟩ := HR.out.cells (by omega)
      subst hA
      obtain ⟨d0, d1, d2⟩ := hcell k hlt
      have HD0 := Lib.hid d0
      have HD1 := Lib.hid d1
      have d0 := kept hg d0
      have hyes := Lib.hid (lv_yes (L := L) (vs := vs) (k := k))
      have hno := Lib.hid (lv_no (L := L) (vs := vs) (k := k))
      have hl := lv_len L vs k
      clear hcell hg o2 hmine d1 d2
      generalize at3 L k = l at *
      obtain ⟨f, t, cp⟩ := l
      simp only at d0 HD0 HD1
      go_wp2_with fail
      refine (Among_any f X m d vs _ (HX.out.grown hB' G.out)).mono ?_
      rintro e w3 ⟨rfl, g3⟩
      have O2 := Lib.hid (O2.out.kept g3)
      have G := Lib.hid (grown_trans G.out g3)
      have HM := Lib.hid (HM.out.kept g3)
      clear d0 c0 c1 g3
      obtain ⟨c0, c1⟩ := O2.out.two
      have d1 := kept G.out HD1.out
      cases hf : decide (f ∈ vs)
      · have HN := Lib.hid (hno.out (leaves_from hf))
        clear hyes hno hf
        go_wp2
        go_roundw
        case rel => exact ⟨k + 1, by omega, by go_num, G.out, O2.out, by rw [HN.out]; exact HM.out⟩
        case measure => simp [intOf]; omega
      go_wp2_with fail
      refine (Among_any t X m d vs _ (HX.out.grown hB' G.out)).mono ?_
      rintro e w4 ⟨rfl, g4⟩
      have O2 := Lib.hid (O2.out.kept g4)
      have G := Lib.hid (grown_trans G.out g4)
      have HM := Lib.hid (HM.out.kept g4)
      have hsz := G.out.size
      clear g4 c0 c1 d1
      cases ht : decide (t ∈ vs)
      · have HY := Lib.hid (hyes.out (leaves_yes hf ht))
        clear hyes hno hf ht
        have HM1 := Lib.hid (HM.out.kept (grow0 _ (.cells #[.int .i64 (k : Nat)] 3)))
        have HROW := Lib.hid (Row.newAt (w := w4) (g := w4.heap.size) (n := 1) (vs := #[.int .i64 (k : Nat)]) [(k : Int)] (by simp) rfl rfl (by simp) (by simp; omega))
        have l4 := O2.out.lt
        go_wp2_with (first | (at_builtin; refine wpList_app _ rfl _ _ rfl (w.heap.size + 1) _ _ _ rfl HM1.out _ 1 1 [(k : Int)] rfl HROW.out (by simp) (by omega) (by simp; omega) ?_))
        intro v1 w5 hm1 hg5 _
        have G5 := Lib.hid (grown_none (grown_alloc G.out (.cells #[.int .i64 (k : Nat)] 3)) hg5 (fun g hg => by have := HM.out.own_ge g hg; omega))
        have O5 := Lib.hid (Own.kept' (O2.out.alloc (.cells #[.int .i64 (k : Nat)] 3)) hg5 HM.out.apart)
        have HM5 := Lib.hid hm1
        clear hm1 hg5
        go_wp2
        go_roundw
        case rel => exact ⟨k + 1, by omega, by go_num, G5.out, O5.out, by rw [HY.out]; simpa using HM5.out⟩
        case measure => simp [intOf]; omega
      · have HN := Lib.hid (hno.out (leaves_to ht))
        clear hyes hno hf ht
        go_wp2
        go_roundw
        case rel => exact ⟨k + 1, by omega, by go_num, G.out, O2.out, by rw [HN.out]; exact HM.out⟩
        case measure => simp [intOf]; omega
    · obtain rfl : k = n := by omega
      clear hmine hg o2
      go_wp2
      go_ret2
      exact ⟨_, ret_sel E.out.2, by rw [E.out.1, HL.out]; exact HM.out.wide (by omega), G.out⟩

end Go.Proofs.Ytcilhidoiomfkaa

namespace Go.Proofs.Ytcilhidoiomfkaa
open Go.RowKit

def wthV (V : Int) (L : List Lk) (caps vs : List Int) : Value := .tuple #[.int .i64 (worthX V L caps vs), .int .i64 (worthE V L caps vs)]

theorem lv_get {L : List Lk} {vs : List Int} {j : Nat} (h : j < (lv L vs L.length).length) : ∃ i : Nat, i < L.length ∧ (lv L vs L.length)[j]?.getD 0 = (i : Int) := by
  obtain ⟨i, a, _, e⟩ := pick_get h
  exact ⟨i, a, e⟩

def WoRel (w1 : World) (q : Nat) (L : List Lk) (caps vs : List Int) (a i : Value) (wr : World) : Prop :=
  ∃ j : Nat, j ≤ q ∧ a = .int .i64 (pw L caps vs j) ∧ i = .int .i64 (j : Nat) ∧ w1.grownBy wr none

theorem worth_leav {V : Int} {L : List Lk} {caps vs : List Int} (h : leavB V L vs = false) : worthX V L caps vs = 0 ∧ worthE V L caps vs = 800 := worth_no (by simp [worthB, h])
theorem worth_caps {V : Int} {L : List Lk} {caps vs : List Int} (h : capsB L caps = false) : worthX V L caps vs = 0 ∧ worthE V L caps vs = 800 := worth_no (by simp [worthB, h])
theorem worth_goes {V : Int} {L : List Lk} {caps vs : List Int} (h : leavB V L vs = true) (k : capsB L caps = true) : worthX V L caps vs = wk L caps vs L.length ∧ worthE V L caps vs = 0 := worth_yes (by simp [worthB, h, k])

set_option maxHeartbeats 2000000 in
theorem RWorth_any (V : Int) (A : Option Addr) (n c : Nat) (L : List Lk) (Y : Option Addr) (p e0 : Nat) (caps : List Int) (X : Option Addr) (m d : Nat) (vs : List Int) (w : World) {B B' B'' : Nat} (h : Lks w B A n L) (hB : B ≤ w.heap.size) (hy : Row w B'' Y p caps) (hB'' : B'' ≤ w.heap.size) (hx : Row w B' X m vs) (hB' : B' ≤ w.heap.size) :
    Calls Try.prog 35 #[.agg #[.int .i64 V, .slice A n c], .slice Y p e0, .slice X m d] w (Says w (wthV V L caps vs)) := by
  have HL := Lib.hid h.len
  have HLY := Lib.hid hy.len
  have HR := Lib.hid h
  have HY := Lib.hid hy
  have HX := Lib.hid hx
  have HR1 := Lib.hid (h.grown hB (grow0 w (.cells #[.int .i64 V, .slice A n c] 24)))
  have HY1 := Lib.hid (hy.grown hB'' (grow0 w (.cells #[.int .i64 V, .slice A n c] 24)))
  clear h hx hy
  go_enter Try.func35, Try.ntmps35
  go_wp2_with fail
  refine (RCaps_any V A n c L Y p e0 caps _ HR1.out (by simp; omega) HY1.out).mono ?_
  rintro e w1 ⟨he, g1⟩
  obtain ⟨g, o2⟩ := box1 [.int .i64 V, .slice A n c] g1
  obtain ⟨c0, c1⟩ := o2.two
  have G := Lib.hid g
  have O2 := Lib.hid o2
  clear g g1 o2 HR1 HY1
  cases hmay : mayG V L
  · have E := Lib.hid (worth_leav (V := V) (L := L) (caps := caps) (vs := vs) (by simp [leavB, hmay]))
    rw [hmay] at he
    subst he
    clear hmay
    go_wp2
    go_ret2
    exact ⟨ret_two E.out.1 E.out.2, G.out⟩
  cases hcap : capsB L caps
  · have E := Lib.hid (worth_caps (V := V) (vs := vs) hcap)
    rw [hmay, hcap] at he
    subst he
    clear hcap hmay
    go_wp2
    go_ret2
    exact ⟨ret_two E.out.1 E.out.2, G.out⟩
  rw [hmay, hcap] at he
  subst he
  have HMAY := Lib.hid hmay
  have HCAP := Lib.hid hcap
  clear hmay hcap
  go_wp2_with fail
  refine (VertsMay_any V A n c X m d vs _ (HX.out.grown hB' G.out)).mono ?_
  rintro e w2 ⟨rfl, g2⟩
  have G := Lib.hid (grown_trans G.out g2)
  have O2 := Lib.hid (O2.out.kept g2)
  clear g2 c0 c1
  obtain ⟨c0, c1⟩ := O2.out.two
  cases hv : vertsB V vs
  · have E := Lib.hid (worth_leav (V := V) (L := L) (caps := caps) (vs := vs) (by simp [leavB, hv]))
    clear hv
    go_wp2
    go_ret2
    exact ⟨ret_two E.out.1 E.out.2, G.out⟩
  have hlb : leavB V L vs = true := by simp [leavB, HMAY.out, hv]
  have E := Lib.hid (worth_goes hlb HCAP.out)
  have HLB := Lib.hid hlb
  clear hv hlb
  go_wp2_with fail
  refine (RLeaving_any V A n c L X m d vs _ (HR.out.grown hB G.out) (by have := G.out.size; omega) (HX.out.grown hB' G.out) (by have := G.out.size; omega)).mono ?_
  rintro e w3 ⟨v, he, hv, g3⟩
  rw [(leav_yes HLB.out).2] at he
  subst he
  rw [(leav_yes HLB.out).1] at hv
  have h16 := (may_small HMAY.out).2.2
  have hl0 := lv_len L vs L.length
  obtain ⟨Av, cv, rfl, _, hrv⟩ := hv.row (lv_ok (by omega))
  have HRV := Lib.hid hrv
  have hq := hrv.small
  have G := Lib.hid (grown_trans G.out g3)
  clear hv hrv g3 c0 c1 O2
  have HPC := Lib.hid (capsB_parts HCAP.out).1
  have HBD := Lib.hid (fun j => pw_bd (vs := vs) HMAY.out HCAP.out j)
  have HEND := Lib.hid (pw_all L caps vs)
  have HGET := Lib.hid (fun (j : Nat) (hj : j < (lv L vs L.length).length) => lv_get hj)
  have HST := Lib.hid (fun (j : Nat) (hj : j < (lv L vs L.length).length) => pw_step (caps := caps) hj)
  have HYR := Lib.hid (HY.out.grown hB'' G.out)
  clear hl0 h16
  generalize hxs : lv L vs L.length = xs at *
  generalize hqe : xs.length = q at *
  have HS : Hid (WoRel w3 q L caps vs (.int .i64 0) (.int .i64 0) w3) := ⟨0, Nat.zero_le _, by rw [pw_zero], rfl, World.grownBy.refl w3 none⟩
  clear hxs hqe
  go_wp2
  go_loopw [10, 11] (fun a i wr => WoRel w3 q L caps vs a i wr) (fun _ i _ => q - (intOf i).toNat)
  case atStart => exact HS.out
  case round =>
    clear HS
    obtain ⟨j, hj, rfl, rfl, hg⟩ := hrel
    have G2 := Lib.hid hg
    by_cases hlt : j < q
    · obtain ⟨b, off, hA, hb, hcell⟩ := HRV.out.at_ (by omega)
      subst hA
      have d0 := kept hg (hcell j hlt)
      obtain ⟨i, hi, hxi⟩ := HGET.out j hlt
      have hip : i < p := by have := HPC.out; have := HLY.out; omega
      have HSTj := Lib.hid (HST.out j hlt)
      rw [hxi] at d0 HSTj
      obtain ⟨b2, off2, hA2, hb2, hcell2⟩ := HYR.out.at_ (by omega)
      subst hA2
      have e1 := kept hg (hcell2 i hip)
      have hb0 := HBD.out j
      have hb1 := HBD.out (j + 1)
      rw [HSTj.out] at hb1
      have e2 : capI caps ((i : Int).toNat) = caps[i]?.getD 0 := by simp [capI]
      rw [e2] at HSTj hb1
      have hps := HSTj.out
      clear hcell hcell2 hg hxi e2 HSTj
      generalize caps[i]?.getD 0 = y at *
      generalize pw L caps vs j = a at *
      have HPS := Lib.hid hps
      clear hps
      have hw : IntKind.i64.wrap (a + y) = a + y := IntWalk.i64_in _ (by omega)
      go_wp2
      go_roundw
      case rel => exact ⟨j + 1, by omega, by rw [HPS.out], by go_num, G2.out⟩
      case measure => simp [intOf]; omega
    · obtain rfl : j = q := by omega
      have E2 : Hid (worthX V L caps vs = pw L caps vs j) := by rw [Hid, E.out.1, HEND.out]
      clear hg
      generalize pw L caps vs j = a at *
      go_wp2
      go_ret2
      exact ⟨ret_two E2.out E.out.2, grown_trans G.out G2.out⟩

end Go.Proofs.Ytcilhidoiomfkaa

namespace Go.Proofs.Ytcilhidoiomfkaa
open Go.RowKit

theorem room_nonneg {caps f : List Int} (h : ratesB caps f = true) {a : Nat} (ha : a < 2 * caps.length) : 0 ≤ roomI caps f (a : Int) := by
  obtain ⟨h1, h2⟩ := ratesB_parts h
  have := h2 (a / 2) (by omega)
  unfold capI at this
  rcases Nat.mod_two_eq_zero_or_one a with e | e
  · rw [room_even (i := a / 2) (by omega) (by omega)]
    omega
  · rw [room_odd (i := a / 2) (by omega) (by omega)]
    omega

theorem RRoom_yes (vn : Nat) (a : Int) (A : Option Addr) (n c : Nat) (L : List Lk) (X : Option Addr) (p d : Nat) (caps : List Int) (Y : Option Addr) (q e0 : Nat) (f : List Int) (w : World) {B B' B'' : Nat} (h : Lks w B A n L) (hB : B ≤ w.heap.size) (hx : Row w B' X p caps) (hB' : B' ≤ w.heap.size) (hy : Row w B'' Y q f) (hB'' : B'' ≤ w.heap.size) (hf : fitsF (vn : Nat) L caps f = true) (ha : 0 ≤ a ∧ a < (2 * n : Nat)) :
    Calls Try.prog 15 #[.agg #[.int .i64 (vn : Nat), .slice A n c], .slice X p d, .slice Y q e0, .int .i64 a] w (Says w (.tuple #[.int .i64 (roomI caps f a), .int .i64 0])) := by
  have hc := RRoom_any (vn : Nat) a A n c L X p d caps Y q e0 f w h hB hx hB' hy hB''
  have hb : roomB (vn : Nat) L caps f a = true := by
    rw [roomB, hf, h.len, Bool.true_and]
    exact isV_yes ha.1 (by omega)
  rw [roomV, (room_yes hb).1, (room_yes hb).2] at hc
  exact hc

def bools (bs : List Bool) : List Value := bs.map Value.bool

theorem bools_set (bs : List Bool) (i : Nat) (b : Bool) : (bools bs).set i (.bool b) = bools (bs.set i b) := by simp [bools, List.map_set]

theorem bools_at {bs : List Bool} {i : Nat} (h : i < bs.length) : (bools bs)[i]? = some (.bool (bs[i]?.getD false)) := by simp [bools, h]

theorem info4 : (Try.prog.info? 4).map (fun i => (i.zero, i.size, i.bytes)) = some (some (.bool false), 1, 1) := by kernel_rfl

theorem held2L {w w1 : World} {k : Nat} {x0 x1 : Value} (g : w.grownBy w1 none) (h : (fun w' : World => w'.cell? ⟨k, 0, none⟩ = some x0 ∧ w'.cell? ⟨k, 1, none⟩ = some x1) w) :
    (fun w' : World => w'.cell? ⟨k, 0, none⟩ = some x0 ∧ w'.cell? ⟨k, 1, none⟩ = some x1) w1 := ⟨kept g h.1, kept g h.2⟩

theorem rep_bools (n : Nat) : List.replicate n (Value.bool false) = bools (List.replicate n false) := by simp [bools]

end Go.Proofs.Ytcilhidoiomfkaa

namespace Go.Proofs.Ytcilhidoiomfkaa
open Go.RowKit

theorem bit_and (x : Nat) (h : x < 1000) : bits .and .i64 (x : Int) 1 = ((x % 2 : Nat) : Int) := by
  show IntKind.i64.wrap ((BitVec.ofInt 64 (x : Int) &&& BitVec.ofInt 64 1).toNat : Int) = _
  have h1 : (BitVec.ofInt 64 (x : Int)).toNat = x := by
    rw [BitVec.ofInt_natCast, BitVec.toNat_ofNat]; exact Nat.mod_eq_of_lt (by omega)
  have h2 : (BitVec.ofInt 64 1).toNat = 1 := by decide
  rw [BitVec.toNat_and, h1, h2, Nat.and_one_is_mod]
  exact IntWalk.i64_in _ (by omega)

def bitI (B v : Nat) : Int := if B.testBit v then 1 else 0

theorem bit_at (B v : Nat) (h : B < 1000) : bits .and .i64 ((B : Int) / 2 ^ v) 1 = bitI B v := by
  have e : ((B : Int) / 2 ^ v) = ((B / 2 ^ v : Nat) : Int) := by simp
  rw [e, bit_and _ (Nat.lt_of_le_of_lt (Nat.div_le_self _ _) h), bitI, Nat.testBit_eq_decide_div_mod_eq]
  rcases Nat.mod_two_eq_zero_or_one (B / 2 ^ v) with e | e <;> simp [e]

def SetRel (w : World) (vn B : Nat) (A : Option Addr) (n c : Nat) (o i : Value) (wr : World) : Prop :=
  ∃ k : Nat, k ≤ vn ∧ i = .int .i64 (k : Nat) ∧ w.grownBy wr none ∧ Own wr w.heap.size 24 [.int .i64 (vn : Nat), .slice A n c] ∧ Mine wr (w.heap.size + 1) o (pick (fun v => B.testBit v) k).length (pick (fun v => B.testBit v) k)

set_option maxRecDepth 20000 in
set_option maxHeartbeats 2000000 in
theorem RSet_any (vn B : Nat) (A : Option Addr) (n c : Nat) (w : World) (hv : vn ≤ 8) (hB : B < 1000) :
    Calls Try.prog 36 #[.agg #[.int .i64 (vn : Nat), .slice A n c], .int .i64 (B : Nat)] w (FlowPost w (pick (fun v => B.testBit v) vn)) := by
  have HS : Hid (SetRel w vn B A n c (.slice none 0 0) (.int .i64 0) (w.alloc (.cells #[.int .i64 (vn : Nat), .slice A n c] 24))) := ⟨0, Nat.zero_le _, rfl, grow0 _ _, Own.new w 24 [.int .i64 (vn : Nat), .slice A n c], Mine.nil _ _⟩
  go_enter Try.func36, Try.ntmps36
  go_wp2
  go_loopw [5, 6] (fun o i wr => SetRel w vn B A n c o i wr) (fun _ i _ => vn - (intOf i).toNat)
  case atStart => exact HS.out
  case round =>
    clear HS
    obtain ⟨k, hk, rfl, hg, ob, mo⟩ := hrel
    have G := Lib.hid hg
    have OB := Lib.hid ob
    have MO := Lib.hid mo
    have hsz := ob.lt
    obtain ⟨p0, p1⟩ := ob.two
    clear hg ob mo
    by_cases hlt : k < vn
    · have hb := bit_at B k hB
      have hl := pick_len (fun v => B.testBit v) k
      cases ht : B.testBit k
      · have HN : Hid (pick (fun v => B.testBit v) (k + 1) = pick (fun v => B.testBit v) k) := pick_no ht
        rw [bitI, ht] at hb
        simp only [Bool.false_eq_true, if_false] at hb
        clear ht
        go_wp2
        go_roundw
        case rel => exact ⟨k + 1, by omega, by go_num, G.out, OB.out, by rw [HN.out]; exact MO.out⟩
        case measure => simp [intOf]; omega
      · have HY : Hid (pick (fun v => B.testBit v) (k + 1) = pick (fun v => B.testBit v) k ++ [(k : Int)]) := pick_yes ht
        rw [bitI, ht] at hb
        simp only [if_true] at hb
        clear ht
        generalize pick (fun v => B.testBit v) k = xs at *
        have kl := grow0 wr (.cells #[.int .i64 (k : Nat)] 3)
        have HM1 := Lib.hid (MO.out.kept kl)
        have hge := Lib.hid MO.out.own_ge
        have HROW := Lib.hid (Row.newAt (w := wr) (g := wr.heap.size) (n := 1) (vs := #[.int .i64 (k : Nat)]) [(k : Int)] (by simp) rfl rfl (by simp) (by simp; omega))
        have GE := Lib.hid (grown_trans G.out kl)
        have OBE := Lib.hid (OB.out.kept kl)
        clear kl MO G OB
        go_wp2_with (first | (at_builtin; refine wpList_app _ rfl _ _ rfl (w.heap.size + 1) _ _ _ rfl HM1.out _ 1 1 [(k : Int)] rfl HROW.out (by simp) (by omega) (by simp; omega) ?_))
        intro v1 w3 hm1 hg3 _
        have G3 := Lib.hid (grown_none GE.out hg3 (fun g hg => by have := hge.out g hg; omega))
        have O3 := Lib.hid (OBE.out.kept' hg3 (fun e => by have := hge.out _ e; omega))
        have HM3 := Lib.hid hm1
        clear hm1 hg3
        go_wp2
        go_roundw
        case rel => exact ⟨k + 1, by omega, by go_num, G3.out, O3.out, by rw [HY.out]; simpa using HM3.out⟩
        case measure => simp [intOf]; omega
    · obtain rfl : k = vn := by omega
      go_wp2
      go_ret
      exact ⟨_, rfl, MO.out.wide (by omega), G.out⟩

theorem mem_bits {vn B : Nat} {x : Int} (h : 0 ≤ x ∧ x < (vn : Int)) : decide (x ∈ pick (fun v => B.testBit v) vn) = B.testBit x.toNat := by
  cases ht : B.testBit x.toNat
  · refine decide_eq_false fun hm => ?_
    obtain ⟨i, _, hi, rfl⟩ := pick_mem.1 hm
    rw [Int.toNat_natCast, hi] at ht
    cases ht
  · exact decide_eq_true (pick_mem.2 ⟨x.toNat, by omega, ht, by omega⟩)

theorem wk_cut {vn B : Nat} {L : List Lk} {caps : List Int} (hm : mayG (vn : Nat) L = true) : ∀ k, k ≤ L.length → wk L caps (pick (fun v => B.testBit v) vn) k = cutW (fun v => B.testBit v) L caps k
  | 0, _ => rfl
  | k + 1, hk => by
    have hj := may_joins hm (i := k) (by omega)
    have ih := wk_cut (B := B) (caps := caps) hm k (by omega)
    unfold cutW at ih ⊢
    rw [wk, sumN, ih, leaves, mem_bits ⟨hj.1, hj.2.1⟩, mem_bits ⟨hj.2.2.1, hj.2.2.2.1⟩]
    rfl

theorem worth_cut {vn B : Nat} {L : List Lk} {caps : List Int} (hm : mayG (vn : Nat) L = true) (hc : capsB L caps = true) : wthV (vn : Nat) L caps (pick (fun v => B.testBit v) vn) = .tuple #[.int .i64 (cutW (fun v => B.testBit v) L caps L.length), .int .i64 0] := by
  have hb : worthB (vn : Nat) L caps (pick (fun v => B.testBit v) vn) = true := by rw [worthB, leavB, hm, hc, verts_pick]; rfl
  rw [wthV, worthX, worthE, if_pos hb, if_pos hb, wk_cut hm _ (Nat.le_refl _)]

theorem cut_bd {vn B : Nat} {L : List Lk} {caps : List Int} (hm : mayG (vn : Nat) L = true) (hc : capsB L caps = true) : 0 ≤ cutW (fun v => B.testBit v) L caps L.length ∧ cutW (fun v => B.testBit v) L caps L.length ≤ 4611686018427387904 := by
  rw [← wk_cut (vn := vn) hm _ (Nat.le_refl _)]
  exact wk_bd _ hm hc (Nat.le_refl _)

def okC (s t B : Nat) : Bool := B.testBit s && !B.testBit t
def wtC (L : List Lk) (caps : List Int) (B : Nat) : Int := cutW (fun v => B.testBit v) L caps L.length

def LeastRel (w : World) (vn sn tn : Nat) (A : Option Addr) (n c : Nat) (L : List Lk) (caps : List Int) (o i : Value) (wr : World) : Prop :=
  ∃ B : Nat, B ≤ 2 ^ vn ∧ i = .int .i64 (B : Nat) ∧ o = .int .i64 (leastN (okC sn tn) (wtC L caps) B) ∧ w.grownBy wr none ∧ Own wr w.heap.size 24 [.int .i64 (vn : Nat), .slice A n c]

theorem least_yes {ok : Nat → Bool} {w : Nat → Int} {B : Nat} (h : ok B = true) (k : w B < leastN ok w B) : leastN ok w (B + 1) = w B := by rw [leastN, if_pos ⟨h, k⟩]
theorem least_no {ok : Nat → Bool} {w : Nat → Int} {B : Nat} (h : ¬ (ok B = true ∧ w B < leastN ok w B)) : leastN ok w (B + 1) = leastN ok w B := by rw [leastN, if_neg h]

set_option maxRecDepth 20000 in
set_option maxHeartbeats 4000000 in
theorem RLeast_any (vn sn tn : Nat) (A : Option Addr) (n c : Nat) (L : List Lk) (Y : Option Addr) (p e0 : Nat) (caps : List Int) (w : World) {B0 B'' : Nat} (h : Lks w B0 A n L) (hB : B0 ≤ w.heap.size) (hy : Row w B'' Y p caps) (hB'' : B'' ≤ w.heap.size) (hm : mayG (vn : Nat) L = true) (hc : capsB L caps = true) (hs : sn < vn) (ht : tn < vn) :
    Calls Try.prog 21 #[.agg #[.int .i64 (vn : Nat), .slice A n c], .slice Y p e0, .int .i64 (sn : Nat), .int .i64 (tn : Nat)] w (Says w (.int .i64 (leastN (okC sn tn) (wtC L caps) (2 ^ vn)))) := by
  have h8 := may_small hm
  have HR := Lib.hid h
  have HY := Lib.hid hy
  have HMAY := Lib.hid hm
  have HCAP := Lib.hid hc
  have hp : 2 ^ vn ≤ 256 := Nat.pow_le_pow_right (n := 2) (by omega) (show vn ≤ 8 by omega)
  have hp1 : 1 ≤ 2 ^ vn := Nat.one_le_two_pow
  have HS : Hid (LeastRel w vn sn tn A n c L caps (.int .i64 4611686018427387904) (.int .i64 0) (w.alloc (.cells #[.int .i64 (vn : Nat), .slice A n c] 24))) := ⟨0, Nat.zero_le _, rfl, rfl, grow0 _ _, Own.new w 24 [.int .i64 (vn : Nat), .slice A n c]⟩
  clear h hy hm hc
  obtain ⟨P, hP⟩ : ∃ P, 2 ^ vn = P := ⟨_, rfl⟩
  have HP := Lib.hid hP
  rw [hP] at hp hp1
  have hw : wrap64 ((2 : Int) ^ vn) = (P : Int) := by
    have e : ((2 : Int) ^ vn) = (P : Int) := by rw [← hP]; simp
    rw [e]
    exact IntWalk.wrap64_in (P : Int) (by omega)
  clear hP
  go_enter Try.func21, Try.ntmps21
  go_wp2
  go_loopw [9, 10] (fun o i wr => LeastRel w vn sn tn A n c L caps o i wr) (fun _ i _ => P - (intOf i).toNat)
  case atStart => exact HS.out
  case round =>
    clear HS
    obtain ⟨B, hBk, rfl, rfl, hg, ob⟩ := hrel
    rw [HP.out] at hBk
    have G := Lib.hid hg
    have OB := Lib.hid ob
    have hsz := ob.lt
    obtain ⟨p0, p1⟩ := ob.two
    have bd1 := least_most (ok := okC sn tn) (w := wtC L caps) B
    have bd0 := least_low (ok := okC sn tn) (w := wtC L caps) (x := 0) (by omega) B (fun B' _ _ => (cut_bd HMAY.out HCAP.out).1)
    clear hg ob
    by_cases hlt : B < P
    · have b1 := bit_at B sn (by omega)
      have b2 := bit_at B tn (by omega)
      have OKC : Hid (okC sn tn B = (B.testBit sn && !B.testBit tn)) := rfl
      have HY1 := Lib.hid (least_yes (ok := okC sn tn) (w := wtC L caps) (B := B))
      have HN1 := Lib.hid (least_no (ok := okC sn tn) (w := wtC L caps) (B := B))
      have WC := Lib.hid (worth_cut (B := B) HMAY.out HCAP.out)
      have cbd := cut_bd (B := B) HMAY.out HCAP.out
      have OKP : Hid (okI (pick (fun v => B.testBit v) vn)) := get_ok fun x hx => by
        obtain ⟨i, hi, _, rfl⟩ := pick_mem.1 hx
        omega
      have HWT : Hid (wtC L caps B = cutW (fun v => B.testBit v) L caps L.length) := rfl
      generalize leastN (okC sn tn) (wtC L caps) B = best at *
      cases h1 : B.testBit sn
      · rw [bitI, h1] at b1
        simp only [Bool.false_eq_true, if_false] at b1
        have HN2 := Lib.hid (HN1.out (fun h => by rw [OKC.out, h1] at h; simp at h))
        clear HY1 HN1 WC h1 b2
        go_wp2
        go_roundw
        case rel => exact ⟨B + 1, by rw [HP.out]; omega, by go_num, by rw [HN2.out], G.out, OB.out⟩
        case measure => simp [intOf]; omega
      · rw [bitI, h1] at b1
        simp only [if_true] at b1
        cases h2 : B.testBit tn
        case true =>
          rw [bitI, h2] at b2
          simp only [if_true] at b2
          have HN2 := Lib.hid (HN1.out (fun h => by rw [OKC.out, h1, h2] at h; simp at h))
          clear HY1 HN1 WC h1 h2
          go_wp2
          go_roundw
          case rel => exact ⟨B + 1, by rw [HP.out]; omega, by go_num, by rw [HN2.out], G.out, OB.out⟩
          case measure => simp [intOf]; omega
        rw [bitI, h2] at b2
        simp only [Bool.false_eq_true, if_false] at b2
        have HOK : Hid (okC sn tn B = true) := by rw [Hid, OKC.out, h1, h2]; rfl
        clear OKC h1 h2
        go_upto_region 6 with fail
        have HS := Lib.hid OB.out.two
        have GK := Lib.hid (World.grownBy.refl wr none)
        have C2 : Hid (∀ (wx : World) (Av : Option Addr) (cv : Nat), wr.grownBy wx none → Row wx wx.heap.size Av (pick (fun v => B.testBit v) vn).length (pick (fun v => B.testBit v) vn) → Calls Try.prog 35 #[.agg #[.int .i64 (vn : Nat), .slice A n c], .slice Y p e0, .slice Av (pick (fun v => B.testBit v) vn).length cv] wx (Says wx (.tuple #[.int .i64 (cutW (fun v => B.testBit v) L caps L.length), .int .i64 0]))) := fun wx Av cv g r => by
          have k := RWorth_any (vn : Nat) A n c L Y p e0 caps Av (pick (fun v => B.testBit v) vn).length cv (pick (fun v => B.testBit v) vn) wx (HR.out.grown hB (grown_trans G.out g)) (by have := (grown_trans G.out g).size; omega) (HY.out.grown hB'' (grown_trans G.out g)) (by have := (grown_trans G.out g).size; omega) r (Nat.le_refl _)
          rw [WC.out] at k
          exact k
        have C1 := Lib.hid (fun wx => RSet_any vn B A n c wx (by omega) (by omega))
        clear WC
        generalize cutW (fun v => B.testBit v) L caps L.length = wt at *
        generalize pick (fun v => B.testBit v) vn = xs at *
        go_region_held3 (fun w' : World => w'.cell? ⟨w.heap.size, 0, none⟩ = some (.int .i64 (vn : Nat)) ∧ w'.cell? ⟨w.heap.size, 1, none⟩ = some (.slice A n c))
          (exact HS.out)
          (first
            | (go_at_call 36; refine (C1.out _).mono ?_; rintro e w8 ⟨v, rfl, mv, g⟩; obtain ⟨Av, cv, rfl, _, _, rv⟩ := mv.rowN OKP.out; have RV := Lib.hid rv; have GK : Hid (wr.grownBy w8 none) := (by first | exact grown_trans GK.out g | exact grown_trans (grown_drew GK.out) g | exact grown_trans (grown_drewN GK.out _) g); have HS := Lib.hid (held2L g HS.out); clear g mv rv)
            | (go_at_call 35; refine (C2.out _ Av cv (by first | exact GK.out | exact grown_drew GK.out | exact grown_drewN GK.out _) (by first | exact RV.out | exact RV.out.drewN _)).mono ?_; rintro e w9 ⟨rfl, g⟩; have GK : Hid (wr.grownBy w9 none) := (by first | exact grown_trans GK.out g | exact grown_trans (grown_drew GK.out) g | exact grown_trans (grown_drewN GK.out _) g); have HS := Lib.hid (held2L g HS.out); clear g))
        have G9 := Lib.hid (grown_trans G.out GK.out)
        have OB9 := Lib.hid (OB.out.kept GK.out)
        clear GK HS C1 C2 RV G OB p0 p1
        by_cases hw2 : wt < best
        · have HY2 := Lib.hid (HY1.out HOK.out (by rw [HWT.out]; exact hw2))
          clear HY1 HN1
          go_wp2
          go_roundw
          case rel => exact ⟨B + 1, by rw [HP.out]; omega, by go_num, by rw [HY2.out, HWT.out], G9.out, OB9.out⟩
          case measure => simp [intOf]; omega
        · have HN2 := Lib.hid (HN1.out (fun h => hw2 (by rw [← HWT.out]; exact h.2)))
          clear HY1 HN1
          go_wp2
          go_roundw
          case rel => exact ⟨B + 1, by rw [HP.out]; omega, by go_num, by rw [HN2.out], G9.out, OB9.out⟩
          case measure => simp [intOf]; omega
    · obtain rfl : B = P := by omega
      go_wp2
      go_ret
      exact ⟨by rw [HP.out]; rfl, G.out⟩

end Go.Proofs.Ytcilhidoiomfkaa

namespace Go.Proofs.Ytcilhidoiomfkaa
open Go.RowKit

def blkV (v : Value) (k z : Int) : Value := .tuple #[v, .int .i64 k, .int .i64 z]

def YesPost (w : World) (N : Net) (most : Int) (e : Ending) (w' : World) : Prop :=
  ∃ b k, BlkIs N.V N.ls N.caps N.f N.s N.t most b k N.M ∧ ∃ v, e = .returned (blkV v k 0) ∧ Mine w' w.heap.size v b.length b ∧ w.grownBy w' none

set_option maxRecDepth 20000 in
set_option maxHeartbeats 2000000 in
theorem Block_yes (N : Net) (ok : N.Ok) (A : Option Addr) (c : Nat) (X : Option Addr) (m d : Nat) (Y : Option Addr) (r e0 : Nat) (most : Int) (w : World) {B B' B'' : Nat} (h : Lks w B A N.n N.ls) (hB : B ≤ w.heap.size) (hx : Row w B' X m N.caps) (hB' : B' ≤ w.heap.size) (hy : Row w B'' Y r N.f) (hB'' : B'' ≤ w.heap.size) (m0 : 0 ≤ most) (m1 : most ≤ 4611686018427387904) :
    Calls Try.prog 9 #[.agg #[.int .i64 (N.V : Nat), .slice A N.n c], .slice X m d, .slice Y r e0, .int .i64 N.s, .int .i64 N.t, .int .i64 most] w (YesPost w N most) := by
  have OK := Lib.hid ok
  have h8 := may_small ok.may
  rw [ok.hl] at h8
  have HR := Lib.hid h
  have HX := Lib.hid hx
  have HY := Lib.hid hy
  have HFL := Lib.hid ok.flow
  obtain ⟨_, ⟨s0, s1⟩, _⟩ := flow_parts ok.flow
  obtain ⟨sn, hsn⟩ : ∃ sn : Nat, N.s = (sn : Int) := ⟨N.s.toNat, by omega⟩
  have HSN := Lib.hid hsn
  have hlev : Hid (0 ≤ N.lev (sn : Int) ∧ (N.V : Int) ≤ N.lev (sn : Int) + N.V) := by
    have := ok.lv.src
    unfold Net.lev
    rw [← hsn, this]
    constructor <;> omega
  have hsv : sn < N.V := by rw [hsn] at s1; omega
  obtain ⟨pi, hbf⟩ := pi_first ok
  have PI1 := Lib.hid pi
  have HBF := Lib.hid hbf
  have HG0 := Lib.hid (grow0 w (.cells #[.int .i64 (N.V : Nat), .slice A N.n c] 24))
  clear h hx hy ok hsn s0 s1 pi hbf
  go_enter Try.func9, Try.ntmps9
  go_wp2_with fail
  refine (FMay_any (N.V : Nat) N.s N.t A N.n c N.ls X m d N.caps Y r e0 N.f _ (HR.out.grown hB HG0.out) (by simp; omega) (HX.out.grown hB' HG0.out) (by simp; omega) (HY.out.grown hB'' HG0.out) (by simp; omega)).mono ?_
  rintro e w1 ⟨he, g1⟩
  rw [HFL.out] at he
  subst he
  obtain ⟨g, ob⟩ := box1 [.int .i64 (N.V : Nat), .slice A N.n c] g1
  have G := Lib.hid g
  have OB := Lib.hid ob
  clear g g1 ob HG0
  obtain ⟨p0, p1⟩ := OB.out.two
  go_wp2_with fail
  refine (bbegin_any N OK.out A c X m d Y r e0 _ (HR.out.grown hB G.out) (by have := G.out.size; omega) (HX.out.grown hB' G.out) (by have := G.out.size; omega) (HY.out.grown hB'' G.out) (by have := G.out.size; omega)).mono ?_
  rintro e w2 ⟨Az, cz, rA, rc, gO, B2, base, vs, rfl, g2, h1, h2, h3, h4, h5, oo, hv, hh, fam⟩
  have PS := Lib.hid (Pst.first (cz := cz) OK.out h3 h4 h5 oo hv hh fam)
  have hrb : Hid (∀ b, rBlk rA = some b → w.heap.size ≤ b) := by
    intro b hb
    have hr := fam.head
    rw [rooms_len] at hr
    have := G.out.size
    rcases hr.2 with ⟨e, _⟩ | ⟨g', cap, cur, e, b1, b2, _⟩
    · injection e with e1 _ _
      subst e1
      simp [rBlk] at hb
    · injection e with e1 _ _
      subst e1
      simp only [rBlk, Option.map_some, Option.some.injEq] at hb
      omega
  have hgo : w.heap.size ≤ gO := by have := G.out.size; omega
  have G := Lib.hid (grown_trans (grown_trans G.out g2) (grow0 w2 (.cells #[.int .i64 N.t, .slice Az (2 * N.n) cz, .slice rA (2 * N.n) rc, .slice (some ⟨gO, 0, none⟩) N.V N.V] 50)))
  clear g2 oo hh fam OB p0 p1
  go_upto_region 4 with fail
  obtain ⟨q, hq⟩ : ∃ q, w2.heap.size = q := ⟨_, rfl⟩
  rw [hq] at PS
  generalize w2.alloc (.cells #[.int .i64 N.t, .slice Az (2 * N.n) cz, .slice rA (2 * N.n) rc, .slice (some ⟨gO, 0, none⟩) N.V N.V] 50) = w3 at *
  have hsz := G.out.size
  rw [hq, HSN.out]
  go_wp2_with fail
  refine (push_any N OK.out q gO base Az cz rA rc N.V sn most _ _ _ vs PS.out PI1.out hsv hlev.out.1 hlev.out.2 m0 m1).mono ?_
  rintro e w4 ⟨k, R, O, vs4, rfl, pl, pe, ps, tr⟩
  have BK : Hid (BlkIs N.V N.ls N.caps N.f N.s N.t most (bOf R N.n) k N.M) := blk_of OK.out HBF.out (by rw [HSN.out]; exact pl) (by rw [HSN.out]; exact pe)
  have G := Lib.hid (Trn.grown G.out tr hrb.out hgo)
  have HQ := Lib.hid ps.oq
  have hokR : okI R := by
    intro i
    by_cases hi : i < 2 * N.n
    · have := pl.inv.bd OK.out hi
      unfold rAt at this
      omega
    · rw [List.getElem?_eq_none (by rw [pl.inv.lenR]; omega)]
      simp
  have RR := Lib.hid (ps.rm.rowAt hokR)
  clear pl pe ps tr hokR PS
  go_wp2_with fail
  refine (flow_any q N.n rc N.t _ _ rA R _ HQ.out RR.out (by omega)).mono ?_
  rintro e w5 ⟨v, rfl, mv, k5⟩
  have G5 := Lib.hid (grown_trans G.out k5)
  have MV := Lib.hid (mv.wide G.out.size)
  clear k5 mv
  go_wp2
  go_ret3
  exact ⟨_, k, BK.out, v, rfl, MV.out, G5.out⟩

theorem Block_no (V s t most : Int) (A : Option Addr) (n c : Nat) (ls : List Lk) (X : Option Addr) (m d : Nat) (caps : List Int) (Y : Option Addr) (r e0 : Nat) (f : List Int) (w : World) {B B' B'' : Nat} (h : Lks w B A n ls) (hB : B ≤ w.heap.size) (hx : Row w B' X m caps) (hB' : B' ≤ w.heap.size) (hy : Row w B'' Y r f) (hB'' : B'' ≤ w.heap.size) (hno : (flowB V ls caps f s t && decide (0 ≤ most) && decide (most ≤ 4611686018427387904)) = false) :
    Calls Try.prog 9 #[.agg #[.int .i64 V, .slice A n c], .slice X m d, .slice Y r e0, .int .i64 s, .int .i64 t, .int .i64 most] w (Says w (blkV (.slice none 0 0) 0 1100)) := by
  have HR := Lib.hid h
  have HX := Lib.hid hx
  have HY := Lib.hid hy
  have HN := Lib.hid hno
  have HG0 := Lib.hid (grow0 w (.cells #[.int .i64 V, .slice A n c] 24))
  clear h hx hy hno
  go_enter Try.func9, Try.ntmps9
  go_wp2_with fail
  refine (FMay_any V s t A n c ls X m d caps Y r e0 f _ (HR.out.grown hB HG0.out) (by simp; omega) (HX.out.grown hB' HG0.out) (by simp; omega) (HY.out.grown hB'' HG0.out) (by simp; omega)).mono ?_
  rintro e w1 ⟨rfl, g1⟩
  obtain ⟨g, _⟩ := box1 [.int .i64 V, .slice A n c] g1
  have G := Lib.hid g
  clear g g1 HG0
  have hno := HN.out
  clear HN
  cases hf : flowB V ls caps f s t
  · clear hno
    go_wp2
    go_ret3
    exact ⟨rfl, G.out⟩
  · rw [hf] at hno
    by_cases m0 : most < 0
    · clear hno
      go_wp2
      go_ret3
      exact ⟨rfl, G.out⟩
    · by_cases m1 : 4611686018427387904 < most
      · clear hno
        go_wp2
        go_ret3
        exact ⟨rfl, G.out⟩
      · have h1 : 0 ≤ most := by omega
        have h2 : most ≤ 4611686018427387904 := by omega
        simp [h1, h2] at hno

def blkB (V : Int) (ls : List Lk) (caps f : List Int) (s t most : Int) : Bool := flowB V ls caps f s t && decide (0 ≤ most) && decide (most ≤ 4611686018427387904)

/-- What Block may tell. -/
def BlockIs (V : Int) (ls : List Lk) (caps f : List Int) (s t most : Int) (b : List Int) (k z : Int) : Prop :=
  (blkB V ls caps f s t most = true ∧ z = 0 ∧ ∃ M, IsLv V.toNat (Leads ls caps f (2 * ls.length)) s M ∧ BlkIs V.toNat ls caps f s t most b k M) ∨ (blkB V ls caps f s t most = false ∧ z = 1100 ∧ b = [] ∧ k = 0)

def BlockPost (w : World) (V : Int) (ls : List Lk) (caps f : List Int) (s t most : Int) (e : Ending) (w' : World) : Prop :=
  ∃ b k z, BlockIs V ls caps f s t most b k z ∧ ∃ v, e = .returned (blkV v k z) ∧ Mine w' w.heap.size v b.length b ∧ w.grownBy w' none

theorem blkB_parts {V : Int} {ls : List Lk} {caps f : List Int} {s t most : Int} (h : blkB V ls caps f s t most = true) : flowB V ls caps f s t = true ∧ 0 ≤ most ∧ most ≤ 4611686018427387904 := by
  simp only [blkB, Bool.and_eq_true, decide_eq_true_eq] at h
  exact ⟨h.1.1, h.1.2, h.2⟩

theorem flow_may {V : Int} {L : List Lk} {caps f : List Int} {s t : Int} (h : flowB V L caps f s t = true) : fitsF V L caps f = true := by
  simp only [flowB, Bool.and_eq_true] at h
  exact h.1.1.1.1

theorem Block_any (V s t most : Int) (A : Option Addr) (n c : Nat) (ls : List Lk) (X : Option Addr) (m d : Nat) (caps : List Int) (Y : Option Addr) (r e0 : Nat) (f : List Int) (w : World) {B B' B'' : Nat} (h : Lks w B A n ls) (hB : B ≤ w.heap.size) (hx : Row w B' X m caps) (hB' : B' ≤ w.heap.size) (hy : Row w B'' Y r f) (hB'' : B'' ≤ w.heap.size) :
    Calls Try.prog 9 #[.agg #[.int .i64 V, .slice A n c], .slice X m d, .slice Y r e0, .int .i64 s, .int .i64 t, .int .i64 most] w (BlockPost w V ls caps f s t most) := by
  cases hb : blkB V ls caps f s t most
  · refine (Block_no V s t most A n c ls X m d caps Y r e0 f w h hB hx hB' hy hB'' hb).mono ?_
    rintro e w' ⟨rfl, g⟩
    exact ⟨[], 0, 1100, .inr ⟨hb, rfl, rfl, rfl⟩, _, rfl, Mine.nil _ _, g⟩
  · obtain ⟨h1, h2, h3⟩ := blkB_parts hb
    have hm := (fits_parts (flow_may h1)).1
    have h8 := may_small hm
    obtain ⟨vn, rfl⟩ : ∃ vn : Nat, V = (vn : Nat) := ⟨V.toNat, by omega⟩
    have hl := h.len
    subst hl
    obtain ⟨_, hs, _⟩ := flow_parts h1
    obtain ⟨M, hM⟩ := lev_there (caps := caps) (f := f) hm rfl hs
    refine (Block_yes ⟨vn, ls.length, ls, caps, f, M, s, t⟩ ⟨rfl, h1, hM⟩ A c X m d Y r e0 most w h hB hx hB' hy hB'' h2 h3).mono ?_
    rintro e w' ⟨b, k, hk, v, rfl, mv, g⟩
    exact ⟨b, k, 0, .inl ⟨hb, rfl, M, hM, hk⟩, v, rfl, mv, g⟩

theorem Block_okI {V : Int} {ls : List Lk} {caps f : List Int} {s t most : Int} {b : List Int} {k z : Int} (h : BlockIs V ls caps f s t most b k z) : okI b ∧ b.length ≤ 16 := by
  rcases h with ⟨h1, _, M, _, h3⟩ | ⟨_, _, rfl, _⟩
  · obtain ⟨f1, _, _, f4⟩ := fits_parts (flow_parts h3.flow).1
    have h8 := may_small f1
    have hl := flow_len h3.flow
    refine ⟨fun i => ?_, by omega⟩
    by_cases hi : i < ls.length
    · have hb := f_bd f4 hi
      have h5 := may_sum f1 (i + 1) (by omega)
      have h6 := (gk_bd (f := b) 0 f4 i (by omega)).1
      rw [capSum] at h5
      omega
    · rw [List.getElem?_eq_none (by omega)]
      simp
  · refine ⟨fun i => by simp, by simp⟩

end Go.Proofs.Ytcilhidoiomfkaa

namespace Go.Proofs.Ytcilhidoiomfkaa
open Go.RowKit

theorem small11_any (w : World) : Calls Try.prog 22 #[] w (SmallPost w) := by
  have HB := Lib.hid (box2 (w := w) (T := 24) (U := 56) [.int .i64 3, .slice (some ⟨w.heap.size + 1, 0, none⟩) 3 3] smallV (World.grownBy.refl _ none))
  go_enter Try.func22, Try.ntmps22
  go_wp2
  obtain ⟨g, o1, o2⟩ := HB.out
  exact post_graph rfl rfl o1.two.1 o1.two.2 rfl ⟨w.heap.size + 1, rfl, small_flat ▸ o2, by omega, g⟩

theorem BlockS {w0 w : World} {gs gc gf p q : Nat} {os : List (Nat × TypeId × List Value)} {s t most : Int} (caps f : List Int) (hcapsn : p = caps.length) (hcapsl : caps.length ≤ 1000) (hcapsb : caps.all bdB = true) (mcaps : (gc, 3, ints caps) ∈ os) (hfn : q = f.length) (hfl : f.length ≤ 1000) (hfb : f.all bdB = true) (mf : (gf, 3, ints f) ∈ os) (h : SB w0 w os) (ms : (gs, 56, linkE.flat smallL) ∈ os) :
    Calls Try.prog 9 #[.agg #[.int .i64 3, .slice (some ⟨gs, 0, none⟩) 3 3], .slice (some ⟨gc, 0, none⟩) p p, .slice (some ⟨gf, 0, none⟩) q q, .int .i64 s, .int .i64 t, .int .i64 most] w (BlockPost w 3 smallL caps f s t most) :=
  Block_any 3 s t most _ 3 3 smallL _ p p caps _ q q f w (h.lks ms) (Nat.le_refl _) (h.row caps mcaps hcapsn hcapsl hcapsb) (Nat.le_refl _) (h.row f mf hfn hfl hfb) (Nat.le_refl _)

theorem lv_small0 : IsLv 3 (Leads smallL [5, 4, 3] [0, 0, 0] (2 * smallL.length)) 0 [0, 1, 1] := by
  refine ⟨rfl, by decide, fun v hv => ?_, fun v hv => ?_, fun u v h => ?_, fun v hv => ?_⟩
  · rcases small_v hv with rfl | rfl | rfl <;> decide
  · rcases small_v hv with rfl | rfl | rfl <;> decide
  · obtain ⟨a, ha, rfl, rfl, hr⟩ := h
    have ha : a < 6 := ha
    rcases (show a = 0 ∨ a = 1 ∨ a = 2 ∨ a = 3 ∨ a = 4 ∨ a = 5 by omega) with rfl | rfl | rfl | rfl | rfl | rfl <;> revert hr <;> decide
  · rcases small_v hv with rfl | rfl | rfl
    · exact fun h => absurd h (by decide)
    · exact fun _ => ⟨0, ⟨0, by decide, by decide, by decide, by decide⟩, by decide⟩
    · exact fun _ => ⟨0, ⟨4, by decide, by decide, by decide, by decide⟩, by decide⟩

theorem small_may : mayG (3 : Nat) smallL = true := by decide

/-- Three numbers that are a flow in the small graph. -/
theorem small_flow {b : List Int} {caps : List Int} (h : flowB (3 : Nat) smallL caps b 0 2 = true) : ∃ x y : Int, b = [x, x, y] ∧ 0 ≤ x ∧ 0 ≤ y ∧ gainOf smallL b 0 = x + y ∧ (∀ i : Nat, i < 3 → b[i]?.getD 0 ≤ caps[i]?.getD 0) := by
  obtain ⟨h1, _, _, _, _, h6⟩ := flow_parts h
  obtain ⟨_, f2, f3, _⟩ := fits_parts h1
  have hl := flow_len h
  have hc := (capsB_parts f2).1
  match b, hl with
  | [x, y, z], _ =>
    have g1 := h6 1 (by omega) (by decide) (by decide)
    have e1 : gainOf smallL [x, y, z] ((1 : Nat) : Int) = y - x := by simp [gainOf, gk, outP, inP, at3, smallL]; omega
    have e0 : gainOf smallL [x, y, z] 0 = x + z := by simp [gainOf, gk, outP, inP, at3, smallL]
    rw [e1] at g1
    obtain rfl : y = x := by omega
    have hr : ∀ i : Nat, i < 3 → 0 ≤ [y, y, z][i]?.getD 0 ∧ [y, y, z][i]?.getD 0 ≤ caps[i]?.getD 0 := fun i hi => rates_at f3 (by rw [hc]; exact hi)
    exact ⟨y, z, rfl, (hr 0 (by omega)).1, (hr 2 (by omega)).1, e0, fun i hi => (hr i hi).2⟩

theorem blk_small1 {b : List Int} {k z : Int} (h : BlockIs 3 smallL [5, 4, 3] [0, 0, 0] 0 2 9 b k z) : b = [0, 0, 3] ∧ k = 3 ∧ z = 0 := by
  rcases h with ⟨_, hz, M, hM, hb⟩ | ⟨h1, _⟩
  · obtain rfl := lev_one (leads_in small_may rfl) (fun _ _ => Iff.rfl) lv_small0 hM
    obtain ⟨x, y, rfl, x0, y0, hg, hc⟩ := small_flow hb.flow
    have hv := hb.val
    rw [hg, show gainOf smallL [0, 0, 0] 0 = 0 by decide] at hv
    have hx : ¬ 0 < x := fun hx => absurd (hb.over.up 1 (by decide) hx) (by decide)
    obtain rfl : x = 0 := by omega
    have h2 : y ≤ 3 := hc 2 (by omega)
    rcases hb.shut with e | e
    · omega
    · by_cases hy : y = 3
      · subst hy
        exact ⟨rfl, by omega, hz⟩
      · refine absurd ?_ e
        refine Way.on 4 (by decide) ⟨by decide, ?_⟩ .here
        show 0 < (3 : Int) - y
        omega
  · exact absurd h1 (by decide)

theorem blk_small2 {b : List Int} {k z : Int} (h : BlockIs 3 smallL [5, 4, 3] [0, 0, 3] 0 2 1 b k z) : b = [1, 1, 3] ∧ k = 1 ∧ z = 0 := by
  rcases h with ⟨_, hz, M, hM, hb⟩ | ⟨h1, _⟩
  · have hM2 : LvIs 3 smallL [5, 4, 3] [0, 0, 3] 0 M 0 := .inl ⟨by decide, rfl, hM⟩
    obtain ⟨rfl, _⟩ := lvIs_one lv_small1 hM2
    obtain ⟨x, y, rfl, x0, y0, hg, hc⟩ := small_flow hb.flow
    have hv := hb.val
    rw [hg, show gainOf smallL [0, 0, 3] 0 = 3 by decide] at hv
    have hy1 : ¬ 3 < y := fun hx => absurd (hb.over.up 2 (by decide) hx) (by decide)
    have hy2 : ¬ y < 3 := fun hx => absurd (hb.over.down 2 (by decide) hx) (by decide)
    obtain rfl : y = 3 := by omega
    have hl := hb.low
    have hh := hb.high
    rcases hb.shut with e | e
    · obtain rfl : x = 1 := by omega
      exact ⟨rfl, e, hz⟩
    · refine absurd ?_ e
      refine Way.on 2 (by decide) ⟨by decide, ?_⟩ (Way.on 0 (by decide) ⟨by decide, ?_⟩ .here)
      · show 0 < (4 : Int) - x
        omega
      · show 0 < (5 : Int) - x
        omega
  · exact absurd h1 (by decide)

theorem blk_small3 {b : List Int} {k z : Int} (h : BlockIs 3 smallL [5, 4, 3] [1, 0, 0] 0 2 1 b k z) : z = 1100 := by
  rcases h with ⟨h1, _⟩ | ⟨_, h2, _⟩
  · exact absurd h1 (by decide)
  · exact h2

set_option maxHeartbeats 4000000 in
theorem awake11_any (w : World) : Calls Try.prog 11 #[] w (Says w (.bool true)) := by
  have HS : Hid (SB w w []) := ⟨World.grownBy.refl w none, StS.nil _⟩
  go_enter Try.func11, Try.ntmps11
  go_wp2_with fail
  refine (small11_any _).mono ?_
  rintro e w1 ⟨gs1, rfl, os, _, k⟩
  have HS := Lib.hid ((HS.out.kept k).cons os)
  clear os k
  go_wp2_with fail
  refine (BlockS [5, 4, 3] [0, 0, 0] rfl (by decide) (by decide) (by simp [ints]) rfl (by decide) (by decide) (by simp [ints]) HS.out.lit.lit (by simp)).mono ?_
  rintro e w2 ⟨b, k1, z1, hb, va, rfl, ha, k⟩
  obtain ⟨rfl, rfl, rfl⟩ := blk_small1 hb
  obtain ⟨Aa, ca, rfl, _, ra⟩ := ha.row (ok_of (xs := [0, 0, 3]) (by decide))
  have RA := Lib.hid ra
  have HG2 := Lib.hid (World.grownBy.refl w2 none)
  have HS := Lib.hid (HS.out.lit.lit.kept k).less
  clear k ra ha hb
  unfold blkV
  go_wp2_with fail
  refine (small11_any _).mono ?_
  rintro e w3 ⟨gs3, rfl, os, _, k⟩
  have HS := Lib.hid ((HS.out.kept k).cons os)
  have HG2 := Lib.hid (grown_trans HG2.out k)
  clear os k
  go_wp2_with fail
  refine (BlockS [5, 4, 3] [0, 0, 3] rfl (by decide) (by decide) (by simp [ints]) rfl (by decide) (by decide) (by simp [ints]) HS.out.lit.lit (by simp)).mono ?_
  rintro e w4 ⟨b, k2, z2, hb, vb, rfl, ha, k⟩
  obtain ⟨rfl, rfl, rfl⟩ := blk_small2 hb
  obtain ⟨Ab, cb, rfl, _, rb⟩ := ha.row (ok_of (xs := [1, 1, 3]) (by decide))
  have RB := Lib.hid rb
  have HG2 := Lib.hid (grown_trans (grown_alloc (grown_alloc HG2.out _) _) k)
  have HG4 := Lib.hid (World.grownBy.refl w4 none)
  have HS := Lib.hid (HS.out.lit.lit.kept k).less
  clear k rb ha hb
  unfold blkV
  go_wp2_with fail
  refine (small11_any _).mono ?_
  rintro e w5 ⟨gs5, rfl, os, _, k⟩
  have HS := Lib.hid ((HS.out.kept k).cons os)
  have HG2 := Lib.hid (grown_trans HG2.out k)
  have HG4 := Lib.hid (grown_trans HG4.out k)
  clear os k
  go_wp2_with fail
  refine (BlockS [5, 4, 3] [1, 0, 0] rfl (by decide) (by decide) (by simp [ints]) rfl (by decide) (by decide) (by simp [ints]) HS.out.lit.lit (by simp)).mono ?_
  rintro e w6 ⟨b, k3, z3, hb, vc, rfl, ha, k⟩
  obtain rfl := blk_small3 hb
  have HG2 := Lib.hid (grown_trans (grown_alloc (grown_alloc HG2.out _) _) k)
  have HG4 := Lib.hid (grown_trans (grown_alloc (grown_alloc HG4.out _) _) k)
  have HS := Lib.hid (HS.out.lit.lit.kept k).less
  clear k ha hb
  unfold blkV
  go_wp2_with fail
  refine (SameS RA.out HS.out.lit (Nat.le_refl _) (grown_alloc HG2.out _) (by simp [ints]) rfl (by decide) (by decide)).mono ?_
  rintro e w7 ⟨rfl, k⟩
  have HS := Lib.hid (HS.out.lit.kept k).less
  have HG4 := Lib.hid (grown_trans (grown_alloc HG4.out _) k)
  clear k HG2 RA
  go_wp2_with fail
  refine (num_says _ _).mono ?_
  rintro e w8 ⟨rfl, k⟩
  have HS := Lib.hid (HS.out.kept k)
  have HG4 := Lib.hid (grown_trans HG4.out k)
  clear k
  go_wp2_with fail
  refine (SameS RB.out HS.out.lit (Nat.le_refl _) (grown_alloc HG4.out _) (by simp [ints]) rfl (by decide) (by decide)).mono ?_
  rintro e w9 ⟨rfl, k⟩
  have HS := Lib.hid (HS.out.lit.kept k).less
  clear k HG4 RB
  go_wp2_with fail
  refine (num_says _ _).mono ?_
  rintro e w10 ⟨rfl, k⟩
  have HS := Lib.hid (HS.out.kept k)
  clear k
  go_wp2_with fail
  refine (num_says _ _).mono ?_
  rintro e w11 ⟨rfl, k⟩
  have HS := Lib.hid (HS.out.kept k)
  clear k
  go_wp2
  go_ret
  exact ⟨rfl, HS.out.g⟩

end Go.Proofs.Ytcilhidoiomfkaa

namespace Go.Proofs.Ytcilhidoiomfkaa
open Go.RowKit

theorem block_yes {vn : Nat} {ls : List Lk} {caps f b M : List Int} {s t most k z : Int} (hb : blkB (vn : Nat) ls caps f s t most = true) (h : BlockIs (vn : Nat) ls caps f s t most b k z) (hM : IsLv vn (Leads ls caps f (2 * ls.length)) s M) : z = 0 ∧ BlkIs vn ls caps f s t most b k M := by
  rcases h with ⟨_, hz, M', hM', hk⟩ | ⟨h1, _⟩
  · rw [Int.toNat_natCast] at hM' hk
    have hm := (fits_parts (flow_may (blkB_parts hb).1)).1
    obtain rfl := lev_one (leads_in hm rfl) (fun _ _ => Iff.rfl) hM hM'
    exact ⟨hz, hk⟩
  · rw [hb] at h1; cases h1

theorem blkB_mk {V : Int} {ls : List Lk} {caps f : List Int} {s t most : Int} (h : flowB V ls caps f s t = true) (h0 : 0 ≤ most) (h1 : most ≤ 4611686018427387904) : blkB V ls caps f s t most = true := by
  simp [blkB, h, h0, h1]

theorem flow_lvB {vn : Nat} {ls : List Lk} {caps f : List Int} {s t : Int} (h : flowB (vn : Nat) ls caps f s t = true) : lvB (vn : Nat) ls caps f s = true := by
  obtain ⟨h1, h2, _⟩ := flow_parts h
  rw [lvB, h1, Bool.true_and]
  exact isV_yes h2.1 h2.2

set_option maxRecDepth 20000 in
set_option maxHeartbeats 4000000 in
theorem BlockShut_walk (V : Int) (A : Option Addr) (n c : Nat) (ls : List Lk) (X : Option Addr) (m d : Nat) (caps : List Int) (Y : Option Addr) (r f0 : Nat) (f : List Int) (s t most : Int) (w : World) (h : InG w A n c ls) (hX : In w X m d caps) (hY : In w Y r f0 f) :
    Calls Try.prog 5 #[.agg #[.int .i64 V, .slice A n c], .slice X m d, .slice Y r f0, .int .i64 s, .int .i64 t, .int .i64 most] w (LawPost w) := by
  obtain ⟨hs, hnc, hc, hnil⟩ := h
  obtain ⟨hx, hpd, hd, hnilx⟩ := hX
  obtain ⟨hy, hqf, hf, hnily⟩ := hY
  have HR := Lib.hid hs
  have HL := Lib.hid hs.len
  have HX := Lib.hid hx
  have HY := Lib.hid hy
  have HLY := Lib.hid hy.len
  have HG0 := Lib.hid (grow0 w (.cells #[.int .i64 V, .slice A n c] 24))
  clear hs hnil hx hnilx hy hnily
  go_enter Try.func5, Try.ntmps5
  go_wp2_with fail
  refine (RFlow_any V s t A n c ls X m d caps Y r f0 f _ (HR.out.grown (Nat.le_refl _) HG0.out) (by simp) (HX.out.grown (Nat.le_refl _) HG0.out) (by simp) (HY.out.grown (Nat.le_refl _) HG0.out) (by simp)).mono ?_
  rintro e w1 ⟨rfl, k⟩
  obtain ⟨g1, ob⟩ := box1 [.int .i64 V, .slice A n c] k
  have G := Lib.hid g1
  have OB := Lib.hid ob
  clear k ob g1 HG0
  obtain ⟨p0, p1⟩ := OB.out.two
  cases hfl : flowB V ls caps f s t
  · clear hfl
    go_wp2
    go_ret
    exact ⟨rfl, below_of G.out⟩
  by_cases m0 : most < 0
  · clear hfl
    go_wp2
    go_ret
    exact ⟨rfl, below_of G.out⟩
  by_cases m1 : 4611686018427387904 < most
  · clear hfl
    go_wp2
    go_ret
    exact ⟨rfl, below_of G.out⟩
  have h8 := may_small (fits_parts (flow_may hfl)).1
  obtain ⟨vn, rfl⟩ : ∃ vn : Nat, V = (vn : Nat) := ⟨V.toNat, by omega⟩
  obtain ⟨hfit, hs2, ht2, _⟩ := flow_parts hfl
  obtain ⟨M, hM⟩ := lev_there (caps := caps) (f := f) (fits_parts hfit).1 rfl hs2
  have HLV : Hid (LvIs (vn : Nat) ls caps f s M 0) := lev_yes (flow_lvB hfl) rfl hM
  have OKM := Lib.hid (lvIs_okI HLV.out).1
  have hml := hM.len
  have LV := Lib.hid hM
  have HFL := Lib.hid hfl
  obtain ⟨tn, rfl⟩ : ∃ tn : Nat, t = (tn : Nat) := ⟨t.toNat, by have := ht2.1; omega⟩
  have htn : tn < vn := by have := ht2.2; omega
  have hbd := hM.bd _ ht2
  clear hfl hfit hs2 ht2 hM
  go_wp2_with fail
  refine (RLevels_any (vn : Nat) s A n c ls X m d caps Y r f0 f _ (HR.out.grown (Nat.le_refl _) G.out) G.out.size (HX.out.grown (Nat.le_refl _) G.out) G.out.size (HY.out.grown (Nat.le_refl _) G.out) G.out.size M 0 HLV.out).mono ?_
  rintro e w2 ⟨v2, rfl, h2, k⟩
  obtain ⟨Am, cm, rfl, _, _, rM⟩ := h2.rowN OKM.out
  rw [hml] at rM
  have RM := Lib.hid rM
  have G := Lib.hid (grown_trans G.out k)
  have OB := Lib.hid (OB.out.kept k)
  clear k h2 rM p0 p1
  obtain ⟨p0, p1⟩ := OB.out.two
  go_wp2_with fail
  refine (Block_any (vn : Nat) s (tn : Nat) most A n c ls X m d caps Y r f0 f _ (HR.out.grown (Nat.le_refl _) G.out) G.out.size (HX.out.grown (Nat.le_refl _) G.out) G.out.size (HY.out.grown (Nat.le_refl _) G.out) G.out.size).mono ?_
  rintro e w3 ⟨b, kk, z, hb, v3, rfl, h3, k⟩
  obtain ⟨okb, hbl⟩ := Block_okI hb
  obtain ⟨rfl, hbk⟩ := block_yes (blkB_mk HFL.out (by omega) (by omega)) hb LV.out
  obtain ⟨Ab, cb, rfl, _, _, rB⟩ := h3.rowN okb
  have BK := Lib.hid hbk
  have RB := Lib.hid rB
  have RM := Lib.hid ((RM.out.grown (Nat.le_refl _) k).wide k.size)
  have G := Lib.hid (grown_trans G.out k)
  have OB := Lib.hid (OB.out.kept k)
  have kl := hbk.low
  have kh := hbk.high
  clear k h3 rB hb okb hbk p0 p1
  obtain ⟨p0, p1⟩ := OB.out.two
  unfold blkV
  go_wp2_with fail
  refine (Block_any (vn : Nat) s (tn : Nat) 0 A n c ls X m d caps Y r f0 f _ (HR.out.grown (Nat.le_refl _) G.out) G.out.size (HX.out.grown (Nat.le_refl _) G.out) G.out.size (HY.out.grown (Nat.le_refl _) G.out) G.out.size).mono ?_
  rintro e w4 ⟨b0, j0, z0, hb, v4, rfl, h4, k⟩
  obtain ⟨okb, _⟩ := Block_okI hb
  obtain ⟨rfl, hbk⟩ := block_yes (blkB_mk HFL.out (by omega) (by omega)) hb LV.out
  obtain rfl : j0 = 0 := by have := hbk.low; have := hbk.high; omega
  obtain rfl : b0 = f := over_same HFL.out hbk.flow (by have := hbk.val; omega) hbk.over LV.out
  obtain ⟨A0, c0, rfl, _, _, r0⟩ := h4.rowN okb
  have R0 := Lib.hid r0
  have RB := Lib.hid ((RB.out.grown (Nat.le_refl _) k).wide k.size)
  have RM := Lib.hid ((RM.out.grown (Nat.le_refl _) k).wide k.size)
  have G := Lib.hid (grown_trans G.out k)
  clear k h4 r0 hb okb hbk p0 p1 OB
  unfold blkV
  go_wp2_with fail
  refine (num_says _ _).mono ?_
  rintro e w5 ⟨rfl, k⟩
  have R0 := Lib.hid ((R0.out.grown (Nat.le_refl _) k).wide k.size)
  have RB := Lib.hid ((RB.out.grown (Nat.le_refl _) k).wide k.size)
  have RM := Lib.hid ((RM.out.grown (Nat.le_refl _) k).wide k.size)
  have G := Lib.hid (grown_trans G.out k)
  clear k
  go_wp2_with fail
  refine (num_says _ _).mono ?_
  rintro e w6 ⟨rfl, k⟩
  have R0 := Lib.hid ((R0.out.grown (Nat.le_refl _) k).wide k.size)
  have RB := Lib.hid ((RB.out.grown (Nat.le_refl _) k).wide k.size)
  have RM := Lib.hid ((RM.out.grown (Nat.le_refl _) k).wide k.size)
  have G := Lib.hid (grown_trans G.out k)
  clear k
  have CS : Hid (∀ (wx : World) (Ax : Option Addr) (cx : Nat), w.grownBy wx none → Row wx wx.heap.size Ax b0.length b0 → Calls Try.prog 19 #[.slice Ax b0.length cx, .slice Y r f0] wx (Says wx (.bool true))) := fun wx Ax cx g rx => by
    have k := same_says (SameInts0_any Ax b0.length cx b0 Y r f0 b0 wx rx (HY.out.grown (Nat.le_refl _) g))
    rw [sameB_refl] at k
    exact k
  go_wp2_with fail
  refine (CS.out _ A0 c0 G.out R0.out).mono ?_
  rintro e w7 ⟨rfl, k⟩
  have RB := Lib.hid ((RB.out.grown (Nat.le_refl _) k).wide k.size)
  have RM := Lib.hid ((RM.out.grown (Nat.le_refl _) k).wide k.size)
  have G := Lib.hid (grown_trans G.out k)
  clear k R0
  go_wp2_with fail
  refine (awake11_any _).mono ?_
  rintro e w8 ⟨rfl, k⟩
  have RB := Lib.hid ((RB.out.grown (Nat.le_refl _) k).wide k.size)
  have RM := Lib.hid ((RM.out.grown (Nat.le_refl _) k).wide k.size)
  have G := Lib.hid (grown_trans G.out k)
  clear k
  obtain ⟨bm, offm, rfl, _, hcm⟩ := RM.out.at_ (by omega)
  have d0 := hcm tn htn
  rw [show M[tn]?.getD 0 = lvAt M (tn : Int) by simp [lvAt]] at d0
  have SO := Lib.hid (fun ht hm => blk_some HFL.out LV.out BK.out ht hm)
  have ST := Lib.hid (fun ht => blk_stays HFL.out LV.out BK.out ht)
  clear hcm
  generalize lvAt M (tn : Int) = lt at *
  by_cases hlt : 0 ≤ lt
  · by_cases hm : 0 < most
    · have hk := SO.out hlt hm
      clear SO ST
      go_wp2
      go_ret
      exact ⟨rfl, below_of G.out⟩
    · obtain rfl : kk = 0 := by omega
      obtain rfl : most = 0 := by omega
      clear SO ST
      go_wp2
      go_ret
      exact ⟨rfl, below_of G.out⟩
  · obtain ⟨rfl, hbf⟩ := ST.out (by omega)
    subst hbf
    obtain rfl : lt = -1 := by omega
    clear SO ST hlt
    go_wp2_with fail
    refine (CS.out _ Ab cb G.out RB.out).mono ?_
    rintro e w9 ⟨rfl, k⟩
    have G := Lib.hid (grown_trans G.out k)
    clear k
    go_wp2
    go_ret
    exact ⟨rfl, below_of G.out⟩

end Go.Proofs.Ytcilhidoiomfkaa

namespace Go.Proofs.Ytcilhidoiomfkaa
open Go.RowKit

def RdRel (w : World) (vn : Nat) (A : Option Addr) (n c : Nat) (ls : List Lk) (caps : List Int) (s t : Int) (u a i : Value) (wr : World) : Prop :=
  ∃ (k : Nat) (f : List Int) (all : Int) (Af : Option Addr) (cf : Nat), k ≤ vn ∧ i = .int .i64 (k : Nat) ∧ a = .int .i64 all ∧ u = .slice Af n cf ∧ w.grownBy wr none ∧ Own wr w.heap.size 24 [.int .i64 (vn : Nat), .slice A n c] ∧ Row wr wr.heap.size Af n f ∧ RoundI vn ls caps s t k f all

set_option maxRecDepth 20000 in
set_option maxHeartbeats 4000000 in
theorem BlockRounds_walk (V : Int) (A : Option Addr) (n c : Nat) (ls : List Lk) (X : Option Addr) (m d : Nat) (caps : List Int) (s t : Int) (w : World) (h : InG w A n c ls) (hX : In w X m d caps) :
    Calls Try.prog 6 #[.agg #[.int .i64 V, .slice A n c], .slice X m d, .int .i64 s, .int .i64 t] w (LawPost w) := by
  obtain ⟨hs, hnc, hc, hnil⟩ := h
  obtain ⟨hx, hpd, hd, hnilx⟩ := hX
  have HR := Lib.hid hs
  have HL := Lib.hid hs.len
  have HX := Lib.hid hx
  have HG0 := Lib.hid (grow0 w (.cells #[.int .i64 V, .slice A n c] 24))
  clear hs hnil hx hnilx
  go_enter Try.func6, Try.ntmps6
  go_wp2_with fail
  refine (RCaps_any V A n c ls X m d caps _ (HR.out.grown (Nat.le_refl _) HG0.out) (by simp) (HX.out.grown (Nat.le_refl _) HG0.out)).mono ?_
  rintro e w1 ⟨rfl, g1⟩
  obtain ⟨g, o2⟩ := box1 [.int .i64 V, .slice A n c] g1
  have G := Lib.hid g
  have OB := Lib.hid o2
  have l1 := o2.lt
  clear g g1 o2 HG0
  obtain ⟨p0, p1⟩ := OB.out.two
  cases hf : (mayG V ls && capsB ls caps)
  · clear hf
    go_wp2
    go_ret
    exact ⟨rfl, below_of G.out⟩
  rw [Bool.and_eq_true] at hf
  have HMAY := Lib.hid hf.1
  have HCAP := Lib.hid hf.2
  have h16 := may_small hf.1
  rw [HL.out] at h16
  obtain ⟨vn, rfl⟩ : ∃ vn : Nat, V = (vn : Nat) := ⟨V.toNat, by omega⟩
  clear hf
  by_cases s0 : s < 0
  · go_wp2
    go_ret
    exact ⟨rfl, below_of G.out⟩
  by_cases s1 : (vn : Int) ≤ s
  · go_wp2
    go_ret
    exact ⟨rfl, below_of G.out⟩
  by_cases t0 : t < 0
  · go_wp2
    go_ret
    exact ⟨rfl, below_of G.out⟩
  by_cases t1 : (vn : Int) ≤ t
  · go_wp2
    go_ret
    exact ⟨rfl, below_of G.out⟩
  by_cases hst : s = t
  · have hstb : (s == t) = true := by simp [hst]
    go_wp2
    go_ret
    exact ⟨rfl, below_of G.out⟩
  have hstb : (s == t) = false := by simp [hst]
  obtain ⟨sn, rfl⟩ : ∃ sn : Nat, s = (sn : Nat) := ⟨s.toNat, by omega⟩
  obtain ⟨tn, rfl⟩ : ∃ tn : Nat, t = (tn : Nat) := ⟨t.toNat, by omega⟩
  have RF := Lib.hid (round_first (L := ls) (caps := caps) HMAY.out HCAP.out (s := (sn : Int)) (t := (tn : Int)) ⟨by omega, by omega⟩ ⟨by omega, by omega⟩ hst)
  have hsn : sn < vn := by omega
  have htn : tn < vn := by omega
  obtain ⟨i0, hi, hz0, hz1, hz2⟩ := info_parts info3
  have HI := Lib.hid hi
  have HZ0 := Lib.hid hz0
  have HZ1 := Lib.hid hz1
  have HZ2 := Lib.hid hz2
  clear hi hz0 hz1 hz2 hst
  go_wp2_with (first | (refine wpList_make_full _ rfl _ _ 25 rfl w1.heap.size 3 i0 (.int .i64 0) 1 Try.underlying25 HI.out HZ0.out HZ1.out .i64 .i64 (n : Int) (n : Int) n rfl rfl rfl rfl (by rw [HZ2.out]; omega) (by unfold maxLen; omega) (Nat.le_refl _) ?_))
  intro w2 hmk k2
  rw [toList_madeCells_one, ints_zero] at hmk
  have oz := Own.of_made hmk
  have rz : Row w2 w2.heap.size (some ⟨w1.heap.size, 0, none⟩) n (List.replicate n 0) := (Own.mine (base := 0) oz (Nat.zero_le _) (by simp) (by omega)).rowAt (get_ok fun x hx => by rw [List.eq_of_mem_replicate hx]; omega)
  have rf := RF.out
  rw [HL.out] at rf
  have HS : Hid (RdRel w vn A n c ls caps (sn : Int) (tn : Int) (.slice (some ⟨w1.heap.size, 0, none⟩) n n) (.int .i64 0) (.int .i64 0) w2) := ⟨0, _, 0, _, n, Nat.zero_le _, rfl, rfl, rfl, grown_trans G.out k2, OB.out.kept k2, rz, rf⟩
  clear hmk k2 oz rz rf RF G OB p0 p1 HI HZ0 HZ1 HZ2
  go_wp2
  go_loopw [9, 10, 11] (fun u a i wr => RdRel w vn A n c ls caps (sn : Int) (tn : Int) u a i wr) (fun _ _ i _ => vn - (intOf i).toNat)
  case atStart => exact HS.out
  case round =>
    clear HS
    obtain ⟨k, f, all, Af, cf, hk, rfl, rfl, rfl, hg, ob, rf, rd⟩ := hrel
    have G := Lib.hid hg
    have OB := Lib.hid ob
    have RF := Lib.hid rf
    have RD := Lib.hid rd
    have hsz := hg.size
    obtain ⟨p0, p1⟩ := ob.two
    have hall := flow_most rd.flow
    rw [rd.val] at hall
    clear hg ob rf rd
    by_cases hlt : k < vn
    · obtain ⟨_, hs2, _⟩ := flow_parts RD.out.flow
      obtain ⟨M, hM⟩ := lev_there (caps := caps) (f := f) HMAY.out rfl hs2
      have LV := Lib.hid hM
      clear hs2 hM
      go_wp2_with fail
      refine (Block_any (vn : Nat) (sn : Nat) (tn : Nat) 4611686018427387904 A n c ls X m d caps Af n cf f _ (HR.out.grown (Nat.le_refl _) G.out) G.out.size (HX.out.grown (Nat.le_refl _) G.out) G.out.size RF.out (Nat.le_refl _)).mono ?_
      rintro e w3 ⟨b, kk, z, hb, v3, rfl, h3, k3⟩
      obtain ⟨okb, _⟩ := Block_okI hb
      obtain ⟨rfl, hbk⟩ := block_yes (blkB_mk RD.out.flow (by omega) (by omega)) hb LV.out
      obtain ⟨rd2, hkk⟩ := round_next RD.out LV.out hbk
      obtain ⟨Ab, cb, rfl, _, _, rB⟩ := h3.rowN okb
      have hbn : b.length = n := by rw [flow_len hbk.flow, HL.out]
      rw [hbn] at rB
      rw [hbn]
      have RB := Lib.hid rB
      have RD2 := Lib.hid rd2
      have kl := hbk.low
      have kh := hbk.high
      have G := Lib.hid (grown_trans G.out k3)
      have OB := Lib.hid (OB.out.kept k3)
      clear k3 h3 rB hb okb hbk rd2 RD RF p0 p1 hbn
      unfold blkV
      go_wp2_with fail
      refine (num_says _ _).mono ?_
      rintro e w4 ⟨rfl, k4⟩
      have RB := Lib.hid ((RB.out.grown (Nat.le_refl _) k4).wide k4.size)
      have G := Lib.hid (grown_trans G.out k4)
      have OB := Lib.hid (OB.out.kept k4)
      clear k4
      go_wp2
      go_roundw
      case rel => exact ⟨k + 1, b, all + kk, Ab, cb, by omega, by go_num, rfl, rfl, G.out, OB.out, RB.out, RD2.out⟩
      case measure => simp [intOf]; omega
    · obtain rfl : k = vn := by omega
      have HALL : Hid (leastN (okC sn tn) (wtC ls caps) (2 ^ k) = all) := round_all RD.out
      clear RF RD
      go_wp2_with fail
      refine (awake11_any _).mono ?_
      rintro e w3 ⟨rfl, k3⟩
      have G := Lib.hid (grown_trans G.out k3)
      have OB := Lib.hid (OB.out.kept k3)
      clear k3 p0 p1
      obtain ⟨p0, p1⟩ := OB.out.two
      go_wp2_with fail
      refine (RLeast_any k sn tn A n c ls X m d caps _ (HR.out.grown (Nat.le_refl _) G.out) G.out.size (HX.out.grown (Nat.le_refl _) G.out) G.out.size HMAY.out HCAP.out hsn htn).mono ?_
      rintro e w4 ⟨he, k4⟩
      rw [HALL.out] at he
      subst he
      have G := Lib.hid (grown_trans G.out k4)
      clear k4
      have heq : (all == all) = true := by simp
      go_wp2
      go_ret
      exact ⟨rfl, below_of G.out⟩

end Go.Proofs.Ytcilhidoiomfkaa

namespace Go.Proofs.Ytcilhidoiomfkaa
open Go.ChangeShapes Go.WideShapes Go.ChangeAt Go.RowKit
set_option linter.unusedVariables false

set_option maxRecDepth 100000 in
theorem BlockRounds_lifted (os : Os) (started : os.Started) (H : Type) (enc : TypeId × Value → H) :
    ReturnsInHanded {} Try.checked os 6 .any (Rows.blockRoundsSpec.pre6 enc Try.prog Try.f6 Rows.blockRoundsRow.domain false) (Rows.blockRoundsSpec.post enc Try.prog Try.f6 false true false false) := by
  refine returnsInHanded_of_change_sized (C := Try.checked) ownKnobNone started (by kernel_rfl) Try.func6
    (ChangeSpec.witness6 (enc := enc) (C := Try.checked) false ⟨#[], #[.agg #[.int .i64 0, .slice none 0 0], .slice none 0 0, .int .i64 0, .int .i64 0], []⟩ 8 (by kernel_rfl) (by kernel_rfl) (by kernel_rfl) (by kernel_rfl)) ?_
  intro W base args ds gs before hval0 hW hcnd hsz0 _
  have hsz : (DataW.weightsEach Try.prog (Try.f6.params.toList ++ Rows.blockRoundsSpec.plain.varTypes Try.prog) (ds ++ gs)).all (· ≤ reachBytes) = true := hsz0
  have hval : ∀ (j : Nat) t v, Try.f6.params[j]? = some t → args[j]? = some v → Value.okWide Try.prog W .any base t v := hval0
  have hW' := hW
  obtain ⟨p, q, hA0, hV, rfl, hfz, hnd⟩ := hW
  have hA : DataW.TrodAll enc Try.prog W 0 (fun _ => true) true Try.f6.params.toList args.toList ds p := hA0
  rw [Try.params6] at hA hval hsz
  obtain ⟨v0, vs0, d0, ds0, p0, q0, hargs, rfl, rfl, h0, r0⟩ := trodAll_cons hA
  obtain ⟨v1, vs1, d1, ds1, p1, q1, rfl, rfl, rfl, h1, r1⟩ := trodAll_cons r0
  obtain ⟨v2, vs2, d2, ds2, p2, q2, rfl, rfl, rfl, h2, r2⟩ := trodAll_cons r1
  obtain ⟨v3, vs3, d3, ds3, p3, q3, rfl, rfl, rfl, h3, r3⟩ := trodAll_cons r2
  obtain ⟨rfl, rfl, rfl⟩ := trodAll_nil r3
  obtain rfl : args = #[v0, v1, v2, v3] := by cases args; simp_all
  obtain ⟨rfl, rfl⟩ := trodVars_none hV
  have k0 := h0
  have lt0 : ∀ x ∈ p0, x.block < W.heap.size := by obtain ⟨m, hm⟩ := k0; exact DataW.trod_lt m _ _ _ hm
  have s0 : ∀ m ∈ d0.weights Try.prog 24, m ≤ reachBytes := fun m hm => by simpa using List.all_eq_true.1 hsz _ (DataW.weights_mem_each (j := 0) rfl rfl m hm)
  obtain ⟨V0, a0, len0, cap0, z0, rfl, wv0, w0⟩ := graph_in (hval 0 24 v0 rfl rfl) h0 s0
  obtain ⟨a1, len1, cap1, rfl⟩ := okWide_slice Try.underlying25 (hval 1 25 v1 rfl rfl)
  have k1 := h1
  have lt1 : ∀ x ∈ p1, x.block < W.heap.size := by obtain ⟨m, hm⟩ := k1; exact DataW.trod_lt m _ _ _ hm
  have s1 : ∀ m ∈ d1.weights Try.prog 25, m ≤ reachBytes := fun m hm => by simpa using List.all_eq_true.1 hsz _ (DataW.weights_mem_each (j := 1) rfl rfl m hm)
  obtain ⟨z1, w1⟩ := row_in h1 s1
  obtain ⟨a2, rfl, rfl, rfl, w2⟩ := open_int Try.underlying3 (hval 2 3 v2 rfl rfl) h2
  obtain ⟨a3, rfl, rfl, rfl, w3⟩ := open_int Try.underlying3 (hval 3 3 v3 rfl rfl) h3
  clear hA0 hval0 hsz0
  refine (BlockRounds_walk V0 a0 len0 cap0 z0 a1 len1 cap1 z1 a2 a3 W w0 w1).mono fun e W' ⟨he, bel⟩ => ?_
  subst he
  exact ⟨_, rfl, _, _, _, [], _, [], hW', trodAll_mk1 (shut_bool Try.underlying4 _), (trodAll_cons_mk (Below.trod laidOutAll (by kernel_rfl) (of_decide_eq_true (by kernel_rfl)) k0 bel lt0) (trodAll_cons_mk (Below.trod laidOutAll (by kernel_rfl) (of_decide_eq_true (by kernel_rfl)) k1 bel lt1) (trodAll_cons_mk (shut_int Try.underlying3 w2) (trodAll_cons_mk (shut_int Try.underlying3 w3) trodAll_mk0)))), rfl, bel.frame _, fun h => by cases h⟩

theorem BlockRounds_proved : Rows.BlockRoundsSaid :=
  OpenClaim.holds_of_wide 6 Try.f6 rfl rfl rfl rfl rfl rfl rfl ⟨rfl, rfl, rfl, rfl, rfl⟩ rfl rfl rfl rfl rfl (by kernel_rfl) Try.func6 (by kernel_rfl)
    (of_decide_eq_true (by kernel_rfl)) (by unfold Func.isWrapper; first | (rw [if_pos (by decide +kernel)]; kernel_rfl) | (rw [if_neg (by decide +kernel)]; exact ⟨rfl, rfl⟩))
    (fun os started H enc _ => BlockRounds_lifted os started H enc)
#print axioms BlockRounds_proved
end Go.Proofs.Ytcilhidoiomfkaa
