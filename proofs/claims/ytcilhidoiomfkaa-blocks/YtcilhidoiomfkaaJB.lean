/-
  (*block.pusher).flow, walked. stream.May and the reference's FlowMay. block.Block, walked. What every program answers that is one: layer 11's awake. The law BlockShut, walked: where the sink can't be reached nothing is pushed.
-/
import Derived.Test.YtcilhidoiomfkaaPushA
import Derived.Test.YtcilhidoiomfkaaFlowB
import Derived.Test.YtcilhidoiomfkaaPushE
import Derived.OwnWalk
import Derived.Test.YtcilhidoiomfkaaBlocks

namespace Go.Proofs.Ytcilhidoiomfkaa
open Go.RowKit

def FlowPost (w : World) (xs : List Int) (e : Ending) (w' : World) : Prop :=
  ∃ v, e = .returned v ∧ Mine w' w.heap.size v xs.length xs ∧ w.grownBy w' none

def FlowRel (w : World) (m : Nat) (R : List Int) (o i : Value) (wr : World) : Prop :=
  ∃ k : Nat, k ≤ m ∧ i = .int .i64 (k : Nat) ∧ w.grownBy wr none ∧ Mine wr w.heap.size o (k / 2) (bOf R (k / 2))

theorem bOf_next (R : List Int) (k : Nat) : bOf R (k + 1) = bOf R k ++ [rAt R (2 * k + 1)] := by simp [bOf, List.range_succ]

set_option maxRecDepth 20000 in
set_option maxHeartbeats 1000000 in
theorem flow_any (q n rc : Nat) (t : Int) (hs os : Value) (rA : Option Addr) (R : List Int) (w : World) {B : Nat} (hq : Own w q 50 [.int .i64 t, hs, .slice rA (2 * n) rc, os]) (hr : Row w B rA (2 * n) R) (hn : n ≤ 16) :
    Calls Try.prog 27 #[.pointer (some ⟨q, 0, none⟩)] w (FlowPost w (bOf R n)) := by
  obtain ⟨c0, c1, c2, c3⟩ := hq.four
  have HR := Lib.hid hr
  clear hq hr c0 c1 c3
  obtain ⟨m, hm⟩ : ∃ m, 2 * n = m := ⟨_, rfl⟩
  have HM := Lib.hid hm
  rw [hm] at c2 HR
  have hm1 : m ≤ 32 := by omega
  clear hm hn
  have HS : Hid (FlowRel w m R (.slice none 0 0) (.int .i64 0) w) := ⟨0, Nat.zero_le _, rfl, World.grownBy.refl w _, Mine.nil _ _⟩
  go_enter Try.func27, Try.ntmps27
  go_wp2
  go_loopw [3, 11] (fun o i wr => FlowRel w m R o i wr) (fun _ i _ => m - (intOf i).toNat)
  case atStart => exact HS.out
  case round =>
    clear HS
    obtain ⟨k, hk, rfl, hg, hmine⟩ := hrel
    have G := Lib.hid hg
    have HM1 := Lib.hid hmine
    have hsz := hg.size
    clear hg hmine
    by_cases hlt : k < m
    · obtain ⟨b, off, rfl, hb, hcell⟩ := HR.out.at_ (by omega)
      have d0 := kept G.out (hcell k hlt)
      have D0 : Hid (R[k]?.getD 0 = rAt R k) := rfl
      have okk := HR.out.ok k
      clear hcell
      generalize R[k]?.getD 0 = x at *
      rcases Nat.mod_two_eq_zero_or_one k with e | e
      · have hmod : ((k : Nat) : Int).tmod 2 = 0 := by rw [Int.tmod_eq_emod_of_nonneg (by omega)]; omega
        have HD : Hid ((k + 1) / 2 = k / 2) := by rw [Hid]; omega
        clear e
        go_wp2
        go_roundw
        case rel => exact ⟨k + 1, by omega, by go_num, G.out, by rw [HD.out]; exact HM1.out⟩
        case measure => simp [intOf]; omega
      · have hmod : ((k : Nat) : Int).tmod 2 = 1 := by rw [Int.tmod_eq_emod_of_nonneg (by omega)]; omega
        have HD : Hid ((k + 1) / 2 = k / 2 + 1) := by rw [Hid]; omega
        have HB : Hid (bOf R (k / 2 + 1) = bOf R (k / 2) ++ [x]) := by rw [Hid, bOf_next, show 2 * (k / 2) + 1 = k by omega, ← D0.out]
        have h2 : k / 2 ≤ 16 := by omega
        clear e
        generalize hh : k / 2 = kh at *
        clear hh
        have HM2 := Lib.hid (HM1.out.kept (grow0 _ (.cells #[.int .i64 x] 3)))
        have HROW := Lib.hid (Row.newAt (w := wr) (g := wr.heap.size) (n := 1) (vs := #[.int .i64 x]) [x] (by simp) rfl rfl (by simp) (by simp; omega))
        go_wp2_with (first | (at_builtin; refine wpList_app _ rfl _ _ rfl w.heap.size _ _ _ rfl HM2.out _ 1 1 [x] rfl HROW.out (by simp) (by omega) (by simp; omega) ?_))
        intro v1 w3 hm1 hg3 _
        have G3 := Lib.hid (grown_none (grown_alloc G.out (.cells #[.int .i64 x] 3)) hg3 (fun g hg => HM1.out.own_ge g hg))
        have HM3 := Lib.hid hm1
        clear hm1 hg3
        go_wp2
        go_roundw
        case rel => exact ⟨k + 1, by omega, by go_num, G3.out, by rw [HD.out, HB.out]; exact HM3.out⟩
        case measure => simp [intOf]; omega
    · obtain rfl : k = m := by omega
      have HN : Hid (k / 2 = n) := by rw [Hid, ← HM.out]; omega
      go_wp2
      go_ret
      have hf := HM1.out
      rw [HN.out] at hf
      exact ⟨_, rfl, by rw [bOf_len]; exact hf, G.out⟩

end Go.Proofs.Ytcilhidoiomfkaa

namespace Go.Proofs.Ytcilhidoiomfkaa
open Go.RowKit

def FlRel (w : World) (V : Int) (A : Option Addr) (n c : Nat) (L : List Lk) (f : List Int) (s t : Int) (N : Nat) (i : Value) (wr : World) : Prop :=
  ∃ k : Nat, k ≤ N ∧ i = .int .i64 (k : Nat) ∧ w.grownBy wr none ∧ Own wr w.heap.size 24 [.int .i64 V, .slice A n c] ∧ (List.range k).all (restB L f s t) = true

theorem rest_src {L : List Lk} {f : List Int} {s t : Int} {k : Nat} (h : (k : Int) = s) : restB L f s t k = true := by simp [restB, h]
theorem rest_dst {L : List Lk} {f : List Int} {s t : Int} {k : Nat} (h : (k : Int) = t) : restB L f s t k = true := by simp [restB, h]
theorem rest_gain {L : List Lk} {f : List Int} {s t : Int} {k : Nat} (h : gainOf L f k = 0) : restB L f s t k = true := by simp [restB, h]
theorem rest_no {L : List Lk} {f : List Int} {s t : Int} {k : Nat} (h : ¬ (k : Int) = s) (h2 : ¬ (k : Int) = t) (h3 : ¬ gainOf L f k = 0) : restB L f s t k = false := by simp [restB, h, h2, h3]
theorem rest_more {L : List Lk} {f : List Int} {s t : Int} {k : Nat} (h : (List.range k).all (restB L f s t) = true) (e : restB L f s t k = true) : (List.range (k + 1)).all (restB L f s t) = true := by rw [range_next, h, e]; rfl

set_option maxHeartbeats 2000000 in
theorem FMay_any (V s t : Int) (A : Option Addr) (n c : Nat) (L : List Lk) (X : Option Addr) (p d : Nat) (caps : List Int) (Y : Option Addr) (q e0 : Nat) (f : List Int) (w : World) {B B' B'' : Nat} (h : Lks w B A n L) (hB : B ≤ w.heap.size) (hx : Row w B' X p caps) (hB' : B' ≤ w.heap.size) (hy : Row w B'' Y q f) (hB'' : B'' ≤ w.heap.size) :
    Calls Try.prog 24 #[.agg #[.int .i64 V, .slice A n c], .slice X p d, .slice Y q e0, .int .i64 s, .int .i64 t] w (Says w (.bool (flowB V L caps f s t))) := by
  have HL := Lib.hid h.len
  have HR := Lib.hid h
  have HY := Lib.hid hy
  have HR1 := Lib.hid (h.grown hB (grow0 w (.cells #[.int .i64 V, .slice A n c] 24)))
  have HX1 := Lib.hid (hx.grown hB' (grow0 w (.cells #[.int .i64 V, .slice A n c] 24)))
  have HY1 := Lib.hid (hy.grown hB'' (grow0 w (.cells #[.int .i64 V, .slice A n c] 24)))
  have HE : Hid (flowB V L caps f s t = (fitsF V L caps f && (isV V s && isV V t) && !(s == t) && decide (0 ≤ gainOf L f s) && (List.range V.toNat).all (restB L f s t))) := rfl
  clear h hx hy
  go_enter Try.func24, Try.ntmps24
  go_wp2_with fail
  refine (fits_any V A n c L X p d caps Y q e0 f _ HR1.out (by simp; omega) HX1.out (by simp; omega) HY1.out (by simp; omega)).mono ?_
  rintro e w1 ⟨rfl, g1⟩
  obtain ⟨g, o2⟩ := box1 [.int .i64 V, .slice A n c] g1
  obtain ⟨c0, c1⟩ := o2.two
  have G := Lib.hid g
  have O2 := Lib.hid o2
  clear g g1 o2 HR1 HX1 HY1
  cases hf : fitsF V L caps f
  · have E : Hid (flowB V L caps f s t = false) := by rw [Hid, HE.out, hf]; rfl
    clear HE hf
    go_wp2
    go_ret
    exact ⟨ret_bool E.out, G.out⟩
  rw [hf, Bool.true_and] at HE
  obtain ⟨f1, f2, f3, f4⟩ := fits_parts hf
  have hV := may_small f1
  have HMAY := Lib.hid f1
  have HCAP := Lib.hid f4
  clear hf f1 f2 f3 f4
  go_wp2_with fail
  refine (Vert2_any V s t A n c _ rfl).mono ?_
  rintro e w2 ⟨rfl, g2⟩
  have G := Lib.hid (grown_trans G.out g2)
  have O2 := Lib.hid (O2.out.kept g2)
  clear g2 c0 c1
  obtain ⟨c0, c1⟩ := O2.out.two
  cases hst : (isV V s && isV V t)
  · have E : Hid (flowB V L caps f s t = false) := by rw [Hid, HE.out, hst]; rfl
    clear HE hst
    go_wp2
    go_ret
    exact ⟨ret_bool E.out, G.out⟩
  rw [hst, Bool.true_and] at HE
  clear hst
  by_cases he : s = t
  · have E : Hid (flowB V L caps f s t = false) := by rw [Hid, HE.out, he]; simp
    clear HE
    subst he
    have q1 : (s == s) = true := by simp
    go_wp2
    go_ret
    exact ⟨ret_bool E.out, G.out⟩
  have q1 : (s == t) = false := by simp [he]
  rw [q1, Bool.not_false, Bool.true_and] at HE
  obtain ⟨N, rfl⟩ : ∃ N : Nat, V = (N : Int) := ⟨V.toNat, by omega⟩
  have HE2 : Hid (flowB (N : Int) L caps f s t = (decide (0 ≤ gainOf L f s) && (List.range N).all (restB L f s t))) := by rw [Hid, HE.out]; rfl
  have hN : N ≤ 8 := by omega
  have HS : Hid (FlRel w N A n c L f s t N (.int .i64 0) w2) := ⟨0, Nat.zero_le _, rfl, G.out, O2.out, rfl⟩
  clear HE G O2 hV
  go_wp2
  go_loopw [32] (fun i wr => FlRel w N A n c L f s t N i wr) (fun i _ => N - (intOf i).toNat)
  case atStart => exact HS.out
  case round =>
    clear HS c0 c1
    obtain ⟨k, hk, rfl, hg, ob, hall⟩ := hrel
    have G := Lib.hid hg
    have HA := Lib.hid hall
    obtain ⟨c0, c1⟩ := ob.two
    have O := Lib.hid ob
    clear hg ob hall
    by_cases hlt : k < N
    · by_cases hs : (k : Int) = s
      · have E := Lib.hid (rest_more HA.out (rest_src (L := L) (f := f) (t := t) hs))
        clear HA he
        have q2 : ((k : Int) != s) = false := by simp [hs]
        clear hs
        go_wp2
        go_roundw
        case rel => exact ⟨k + 1, by omega, by go_num, G.out, O.out, E.out⟩
        case measure => simp [intOf]; omega
      have q2 : ((k : Int) != s) = true := by simp [hs]
      by_cases ht : (k : Int) = t
      · have E := Lib.hid (rest_more HA.out (rest_dst (L := L) (f := f) (s := s) ht))
        clear HA he hs
        have q3 : ((k : Int) != t) = false := by simp [ht]
        clear ht
        go_wp2
        go_roundw
        case rel => exact ⟨k + 1, by omega, by go_num, G.out, O.out, E.out⟩
        case measure => simp [intOf]; omega
      have q3 : ((k : Int) != t) = true := by simp [ht]
      have HNS := Lib.hid hs
      have HNT := Lib.hid ht
      clear hs ht
      go_wp2_with fail
      refine (gain_any N A n c L Y q e0 f k _ (HR.out.grown hB G.out) (HY.out.grown hB'' G.out) HMAY.out HCAP.out).mono ?_
      rintro e w4 ⟨rfl, g4⟩
      have G := Lib.hid (grown_trans G.out g4)
      have O := Lib.hid (O.out.kept g4)
      clear g4 c0 c1
      by_cases hz : gainOf L f k = 0
      · have E := Lib.hid (rest_more HA.out (rest_gain (s := s) (t := t) hz))
        rw [hz]
        clear hz HA
        go_wp2
        go_roundw
        case rel => exact ⟨k + 1, by omega, by go_num, G.out, O.out, E.out⟩
        case measure => simp [intOf]; omega
      · have E : Hid (flowB N L caps f s t = false) := by
          rw [Hid, HE2.out, range_stop hlt (rest_no HNS.out HNT.out hz)]; simp
        have q4 : (gainOf L f k != 0) = true := by simp [hz]
        clear hz HE2 HA
        generalize gainOf L f k = x at *
        go_wp2
        go_ret
        exact ⟨ret_bool E.out, G.out⟩
    · obtain rfl : k = N := by omega
      have E : Hid (flowB k L caps f s t = decide (0 ≤ gainOf L f s)) := by rw [Hid, HE2.out, HA.out, Bool.and_true]
      clear HE2 HA
      go_wp2_with fail
      refine (gain_any k A n c L Y q e0 f s _ (HR.out.grown hB G.out) (HY.out.grown hB'' G.out) HMAY.out HCAP.out).mono ?_
      rintro e w4 ⟨rfl, g4⟩
      have G := Lib.hid (grown_trans G.out g4)
      clear g4 c0 c1
      by_cases hz : 0 ≤ gainOf L f s
      · have E2 : Hid (flowB k L caps f s t = true) := by rw [Hid, E.out]; simp [hz]
        clear E
        generalize gainOf L f s = x at *
        go_wp2
        go_ret
        exact ⟨ret_bool E2.out, G.out⟩
      · generalize gainOf L f s = x at *
        go_wp2
        go_ret
        exact ⟨ret_bool E.out, G.out⟩

set_option maxHeartbeats 2000000 in
theorem RFlow_any (V s t : Int) (A : Option Addr) (n c : Nat) (L : List Lk) (X : Option Addr) (p d : Nat) (caps : List Int) (Y : Option Addr) (q e0 : Nat) (f : List Int) (w : World) {B B' B'' : Nat} (h : Lks w B A n L) (hB : B ≤ w.heap.size) (hx : Row w B' X p caps) (hB' : B' ≤ w.heap.size) (hy : Row w B'' Y q f) (hB'' : B'' ≤ w.heap.size) :
    Calls Try.prog 10 #[.agg #[.int .i64 V, .slice A n c], .slice X p d, .slice Y q e0, .int .i64 s, .int .i64 t] w (Says w (.bool (flowB V L caps f s t))) := by
  have HL := Lib.hid h.len
  have HR := Lib.hid h
  have HX := Lib.hid hx
  have HY := Lib.hid hy
  have HR1 := Lib.hid (h.grown hB (grow0 w (.cells #[.int .i64 V, .slice A n c] 24)))
  have HX1 := Lib.hid (hx.grown hB' (grow0 w (.cells #[.int .i64 V, .slice A n c] 24)))
  have HE : Hid (flowB V L caps f s t = (((mayG V L && capsB L caps) && ratesB caps f) && (isV V s && isV V t) && !(s == t) && decide (0 ≤ gainOf L f s) && (List.range V.toNat).all (restB L f s t))) := rfl
  clear h hx hy
  go_enter Try.func10, Try.ntmps10
  go_wp2_with fail
  refine (RCaps_any V A n c L X p d caps _ HR1.out (by simp; omega) HX1.out).mono ?_
  rintro e w1 ⟨rfl, g1⟩
  obtain ⟨g, o2⟩ := box1 [.int .i64 V, .slice A n c] g1
  have G := Lib.hid g
  have O2 := Lib.hid o2
  clear g g1 o2 HR1 HX1
  cases hf : (mayG V L && capsB L caps)
  · have E : Hid (flowB V L caps f s t = false) := by rw [Hid, HE.out, hf]; rfl
    clear HE hf
    go_wp2
    go_ret
    exact ⟨ret_bool E.out, G.out⟩
  rw [hf, Bool.true_and] at HE
  rw [Bool.and_eq_true] at hf
  have hV := may_small hf.1
  have HF := Lib.hid hf
  clear hf
  go_wp2_with fail
  refine (RWithin_any X p d caps Y q e0 f _ (HX.out.grown hB' G.out) (HY.out.grown hB'' G.out)).mono ?_
  rintro e w2 ⟨rfl, g2⟩
  have G := Lib.hid (grown_trans G.out g2)
  have O2 := Lib.hid (O2.out.kept g2)
  clear g2
  obtain ⟨c0, c1⟩ := O2.out.two
  cases hr : ratesB caps f
  · have E : Hid (flowB V L caps f s t = false) := by rw [Hid, HE.out, hr]; rfl
    clear HE hr
    go_wp2
    go_ret
    exact ⟨ret_bool E.out, G.out⟩
  rw [hr, Bool.true_and] at HE
  have HMAY := Lib.hid HF.out.1
  have HCAP := Lib.hid (caps_in HF.out.2 hr)
  clear hr HF
  go_wp2_with fail
  refine (RVertex_any V s A n c _).mono ?_
  rintro e w3 ⟨rfl, g3⟩
  have G := Lib.hid (grown_trans G.out g3)
  have O2 := Lib.hid (O2.out.kept g3)
  clear g3 c0 c1
  obtain ⟨c0, c1⟩ := O2.out.two
  cases hs : isV V s
  · have E : Hid (flowB V L caps f s t = false) := by rw [Hid, HE.out, hs]; rfl
    clear HE hs
    go_wp2
    go_ret
    exact ⟨ret_bool E.out, G.out⟩
  rw [hs, Bool.true_and] at HE
  clear hs
  go_wp2_with fail
  refine (RVertex_any V t A n c _).mono ?_
  rintro e w4 ⟨rfl, g4⟩
  have G := Lib.hid (grown_trans G.out g4)
  have O2 := Lib.hid (O2.out.kept g4)
  clear g4 c0 c1
  obtain ⟨c0, c1⟩ := O2.out.two
  cases ht : isV V t
  · have E : Hid (flowB V L caps f s t = false) := by rw [Hid, HE.out, ht]; rfl
    clear HE ht
    go_wp2
    go_ret
    exact ⟨ret_bool E.out, G.out⟩
  rw [ht, Bool.true_and] at HE
  clear ht
  by_cases he : s = t
  · have E : Hid (flowB V L caps f s t = false) := by rw [Hid, HE.out, he]; simp
    clear HE
    subst he
    have q1 : (s == s) = true := by simp
    go_wp2
    go_ret
    exact ⟨ret_bool E.out, G.out⟩
  have q1 : (s == t) = false := by simp [he]
  rw [q1, Bool.not_false, Bool.true_and] at HE
  go_wp2_with fail
  refine (RGain_any V A n c L Y q e0 f s _ (HR.out.grown hB G.out) (HY.out.grown hB'' G.out) HMAY.out HCAP.out).mono ?_
  rintro e w5 ⟨rfl, g5⟩
  have G := Lib.hid (grown_trans G.out g5)
  have O2 := Lib.hid (O2.out.kept g5)
  clear g5 c0 c1
  obtain ⟨c0, c1⟩ := O2.out.two
  by_cases hz : gainOf L f s < 0
  · have E : Hid (flowB V L caps f s t = false) := by
      have e : decide (0 ≤ gainOf L f s) = false := by simp; omega
      rw [Hid, HE.out, e]; rfl
    clear HE
    generalize gainOf L f s = x at *
    go_wp2
    go_ret
    exact ⟨ret_bool E.out, G.out⟩
  have ez : decide (0 ≤ gainOf L f s) = true := by simp; omega
  rw [ez, Bool.true_and] at HE
  clear ez
  generalize gainOf L f s = x at *
  obtain ⟨N, rfl⟩ : ∃ N : Nat, V = (N : Int) := ⟨V.toNat, by omega⟩
  have HE2 : Hid (flowB (N : Int) L caps f s t = ((List.range N).all (restB L f s t))) := by rw [Hid, HE.out]; rfl
  have hN : N ≤ 8 := by omega
  have HS : Hid (FlRel w N A n c L f s t N (.int .i64 0) w5) := ⟨0, Nat.zero_le _, rfl, G.out, O2.out, rfl⟩
  clear HE G O2 hV
  go_wp2
  go_loopw [11] (fun i wr => FlRel w N A n c L f s t N i wr) (fun i _ => N - (intOf i).toNat)
  case atStart => exact HS.out
  case round =>
    clear HS c0 c1
    obtain ⟨k, hk, rfl, hg, ob, hall⟩ := hrel
    have G := Lib.hid hg
    have HA := Lib.hid hall
    obtain ⟨c0, c1⟩ := ob.two
    have O := Lib.hid ob
    clear hg ob hall
    by_cases hlt : k < N
    · by_cases hs : (k : Int) = s
      · have E := Lib.hid (rest_more HA.out (rest_src (L := L) (f := f) (t := t) hs))
        clear HA he
        have q2 : ((k : Int) != s) = false := by simp [hs]
        clear hs
        go_wp2
        go_roundw
        case rel => exact ⟨k + 1, by omega, by go_num, G.out, O.out, E.out⟩
        case measure => simp [intOf]; omega
      have q2 : ((k : Int) != s) = true := by simp [hs]
      by_cases ht : (k : Int) = t
      · have E := Lib.hid (rest_more HA.out (rest_dst (L := L) (f := f) (s := s) ht))
        clear HA he hs
        have q3 : ((k : Int) != t) = false := by simp [ht]
        clear ht
        go_wp2
        go_roundw
        case rel => exact ⟨k + 1, by omega, by go_num, G.out, O.out, E.out⟩
        case measure => simp [intOf]; omega
      have q3 : ((k : Int) != t) = true := by simp [ht]
      have HNS := Lib.hid hs
      have HNT := Lib.hid ht
      clear hs ht
      go_wp2_with fail
      refine (RGain_any N A n c L Y q e0 f k _ (HR.out.grown hB G.out) (HY.out.grown hB'' G.out) HMAY.out HCAP.out).mono ?_
      rintro e w4 ⟨rfl, g4⟩
      have G := Lib.hid (grown_trans G.out g4)
      have O := Lib.hid (O.out.kept g4)
      clear g4 c0 c1
      by_cases hzk : gainOf L f k = 0
      · have E := Lib.hid (rest_more HA.out (rest_gain (s := s) (t := t) hzk))
        rw [hzk]
        clear hzk HA
        go_wp2
        go_roundw
        case rel => exact ⟨k + 1, by omega, by go_num, G.out, O.out, E.out⟩
        case measure => simp [intOf]; omega
      · have E : Hid (flowB N L caps f s t = false) := by
          rw [Hid, HE2.out, range_stop hlt (rest_no HNS.out HNT.out hzk)]
        have q4 : (gainOf L f k != 0) = true := by simp [hzk]
        clear hzk HE2 HA
        generalize gainOf L f k = x at *
        go_wp2
        go_ret
        exact ⟨ret_bool E.out, G.out⟩
    · obtain rfl : k = N := by omega
      have E : Hid (flowB k L caps f s t = true) := by rw [Hid, HE2.out, HA.out]
      clear HE2 HA
      go_wp2
      go_ret
      exact ⟨ret_bool E.out, G.out⟩

end Go.Proofs.Ytcilhidoiomfkaa

namespace Go.Proofs.Ytcilhidoiomfkaa
open Go.RowKit

def blkV (v : Value) (k z : Int) : Value := .tuple #[v, .int .i64 k, .int .i64 z]

def YesPost (w : World) (N : Net) (most : Int) (e : Ending) (w' : World) : Prop :=
  ∃ b k, BlkIs N.V N.ls N.caps N.f N.s N.t most b k N.M ∧ ∃ v, e = .returned (blkV v k 0) ∧ Mine w' w.heap.size v b.length b ∧ w.grownBy w' none

set_option maxRecDepth 20000 in
set_option maxHeartbeats 2000000 in
theorem Block_yes (N : Net) (ok : N.Ok) (A : Option Addr) (c : Nat) (X : Option Addr) (m d : Nat) (Y : Option Addr) (r e0 : Nat) (most : Int) (w : World) {B B' B'' : Nat} (h : Lks w B A N.n N.ls) (hB : B ≤ w.heap.size) (hx : Row w B' X m N.caps) (hB' : B' ≤ w.heap.size) (hy : Row w B'' Y r N.f) (hB'' : B'' ≤ w.heap.size) (m0 : 0 ≤ most) (m1 : most ≤ 4611686018427387904) :
    Calls Try.prog 9 #[.agg #[.int .i64 (N.V : Nat), .slice A N.n c], .slice X m d, .slice Y r e0, .int .i64 N.s, .int .i64 N.t, .int .i64 most] w (YesPost w N most) := by
  have OK := Lib.hid ok
  have h8 := may_small ok.may
  rw [ok.hl] at h8
  have HR := Lib.hid h
  have HX := Lib.hid hx
  have HY := Lib.hid hy
  have HFL := Lib.hid ok.flow
  obtain ⟨_, ⟨s0, s1⟩, _⟩ := flow_parts ok.flow
  obtain ⟨sn, hsn⟩ : ∃ sn : Nat, N.s = (sn : Int) := ⟨N.s.toNat, by omega⟩
  have HSN := Lib.hid hsn
  have hlev : Hid (0 ≤ N.lev (sn : Int) ∧ (N.V : Int) ≤ N.lev (sn : Int) + N.V) := by
    have := ok.lv.src
    unfold Net.lev
    rw [← hsn, this]
    constructor <;> omega
  have hsv : sn < N.V := by rw [hsn] at s1; omega
  obtain ⟨pi, hbf⟩ := pi_first ok
  have PI1 := Lib.hid pi
  have HBF := Lib.hid hbf
  have HG0 := Lib.hid (grow0 w (.cells #[.int .i64 (N.V : Nat), .slice A N.n c] 24))
  clear h hx hy ok hsn s0 s1 pi hbf
  go_enter Try.func9, Try.ntmps9
  go_wp2_with fail
  refine (FMay_any (N.V : Nat) N.s N.t A N.n c N.ls X m d N.caps Y r e0 N.f _ (HR.out.grown hB HG0.out) (by simp; omega) (HX.out.grown hB' HG0.out) (by simp; omega) (HY.out.grown hB'' HG0.out) (by simp; omega)).mono ?_
  rintro e w1 ⟨he, g1⟩
  rw [HFL.out] at he
  subst he
  obtain ⟨g, ob⟩ := box1 [.int .i64 (N.V : Nat), .slice A N.n c] g1
  have G := Lib.hid g
  have OB := Lib.hid ob
  clear g g1 ob HG0
  obtain ⟨p0, p1⟩ := OB.out.two
  go_wp2_with fail
  refine (bbegin_any N OK.out A c X m d Y r e0 _ (HR.out.grown hB G.out) (by have := G.out.size; omega) (HX.out.grown hB' G.out) (by have := G.out.size; omega) (HY.out.grown hB'' G.out) (by have := G.out.size; omega)).mono ?_
  rintro e w2 ⟨Az, cz, rA, rc, gO, B2, base, vs, rfl, g2, h1, h2, h3, h4, h5, oo, hv, hh, fam⟩
  have PS := Lib.hid (Pst.first (cz := cz) OK.out h3 h4 h5 oo hv hh fam)
  have hrb : Hid (∀ b, rBlk rA = some b → w.heap.size ≤ b) := by
    intro b hb
    have hr := fam.head
    rw [rooms_len] at hr
    have := G.out.size
    rcases hr.2 with ⟨e, _⟩ | ⟨g', cap, cur, e, b1, b2, _⟩
    · injection e with e1 _ _
      subst e1
      simp [rBlk] at hb
    · injection e with e1 _ _
      subst e1
      simp only [rBlk, Option.map_some, Option.some.injEq] at hb
      omega
  have hgo : w.heap.size ≤ gO := by have := G.out.size; omega
  have G := Lib.hid (grown_trans (grown_trans G.out g2) (grow0 w2 (.cells #[.int .i64 N.t, .slice Az (2 * N.n) cz, .slice rA (2 * N.n) rc, .slice (some ⟨gO, 0, none⟩) N.V N.V] 50)))
  clear g2 oo hh fam OB p0 p1
  go_upto_region 4 with fail
  obtain ⟨q, hq⟩ : ∃ q, w2.heap.size = q := ⟨_, rfl⟩
  rw [hq] at PS
  generalize w2.alloc (.cells #[.int .i64 N.t, .slice Az (2 * N.n) cz, .slice rA (2 * N.n) rc, .slice (some ⟨gO, 0, none⟩) N.V N.V] 50) = w3 at *
  have hsz := G.out.size
  rw [hq, HSN.out]
  go_wp2_with fail
  refine (push_any N OK.out q gO base Az cz rA rc N.V sn most _ _ _ vs PS.out PI1.out hsv hlev.out.1 hlev.out.2 m0 m1).mono ?_
  rintro e w4 ⟨k, R, O, vs4, rfl, pl, pe, ps, tr⟩
  have BK : Hid (BlkIs N.V N.ls N.caps N.f N.s N.t most (bOf R N.n) k N.M) := blk_of OK.out HBF.out (by rw [HSN.out]; exact pl) (by rw [HSN.out]; exact pe)
  have G := Lib.hid (Trn.grown G.out tr hrb.out hgo)
  have HQ := Lib.hid ps.oq
  have hokR : okI R := by
    intro i
    by_cases hi : i < 2 * N.n
    · have := pl.inv.bd OK.out hi
      unfold rAt at this
      omega
    · rw [List.getElem?_eq_none (by rw [pl.inv.lenR]; omega)]
      simp
  have RR := Lib.hid (ps.rm.rowAt hokR)
  clear pl pe ps tr hokR PS
  go_wp2_with fail
  refine (flow_any q N.n rc N.t _ _ rA R _ HQ.out RR.out (by omega)).mono ?_
  rintro e w5 ⟨v, rfl, mv, k5⟩
  have G5 := Lib.hid (grown_trans G.out k5)
  have MV := Lib.hid (mv.wide G.out.size)
  clear k5 mv
  go_wp2
  go_ret3
  exact ⟨_, k, BK.out, v, rfl, MV.out, G5.out⟩

theorem Block_no (V s t most : Int) (A : Option Addr) (n c : Nat) (ls : List Lk) (X : Option Addr) (m d : Nat) (caps : List Int) (Y : Option Addr) (r e0 : Nat) (f : List Int) (w : World) {B B' B'' : Nat} (h : Lks w B A n ls) (hB : B ≤ w.heap.size) (hx : Row w B' X m caps) (hB' : B' ≤ w.heap.size) (hy : Row w B'' Y r f) (hB'' : B'' ≤ w.heap.size) (hno : (flowB V ls caps f s t && decide (0 ≤ most) && decide (most ≤ 4611686018427387904)) = false) :
    Calls Try.prog 9 #[.agg #[.int .i64 V, .slice A n c], .slice X m d, .slice Y r e0, .int .i64 s, .int .i64 t, .int .i64 most] w (Says w (blkV (.slice none 0 0) 0 1100)) := by
  have HR := Lib.hid h
  have HX := Lib.hid hx
  have HY := Lib.hid hy
  have HN := Lib.hid hno
  have HG0 := Lib.hid (grow0 w (.cells #[.int .i64 V, .slice A n c] 24))
  clear h hx hy hno
  go_enter Try.func9, Try.ntmps9
  go_wp2_with fail
  refine (FMay_any V s t A n c ls X m d caps Y r e0 f _ (HR.out.grown hB HG0.out) (by simp; omega) (HX.out.grown hB' HG0.out) (by simp; omega) (HY.out.grown hB'' HG0.out) (by simp; omega)).mono ?_
  rintro e w1 ⟨rfl, g1⟩
  obtain ⟨g, _⟩ := box1 [.int .i64 V, .slice A n c] g1
  have G := Lib.hid g
  clear g g1 HG0
  have hno := HN.out
  clear HN
  cases hf : flowB V ls caps f s t
  · clear hno
    go_wp2
    go_ret3
    exact ⟨rfl, G.out⟩
  · rw [hf] at hno
    by_cases m0 : most < 0
    · clear hno
      go_wp2
      go_ret3
      exact ⟨rfl, G.out⟩
    · by_cases m1 : 4611686018427387904 < most
      · clear hno
        go_wp2
        go_ret3
        exact ⟨rfl, G.out⟩
      · have h1 : 0 ≤ most := by omega
        have h2 : most ≤ 4611686018427387904 := by omega
        simp [h1, h2] at hno

def blkB (V : Int) (ls : List Lk) (caps f : List Int) (s t most : Int) : Bool := flowB V ls caps f s t && decide (0 ≤ most) && decide (most ≤ 4611686018427387904)

/-- What Block may tell. -/
def BlockIs (V : Int) (ls : List Lk) (caps f : List Int) (s t most : Int) (b : List Int) (k z : Int) : Prop :=
  (blkB V ls caps f s t most = true ∧ z = 0 ∧ ∃ M, IsLv V.toNat (Leads ls caps f (2 * ls.length)) s M ∧ BlkIs V.toNat ls caps f s t most b k M) ∨ (blkB V ls caps f s t most = false ∧ z = 1100 ∧ b = [] ∧ k = 0)

def BlockPost (w : World) (V : Int) (ls : List Lk) (caps f : List Int) (s t most : Int) (e : Ending) (w' : World) : Prop :=
  ∃ b k z, BlockIs V ls caps f s t most b k z ∧ ∃ v, e = .returned (blkV v k z) ∧ Mine w' w.heap.size v b.length b ∧ w.grownBy w' none

theorem blkB_parts {V : Int} {ls : List Lk} {caps f : List Int} {s t most : Int} (h : blkB V ls caps f s t most = true) : flowB V ls caps f s t = true ∧ 0 ≤ most ∧ most ≤ 4611686018427387904 := by
  simp only [blkB, Bool.and_eq_true, decide_eq_true_eq] at h
  exact ⟨h.1.1, h.1.2, h.2⟩

theorem flow_may {V : Int} {L : List Lk} {caps f : List Int} {s t : Int} (h : flowB V L caps f s t = true) : fitsF V L caps f = true := by
  simp only [flowB, Bool.and_eq_true] at h
  exact h.1.1.1.1

theorem Block_any (V s t most : Int) (A : Option Addr) (n c : Nat) (ls : List Lk) (X : Option Addr) (m d : Nat) (caps : List Int) (Y : Option Addr) (r e0 : Nat) (f : List Int) (w : World) {B B' B'' : Nat} (h : Lks w B A n ls) (hB : B ≤ w.heap.size) (hx : Row w B' X m caps) (hB' : B' ≤ w.heap.size) (hy : Row w B'' Y r f) (hB'' : B'' ≤ w.heap.size) :
    Calls Try.prog 9 #[.agg #[.int .i64 V, .slice A n c], .slice X m d, .slice Y r e0, .int .i64 s, .int .i64 t, .int .i64 most] w (BlockPost w V ls caps f s t most) := by
  cases hb : blkB V ls caps f s t most
  · refine (Block_no V s t most A n c ls X m d caps Y r e0 f w h hB hx hB' hy hB'' hb).mono ?_
    rintro e w' ⟨rfl, g⟩
    exact ⟨[], 0, 1100, .inr ⟨hb, rfl, rfl, rfl⟩, _, rfl, Mine.nil _ _, g⟩
  · obtain ⟨h1, h2, h3⟩ := blkB_parts hb
    have hm := (fits_parts (flow_may h1)).1
    have h8 := may_small hm
    obtain ⟨vn, rfl⟩ : ∃ vn : Nat, V = (vn : Nat) := ⟨V.toNat, by omega⟩
    have hl := h.len
    subst hl
    obtain ⟨_, hs, _⟩ := flow_parts h1
    obtain ⟨M, hM⟩ := lev_there (caps := caps) (f := f) hm rfl hs
    refine (Block_yes ⟨vn, ls.length, ls, caps, f, M, s, t⟩ ⟨rfl, h1, hM⟩ A c X m d Y r e0 most w h hB hx hB' hy hB'' h2 h3).mono ?_
    rintro e w' ⟨b, k, hk, v, rfl, mv, g⟩
    exact ⟨b, k, 0, .inl ⟨hb, rfl, M, hM, hk⟩, v, rfl, mv, g⟩

theorem Block_okI {V : Int} {ls : List Lk} {caps f : List Int} {s t most : Int} {b : List Int} {k z : Int} (h : BlockIs V ls caps f s t most b k z) : okI b ∧ b.length ≤ 16 := by
  rcases h with ⟨h1, _, M, _, h3⟩ | ⟨_, _, rfl, _⟩
  · obtain ⟨f1, _, _, f4⟩ := fits_parts (flow_parts h3.flow).1
    have h8 := may_small f1
    have hl := flow_len h3.flow
    refine ⟨fun i => ?_, by omega⟩
    by_cases hi : i < ls.length
    · have hb := f_bd f4 hi
      have h5 := may_sum f1 (i + 1) (by omega)
      have h6 := (gk_bd (f := b) 0 f4 i (by omega)).1
      rw [capSum] at h5
      omega
    · rw [List.getElem?_eq_none (by omega)]
      simp
  · refine ⟨fun i => by simp, by simp⟩

end Go.Proofs.Ytcilhidoiomfkaa

namespace Go.Proofs.Ytcilhidoiomfkaa
open Go.RowKit

theorem small11_any (w : World) : Calls Try.prog 22 #[] w (SmallPost w) := by
  have HB := Lib.hid (box2 (w := w) (T := 24) (U := 56) [.int .i64 3, .slice (some ⟨w.heap.size + 1, 0, none⟩) 3 3] smallV (World.grownBy.refl _ none))
  go_enter Try.func22, Try.ntmps22
  go_wp2
  obtain ⟨g, o1, o2⟩ := HB.out
  exact post_graph rfl rfl o1.two.1 o1.two.2 rfl ⟨w.heap.size + 1, rfl, small_flat ▸ o2, by omega, g⟩

theorem BlockS {w0 w : World} {gs gc gf p q : Nat} {os : List (Nat × TypeId × List Value)} {s t most : Int} (caps f : List Int) (hcapsn : p = caps.length) (hcapsl : caps.length ≤ 1000) (hcapsb : caps.all bdB = true) (mcaps : (gc, 3, ints caps) ∈ os) (hfn : q = f.length) (hfl : f.length ≤ 1000) (hfb : f.all bdB = true) (mf : (gf, 3, ints f) ∈ os) (h : SB w0 w os) (ms : (gs, 56, linkE.flat smallL) ∈ os) :
    Calls Try.prog 9 #[.agg #[.int .i64 3, .slice (some ⟨gs, 0, none⟩) 3 3], .slice (some ⟨gc, 0, none⟩) p p, .slice (some ⟨gf, 0, none⟩) q q, .int .i64 s, .int .i64 t, .int .i64 most] w (BlockPost w 3 smallL caps f s t most) :=
  Block_any 3 s t most _ 3 3 smallL _ p p caps _ q q f w (h.lks ms) (Nat.le_refl _) (h.row caps mcaps hcapsn hcapsl hcapsb) (Nat.le_refl _) (h.row f mf hfn hfl hfb) (Nat.le_refl _)

theorem lv_small0 : IsLv 3 (Leads smallL [5, 4, 3] [0, 0, 0] (2 * smallL.length)) 0 [0, 1, 1] := by
  refine ⟨rfl, by decide, fun v hv => ?_, fun v hv => ?_, fun u v h => ?_, fun v hv => ?_⟩
  · rcases small_v hv with rfl | rfl | rfl <;> decide
  · rcases small_v hv with rfl | rfl | rfl <;> decide
  · obtain ⟨a, ha, rfl, rfl, hr⟩ := h
    have ha : a < 6 := ha
    rcases (show a = 0 ∨ a = 1 ∨ a = 2 ∨ a = 3 ∨ a = 4 ∨ a = 5 by omega) with rfl | rfl | rfl | rfl | rfl | rfl <;> revert hr <;> decide
  · rcases small_v hv with rfl | rfl | rfl
    · exact fun h => absurd h (by decide)
    · exact fun _ => ⟨0, ⟨0, by decide, by decide, by decide, by decide⟩, by decide⟩
    · exact fun _ => ⟨0, ⟨4, by decide, by decide, by decide, by decide⟩, by decide⟩

theorem small_may : mayG (3 : Nat) smallL = true := by decide

/-- Three numbers that are a flow in the small graph. -/
theorem small_flow {b : List Int} {caps : List Int} (h : flowB (3 : Nat) smallL caps b 0 2 = true) : ∃ x y : Int, b = [x, x, y] ∧ 0 ≤ x ∧ 0 ≤ y ∧ gainOf smallL b 0 = x + y ∧ (∀ i : Nat, i < 3 → b[i]?.getD 0 ≤ caps[i]?.getD 0) := by
  obtain ⟨h1, _, _, _, _, h6⟩ := flow_parts h
  obtain ⟨_, f2, f3, _⟩ := fits_parts h1
  have hl := flow_len h
  have hc := (capsB_parts f2).1
  match b, hl with
  | [x, y, z], _ =>
    have g1 := h6 1 (by omega) (by decide) (by decide)
    have e1 : gainOf smallL [x, y, z] ((1 : Nat) : Int) = y - x := by simp [gainOf, gk, outP, inP, at3, smallL]; omega
    have e0 : gainOf smallL [x, y, z] 0 = x + z := by simp [gainOf, gk, outP, inP, at3, smallL]
    rw [e1] at g1
    obtain rfl : y = x := by omega
    have hr : ∀ i : Nat, i < 3 → 0 ≤ [y, y, z][i]?.getD 0 ∧ [y, y, z][i]?.getD 0 ≤ caps[i]?.getD 0 := fun i hi => rates_at f3 (by rw [hc]; exact hi)
    exact ⟨y, z, rfl, (hr 0 (by omega)).1, (hr 2 (by omega)).1, e0, fun i hi => (hr i hi).2⟩

theorem blk_small1 {b : List Int} {k z : Int} (h : BlockIs 3 smallL [5, 4, 3] [0, 0, 0] 0 2 9 b k z) : b = [0, 0, 3] ∧ k = 3 ∧ z = 0 := by
  rcases h with ⟨_, hz, M, hM, hb⟩ | ⟨h1, _⟩
  · obtain rfl := lev_one (leads_in small_may rfl) (fun _ _ => Iff.rfl) lv_small0 hM
    obtain ⟨x, y, rfl, x0, y0, hg, hc⟩ := small_flow hb.flow
    have hv := hb.val
    rw [hg, show gainOf smallL [0, 0, 0] 0 = 0 by decide] at hv
    have hx : ¬ 0 < x := fun hx => absurd (hb.over.up 1 (by decide) hx) (by decide)
    obtain rfl : x = 0 := by omega
    have h2 : y ≤ 3 := hc 2 (by omega)
    rcases hb.shut with e | e
    · omega
    · by_cases hy : y = 3
      · subst hy
        exact ⟨rfl, by omega, hz⟩
      · refine absurd ?_ e
        refine Way.on 4 (by decide) ⟨by decide, ?_⟩ .here
        show 0 < (3 : Int) - y
        omega
  · exact absurd h1 (by decide)

theorem blk_small2 {b : List Int} {k z : Int} (h : BlockIs 3 smallL [5, 4, 3] [0, 0, 3] 0 2 1 b k z) : b = [1, 1, 3] ∧ k = 1 ∧ z = 0 := by
  rcases h with ⟨_, hz, M, hM, hb⟩ | ⟨h1, _⟩
  · have hM2 : LvIs 3 smallL [5, 4, 3] [0, 0, 3] 0 M 0 := .inl ⟨by decide, rfl, hM⟩
    obtain ⟨rfl, _⟩ := lvIs_one lv_small1 hM2
    obtain ⟨x, y, rfl, x0, y0, hg, hc⟩ := small_flow hb.flow
    have hv := hb.val
    rw [hg, show gainOf smallL [0, 0, 3] 0 = 3 by decide] at hv
    have hy1 : ¬ 3 < y := fun hx => absurd (hb.over.up 2 (by decide) hx) (by decide)
    have hy2 : ¬ y < 3 := fun hx => absurd (hb.over.down 2 (by decide) hx) (by decide)
    obtain rfl : y = 3 := by omega
    have hl := hb.low
    have hh := hb.high
    rcases hb.shut with e | e
    · obtain rfl : x = 1 := by omega
      exact ⟨rfl, e, hz⟩
    · refine absurd ?_ e
      refine Way.on 2 (by decide) ⟨by decide, ?_⟩ (Way.on 0 (by decide) ⟨by decide, ?_⟩ .here)
      · show 0 < (4 : Int) - x
        omega
      · show 0 < (5 : Int) - x
        omega
  · exact absurd h1 (by decide)

theorem blk_small3 {b : List Int} {k z : Int} (h : BlockIs 3 smallL [5, 4, 3] [1, 0, 0] 0 2 1 b k z) : z = 1100 := by
  rcases h with ⟨h1, _⟩ | ⟨_, h2, _⟩
  · exact absurd h1 (by decide)
  · exact h2

set_option maxHeartbeats 4000000 in
theorem awake11_any (w : World) : Calls Try.prog 11 #[] w (Says w (.bool true)) := by
  have HS : Hid (SB w w []) := ⟨World.grownBy.refl w none, StS.nil _⟩
  go_enter Try.func11, Try.ntmps11
  go_wp2_with fail
  refine (small11_any _).mono ?_
  rintro e w1 ⟨gs1, rfl, os, _, k⟩
  have HS := Lib.hid ((HS.out.kept k).cons os)
  clear os k
  go_wp2_with fail
  refine (BlockS [5, 4, 3] [0, 0, 0] rfl (by decide) (by decide) (by simp [ints]) rfl (by decide) (by decide) (by simp [ints]) HS.out.lit.lit (by simp)).mono ?_
  rintro e w2 ⟨b, k1, z1, hb, va, rfl, ha, k⟩
  obtain ⟨rfl, rfl, rfl⟩ := blk_small1 hb
  obtain ⟨Aa, ca, rfl, _, ra⟩ := ha.row (ok_of (xs := [0, 0, 3]) (by decide))
  have RA := Lib.hid ra
  have HG2 := Lib.hid (World.grownBy.refl w2 none)
  have HS := Lib.hid (HS.out.lit.lit.kept k).less
  clear k ra ha hb
  unfold blkV
  go_wp2_with fail
  refine (small11_any _).mono ?_
  rintro e w3 ⟨gs3, rfl, os, _, k⟩
  have HS := Lib.hid ((HS.out.kept k).cons os)
  have HG2 := Lib.hid (grown_trans HG2.out k)
  clear os k
  go_wp2_with fail
  refine (BlockS [5, 4, 3] [0, 0, 3] rfl (by decide) (by decide) (by simp [ints]) rfl (by decide) (by decide) (by simp [ints]) HS.out.lit.lit (by simp)).mono ?_
  rintro e w4 ⟨b, k2, z2, hb, vb, rfl, ha, k⟩
  obtain ⟨rfl, rfl, rfl⟩ := blk_small2 hb
  obtain ⟨Ab, cb, rfl, _, rb⟩ := ha.row (ok_of (xs := [1, 1, 3]) (by decide))
  have RB := Lib.hid rb
  have HG2 := Lib.hid (grown_trans (grown_alloc (grown_alloc HG2.out _) _) k)
  have HG4 := Lib.hid (World.grownBy.refl w4 none)
  have HS := Lib.hid (HS.out.lit.lit.kept k).less
  clear k rb ha hb
  unfold blkV
  go_wp2_with fail
  refine (small11_any _).mono ?_
  rintro e w5 ⟨gs5, rfl, os, _, k⟩
  have HS := Lib.hid ((HS.out.kept k).cons os)
  have HG2 := Lib.hid (grown_trans HG2.out k)
  have HG4 := Lib.hid (grown_trans HG4.out k)
  clear os k
  go_wp2_with fail
  refine (BlockS [5, 4, 3] [1, 0, 0] rfl (by decide) (by decide) (by simp [ints]) rfl (by decide) (by decide) (by simp [ints]) HS.out.lit.lit (by simp)).mono ?_
  rintro e w6 ⟨b, k3, z3, hb, vc, rfl, ha, k⟩
  obtain rfl := blk_small3 hb
  have HG2 := Lib.hid (grown_trans (grown_alloc (grown_alloc HG2.out _) _) k)
  have HG4 := Lib.hid (grown_trans (grown_alloc (grown_alloc HG4.out _) _) k)
  have HS := Lib.hid (HS.out.lit.lit.kept k).less
  clear k ha hb
  unfold blkV
  go_wp2_with fail
  refine (SameS RA.out HS.out.lit (Nat.le_refl _) (grown_alloc HG2.out _) (by simp [ints]) rfl (by decide) (by decide)).mono ?_
  rintro e w7 ⟨rfl, k⟩
  have HS := Lib.hid (HS.out.lit.kept k).less
  have HG4 := Lib.hid (grown_trans (grown_alloc HG4.out _) k)
  clear k HG2 RA
  go_wp2_with fail
  refine (num_says _ _).mono ?_
  rintro e w8 ⟨rfl, k⟩
  have HS := Lib.hid (HS.out.kept k)
  have HG4 := Lib.hid (grown_trans HG4.out k)
  clear k
  go_wp2_with fail
  refine (SameS RB.out HS.out.lit (Nat.le_refl _) (grown_alloc HG4.out _) (by simp [ints]) rfl (by decide) (by decide)).mono ?_
  rintro e w9 ⟨rfl, k⟩
  have HS := Lib.hid (HS.out.lit.kept k).less
  clear k HG4 RB
  go_wp2_with fail
  refine (num_says _ _).mono ?_
  rintro e w10 ⟨rfl, k⟩
  have HS := Lib.hid (HS.out.kept k)
  clear k
  go_wp2_with fail
  refine (num_says _ _).mono ?_
  rintro e w11 ⟨rfl, k⟩
  have HS := Lib.hid (HS.out.kept k)
  clear k
  go_wp2
  go_ret
  exact ⟨rfl, HS.out.g⟩

end Go.Proofs.Ytcilhidoiomfkaa

namespace Go.Proofs.Ytcilhidoiomfkaa
open Go.RowKit

theorem block_yes {vn : Nat} {ls : List Lk} {caps f b M : List Int} {s t most k z : Int} (hb : blkB (vn : Nat) ls caps f s t most = true) (h : BlockIs (vn : Nat) ls caps f s t most b k z) (hM : IsLv vn (Leads ls caps f (2 * ls.length)) s M) : z = 0 ∧ BlkIs vn ls caps f s t most b k M := by
  rcases h with ⟨_, hz, M', hM', hk⟩ | ⟨h1, _⟩
  · rw [Int.toNat_natCast] at hM' hk
    have hm := (fits_parts (flow_may (blkB_parts hb).1)).1
    obtain rfl := lev_one (leads_in hm rfl) (fun _ _ => Iff.rfl) hM hM'
    exact ⟨hz, hk⟩
  · rw [hb] at h1; cases h1

theorem blkB_mk {V : Int} {ls : List Lk} {caps f : List Int} {s t most : Int} (h : flowB V ls caps f s t = true) (h0 : 0 ≤ most) (h1 : most ≤ 4611686018427387904) : blkB V ls caps f s t most = true := by
  simp [blkB, h, h0, h1]

theorem flow_lvB {vn : Nat} {ls : List Lk} {caps f : List Int} {s t : Int} (h : flowB (vn : Nat) ls caps f s t = true) : lvB (vn : Nat) ls caps f s = true := by
  obtain ⟨h1, h2, _⟩ := flow_parts h
  rw [lvB, h1, Bool.true_and]
  exact isV_yes h2.1 h2.2

set_option maxRecDepth 20000 in
set_option maxHeartbeats 4000000 in
theorem BlockShut_walk (V : Int) (A : Option Addr) (n c : Nat) (ls : List Lk) (X : Option Addr) (m d : Nat) (caps : List Int) (Y : Option Addr) (r f0 : Nat) (f : List Int) (s t most : Int) (w : World) (h : InG w A n c ls) (hX : In w X m d caps) (hY : In w Y r f0 f) :
    Calls Try.prog 5 #[.agg #[.int .i64 V, .slice A n c], .slice X m d, .slice Y r f0, .int .i64 s, .int .i64 t, .int .i64 most] w (LawPost w) := by
  obtain ⟨hs, hnc, hc, hnil⟩ := h
  obtain ⟨hx, hpd, hd, hnilx⟩ := hX
  obtain ⟨hy, hqf, hf, hnily⟩ := hY
  have HR := Lib.hid hs
  have HL := Lib.hid hs.len
  have HX := Lib.hid hx
  have HY := Lib.hid hy
  have HLY := Lib.hid hy.len
  have HG0 := Lib.hid (grow0 w (.cells #[.int .i64 V, .slice A n c] 24))
  clear hs hnil hx hnilx hy hnily
  go_enter Try.func5, Try.ntmps5
  go_wp2_with fail
  refine (RFlow_any V s t A n c ls X m d caps Y r f0 f _ (HR.out.grown (Nat.le_refl _) HG0.out) (by simp) (HX.out.grown (Nat.le_refl _) HG0.out) (by simp) (HY.out.grown (Nat.le_refl _) HG0.out) (by simp)).mono ?_
  rintro e w1 ⟨rfl, k⟩
  obtain ⟨g1, ob⟩ := box1 [.int .i64 V, .slice A n c] k
  have G := Lib.hid g1
  have OB := Lib.hid ob
  clear k ob g1 HG0
  obtain ⟨p0, p1⟩ := OB.out.two
  cases hfl : flowB V ls caps f s t
  · clear hfl
    go_wp2
    go_ret
    exact ⟨rfl, below_of G.out⟩
  by_cases m0 : most < 0
  · clear hfl
    go_wp2
    go_ret
    exact ⟨rfl, below_of G.out⟩
  by_cases m1 : 4611686018427387904 < most
  · clear hfl
    go_wp2
    go_ret
    exact ⟨rfl, below_of G.out⟩
  have h8 := may_small (fits_parts (flow_may hfl)).1
  obtain ⟨vn, rfl⟩ : ∃ vn : Nat, V = (vn : Nat) := ⟨V.toNat, by omega⟩
  obtain ⟨hfit, hs2, ht2, _⟩ := flow_parts hfl
  obtain ⟨M, hM⟩ := lev_there (caps := caps) (f := f) (fits_parts hfit).1 rfl hs2
  have HLV : Hid (LvIs (vn : Nat) ls caps f s M 0) := lev_yes (flow_lvB hfl) rfl hM
  have OKM := Lib.hid (lvIs_okI HLV.out).1
  have hml := hM.len
  have LV := Lib.hid hM
  have HFL := Lib.hid hfl
  obtain ⟨tn, rfl⟩ : ∃ tn : Nat, t = (tn : Nat) := ⟨t.toNat, by have := ht2.1; omega⟩
  have htn : tn < vn := by have := ht2.2; omega
  have hbd := hM.bd _ ht2
  clear hfl hfit hs2 ht2 hM
  go_wp2_with fail
  refine (RLevels_any (vn : Nat) s A n c ls X m d caps Y r f0 f _ (HR.out.grown (Nat.le_refl _) G.out) G.out.size (HX.out.grown (Nat.le_refl _) G.out) G.out.size (HY.out.grown (Nat.le_refl _) G.out) G.out.size M 0 HLV.out).mono ?_
  rintro e w2 ⟨v2, rfl, h2, k⟩
  obtain ⟨Am, cm, rfl, _, _, rM⟩ := h2.rowN OKM.out
  rw [hml] at rM
  have RM := Lib.hid rM
  have G := Lib.hid (grown_trans G.out k)
  have OB := Lib.hid (OB.out.kept k)
  clear k h2 rM p0 p1
  obtain ⟨p0, p1⟩ := OB.out.two
  go_wp2_with fail
  refine (Block_any (vn : Nat) s (tn : Nat) most A n c ls X m d caps Y r f0 f _ (HR.out.grown (Nat.le_refl _) G.out) G.out.size (HX.out.grown (Nat.le_refl _) G.out) G.out.size (HY.out.grown (Nat.le_refl _) G.out) G.out.size).mono ?_
  rintro e w3 ⟨b, kk, z, hb, v3, rfl, h3, k⟩
  obtain ⟨okb, hbl⟩ := Block_okI hb
  obtain ⟨rfl, hbk⟩ := block_yes (blkB_mk HFL.out (by omega) (by omega)) hb LV.out
  obtain ⟨Ab, cb, rfl, _, _, rB⟩ := h3.rowN okb
  have BK := Lib.hid hbk
  have RB := Lib.hid rB
  have RM := Lib.hid ((RM.out.grown (Nat.le_refl _) k).wide k.size)
  have G := Lib.hid (grown_trans G.out k)
  have OB := Lib.hid (OB.out.kept k)
  have kl := hbk.low
  have kh := hbk.high
  clear k h3 rB hb okb hbk p0 p1
  obtain ⟨p0, p1⟩ := OB.out.two
  unfold blkV
  go_wp2_with fail
  refine (Block_any (vn : Nat) s (tn : Nat) 0 A n c ls X m d caps Y r f0 f _ (HR.out.grown (Nat.le_refl _) G.out) G.out.size (HX.out.grown (Nat.le_refl _) G.out) G.out.size (HY.out.grown (Nat.le_refl _) G.out) G.out.size).mono ?_
  rintro e w4 ⟨b0, j0, z0, hb, v4, rfl, h4, k⟩
  obtain ⟨okb, _⟩ := Block_okI hb
  obtain ⟨rfl, hbk⟩ := block_yes (blkB_mk HFL.out (by omega) (by omega)) hb LV.out
  obtain rfl : j0 = 0 := by have := hbk.low; have := hbk.high; omega
  obtain rfl : b0 = f := over_same HFL.out hbk.flow (by have := hbk.val; omega) hbk.over LV.out
  obtain ⟨A0, c0, rfl, _, _, r0⟩ := h4.rowN okb
  have R0 := Lib.hid r0
  have RB := Lib.hid ((RB.out.grown (Nat.le_refl _) k).wide k.size)
  have RM := Lib.hid ((RM.out.grown (Nat.le_refl _) k).wide k.size)
  have G := Lib.hid (grown_trans G.out k)
  clear k h4 r0 hb okb hbk p0 p1 OB
  unfold blkV
  go_wp2_with fail
  refine (num_says _ _).mono ?_
  rintro e w5 ⟨rfl, k⟩
  have R0 := Lib.hid ((R0.out.grown (Nat.le_refl _) k).wide k.size)
  have RB := Lib.hid ((RB.out.grown (Nat.le_refl _) k).wide k.size)
  have RM := Lib.hid ((RM.out.grown (Nat.le_refl _) k).wide k.size)
  have G := Lib.hid (grown_trans G.out k)
  clear k
  go_wp2_with fail
  refine (num_says _ _).mono ?_
  rintro e w6 ⟨rfl, k⟩
  have R0 := Lib.hid ((R0.out.grown (Nat.le_refl _) k).wide k.size)
  have RB := Lib.hid ((RB.out.grown (Nat.le_refl _) k).wide k.size)
  have RM := Lib.hid ((RM.out.grown (Nat.le_refl _) k).wide k.size)
  have G := Lib.hid (grown_trans G.out k)
  clear k
  have CS : Hid (∀ (wx : World) (Ax : Option Addr) (cx : Nat), w.grownBy wx none → Row wx wx.heap.size Ax b0.length b0 → Calls Try.prog 19 #[.slice Ax b0.length cx, .slice Y r f0] wx (Says wx (.bool true))) := fun wx Ax cx g rx => by
    have k := same_says (SameInts0_any Ax b0.length cx b0 Y r f0 b0 wx rx (HY.out.grown (Nat.le_refl _) g))
    rw [sameB_refl] at k
    exact k
  go_wp2_with fail
  refine (CS.out _ A0 c0 G.out R0.out).mono ?_
  rintro e w7 ⟨rfl, k⟩
  have RB := Lib.hid ((RB.out.grown (Nat.le_refl _) k).wide k.size)
  have RM := Lib.hid ((RM.out.grown (Nat.le_refl _) k).wide k.size)
  have G := Lib.hid (grown_trans G.out k)
  clear k R0
  go_wp2_with fail
  refine (awake11_any _).mono ?_
  rintro e w8 ⟨rfl, k⟩
  have RB := Lib.hid ((RB.out.grown (Nat.le_refl _) k).wide k.size)
  have RM := Lib.hid ((RM.out.grown (Nat.le_refl _) k).wide k.size)
  have G := Lib.hid (grown_trans G.out k)
  clear k
  obtain ⟨bm, offm, rfl, _, hcm⟩ := RM.out.at_ (by omega)
  have d0 := hcm tn htn
  rw [show M[tn]?.getD 0 = lvAt M (tn : Int) by simp [lvAt]] at d0
  have SO := Lib.hid (fun ht hm => blk_some HFL.out LV.out BK.out ht hm)
  have ST := Lib.hid (fun ht => blk_stays HFL.out LV.out BK.out ht)
  clear hcm
  generalize lvAt M (tn : Int) = lt at *
  by_cases hlt : 0 ≤ lt
  · by_cases hm : 0 < most
    · have hk := SO.out hlt hm
      clear SO ST
      go_wp2
      go_ret
      exact ⟨rfl, below_of G.out⟩
    · obtain rfl : kk = 0 := by omega
      obtain rfl : most = 0 := by omega
      clear SO ST
      go_wp2
      go_ret
      exact ⟨rfl, below_of G.out⟩
  · obtain ⟨rfl, hbf⟩ := ST.out (by omega)
    subst hbf
    obtain rfl : lt = -1 := by omega
    clear SO ST hlt
    go_wp2_with fail
    refine (CS.out _ Ab cb G.out RB.out).mono ?_
    rintro e w9 ⟨rfl, k⟩
    have G := Lib.hid (grown_trans G.out k)
    clear k
    go_wp2
    go_ret
    exact ⟨rfl, below_of G.out⟩

end Go.Proofs.Ytcilhidoiomfkaa
