/-
  stream.May and the reference's FlowMay.
-/
import Derived.Test.YtefgnaldiggnnaaFlowB
set_option maxRecDepth 20000
namespace Go.Proofs.Ytefgnaldiggnnaa
open Go.RowKit

def FlRel (w : World) (V : Int) (A : Option Addr) (n c : Nat) (L : List Lk) (f : List Int) (s t : Int) (N : Nat) (i : Value) (wr : World) : Prop :=
  ∃ k : Nat, k ≤ N ∧ i = .int .i64 (k : Nat) ∧ w.grownBy wr none ∧ Own wr w.heap.size 24 [.int .i64 V, .slice A n c] ∧ (List.range k).all (restB L f s t) = true

theorem rest_src {L : List Lk} {f : List Int} {s t : Int} {k : Nat} (h : (k : Int) = s) : restB L f s t k = true := by simp [restB, h]
theorem rest_dst {L : List Lk} {f : List Int} {s t : Int} {k : Nat} (h : (k : Int) = t) : restB L f s t k = true := by simp [restB, h]
theorem rest_gain {L : List Lk} {f : List Int} {s t : Int} {k : Nat} (h : gainOf L f k = 0) : restB L f s t k = true := by simp [restB, h]
theorem rest_no {L : List Lk} {f : List Int} {s t : Int} {k : Nat} (h : ¬ (k : Int) = s) (h2 : ¬ (k : Int) = t) (h3 : ¬ gainOf L f k = 0) : restB L f s t k = false := by simp [restB, h, h2, h3]
theorem rest_more {L : List Lk} {f : List Int} {s t : Int} {k : Nat} (h : (List.range k).all (restB L f s t) = true) (e : restB L f s t k = true) : (List.range (k + 1)).all (restB L f s t) = true := by rw [range_next, h, e]; rfl

set_option maxHeartbeats 2000000 in
theorem RFlow_any (V s t : Int) (A : Option Addr) (n c : Nat) (L : List Lk) (X : Option Addr) (p d : Nat) (caps : List Int) (Y : Option Addr) (q e0 : Nat) (f : List Int) (w : World) {B B' B'' : Nat} (h : Lks w B A n L) (hB : B ≤ w.heap.size) (hx : Row w B' X p caps) (hB' : B' ≤ w.heap.size) (hy : Row w B'' Y q f) (hB'' : B'' ≤ w.heap.size) :
    Calls Try.prog 21 #[.agg #[.int .i64 V, .slice A n c], .slice X p d, .slice Y q e0, .int .i64 s, .int .i64 t] w (Says w (.bool (flowB V L caps f s t))) := by
  have HL := Lib.hid h.len
  have HR := Lib.hid h
  have HX := Lib.hid hx
  have HY := Lib.hid hy
  have HR1 := Lib.hid (h.grown hB (grow0 w (.cells #[.int .i64 V, .slice A n c] 24)))
  have HX1 := Lib.hid (hx.grown hB' (grow0 w (.cells #[.int .i64 V, .slice A n c] 24)))
  have HE : Hid (flowB V L caps f s t = (((mayG V L && capsB L caps) && ratesB caps f) && (isV V s && isV V t) && !(s == t) && decide (0 ≤ gainOf L f s) && (List.range V.toNat).all (restB L f s t))) := rfl
  clear h hx hy
  go_enter Try.func21, Try.ntmps21
  go_wp2_with fail
  refine (RCaps_any V A n c L X p d caps _ HR1.out (by simp; omega) HX1.out).mono ?_
  rintro e w1 ⟨rfl, g1⟩
  obtain ⟨g, o2⟩ := box1 [.int .i64 V, .slice A n c] g1
  have G := Lib.hid g
  have O2 := Lib.hid o2
  clear g g1 o2 HR1 HX1
  cases hf : (mayG V L && capsB L caps)
  · have E : Hid (flowB V L caps f s t = false) := by rw [Hid, HE.out, hf]; rfl
    clear HE hf
    go_wp2
    go_ret
    exact ⟨ret_bool E.out, G.out⟩
  rw [hf, Bool.true_and] at HE
  rw [Bool.and_eq_true] at hf
  have hV := may_small hf.1
  have HF := Lib.hid hf
  clear hf
  go_wp2_with fail
  refine (RWithin_any X p d caps Y q e0 f _ (HX.out.grown hB' G.out) (HY.out.grown hB'' G.out)).mono ?_
  rintro e w2 ⟨rfl, g2⟩
  have G := Lib.hid (grown_trans G.out g2)
  have O2 := Lib.hid (O2.out.kept g2)
  clear g2
  obtain ⟨c0, c1⟩ := O2.out.two
  cases hr : ratesB caps f
  · have E : Hid (flowB V L caps f s t = false) := by rw [Hid, HE.out, hr]; rfl
    clear HE hr
    go_wp2
    go_ret
    exact ⟨ret_bool E.out, G.out⟩
  rw [hr, Bool.true_and] at HE
  have HMAY := Lib.hid HF.out.1
  have HCAP := Lib.hid (caps_in HF.out.2 hr)
  clear hr HF
  go_wp2_with fail
  refine (RVertex_any V s A n c _).mono ?_
  rintro e w3 ⟨rfl, g3⟩
  have G := Lib.hid (grown_trans G.out g3)
  have O2 := Lib.hid (O2.out.kept g3)
  clear g3 c0 c1
  obtain ⟨c0, c1⟩ := O2.out.two
  cases hs : isV V s
  · have E : Hid (flowB V L caps f s t = false) := by rw [Hid, HE.out, hs]; rfl
    clear HE hs
    go_wp2
    go_ret
    exact ⟨ret_bool E.out, G.out⟩
  rw [hs, Bool.true_and] at HE
  clear hs
  go_wp2_with fail
  refine (RVertex_any V t A n c _).mono ?_
  rintro e w4 ⟨rfl, g4⟩
  have G := Lib.hid (grown_trans G.out g4)
  have O2 := Lib.hid (O2.out.kept g4)
  clear g4 c0 c1
  obtain ⟨c0, c1⟩ := O2.out.two
  cases ht : isV V t
  · have E : Hid (flowB V L caps f s t = false) := by rw [Hid, HE.out, ht]; rfl
    clear HE ht
    go_wp2
    go_ret
    exact ⟨ret_bool E.out, G.out⟩
  rw [ht, Bool.true_and] at HE
  clear ht
  by_cases he : s = t
  · have E : Hid (flowB V L caps f s t = false) := by rw [Hid, HE.out, he]; simp
    clear HE
    subst he
    have q1 : (s == s) = true := by simp
    go_wp2
    go_ret
    exact ⟨ret_bool E.out, G.out⟩
  have q1 : (s == t) = false := by simp [he]
  rw [q1, Bool.not_false, Bool.true_and] at HE
  go_wp2_with fail
  refine (RGain_any V A n c L Y q e0 f s _ (HR.out.grown hB G.out) (HY.out.grown hB'' G.out) HMAY.out HCAP.out).mono ?_
  rintro e w5 ⟨rfl, g5⟩
  have G := Lib.hid (grown_trans G.out g5)
  have O2 := Lib.hid (O2.out.kept g5)
  clear g5 c0 c1
  obtain ⟨c0, c1⟩ := O2.out.two
  by_cases hz : gainOf L f s < 0
  · have E : Hid (flowB V L caps f s t = false) := by
      have e : decide (0 ≤ gainOf L f s) = false := by simp; omega
      rw [Hid, HE.out, e]; rfl
    clear HE
    generalize gainOf L f s = x at *
    go_wp2
    go_ret
    exact ⟨ret_bool E.out, G.out⟩
  have ez : decide (0 ≤ gainOf L f s) = true := by simp; omega
  rw [ez, Bool.true_and] at HE
  clear ez
  generalize gainOf L f s = x at *
  obtain ⟨N, rfl⟩ : ∃ N : Nat, V = (N : Int) := ⟨V.toNat, by omega⟩
  have HE2 : Hid (flowB (N : Int) L caps f s t = ((List.range N).all (restB L f s t))) := by rw [Hid, HE.out]; rfl
  have hN : N ≤ 8 := by omega
  have HS : Hid (FlRel w N A n c L f s t N (.int .i64 0) w5) := ⟨0, Nat.zero_le _, rfl, G.out, O2.out, rfl⟩
  clear HE G O2 hV
  go_wp2
  go_loopw [11] (fun i wr => FlRel w N A n c L f s t N i wr) (fun i _ => N - (intOf i).toNat)
  case atStart => exact HS.out
  case round =>
    clear HS c0 c1
    obtain ⟨k, hk, rfl, hg, ob, hall⟩ := hrel
    have G := Lib.hid hg
    have HA := Lib.hid hall
    obtain ⟨c0, c1⟩ := ob.two
    have O := Lib.hid ob
    clear hg ob hall
    by_cases hlt : k < N
    · by_cases hs : (k : Int) = s
      · have E := Lib.hid (rest_more HA.out (rest_src (L := L) (f := f) (t := t) hs))
        clear HA he
        have q2 : ((k : Int) != s) = false := by simp [hs]
        clear hs
        go_wp2
        go_roundw
        case rel => exact ⟨k + 1, by omega, by go_num, G.out, O.out, E.out⟩
        case measure => simp [intOf]; omega
      have q2 : ((k : Int) != s) = true := by simp [hs]
      by_cases ht : (k : Int) = t
      · have E := Lib.hid (rest_more HA.out (rest_dst (L := L) (f := f) (s := s) ht))
        clear HA he hs
        have q3 : ((k : Int) != t) = false := by simp [ht]
        clear ht
        go_wp2
        go_roundw
        case rel => exact ⟨k + 1, by omega, by go_num, G.out, O.out, E.out⟩
        case measure => simp [intOf]; omega
      have q3 : ((k : Int) != t) = true := by simp [ht]
      have HNS := Lib.hid hs
      have HNT := Lib.hid ht
      clear hs ht
      go_wp2_with fail
      refine (RGain_any N A n c L Y q e0 f k _ (HR.out.grown hB G.out) (HY.out.grown hB'' G.out) HMAY.out HCAP.out).mono ?_
      rintro e w4 ⟨rfl, g4⟩
      have G := Lib.hid (grown_trans G.out g4)
      have O := Lib.hid (O.out.kept g4)
      clear g4 c0 c1
      by_cases hzk : gainOf L f k = 0
      · have E := Lib.hid (rest_more HA.out (rest_gain (s := s) (t := t) hzk))
        rw [hzk]
        clear hzk HA
        go_wp2
        go_roundw
        case rel => exact ⟨k + 1, by omega, by go_num, G.out, O.out, E.out⟩
        case measure => simp [intOf]; omega
      · have E : Hid (flowB N L caps f s t = false) := by
          rw [Hid, HE2.out, range_stop hlt (rest_no HNS.out HNT.out hzk)]
        have q4 : (gainOf L f k != 0) = true := by simp [hzk]
        clear hzk HE2 HA
        generalize gainOf L f k = x at *
        go_wp2
        go_ret
        exact ⟨ret_bool E.out, G.out⟩
    · obtain rfl : k = N := by omega
      have E : Hid (flowB k L caps f s t = true) := by rw [Hid, HE2.out, HA.out]
      clear HE2 HA
      go_wp2
      go_ret
      exact ⟨ret_bool E.out, G.out⟩

end Go.Proofs.Ytefgnaldiggnnaa
