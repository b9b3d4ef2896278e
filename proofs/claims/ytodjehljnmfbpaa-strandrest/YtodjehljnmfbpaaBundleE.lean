/-
  bundle.May, and the reference's BundleMay.
-/
import Derived.Test.YtodjehljnmfbpaaBundleD
set_option maxRecDepth 20000
namespace Go.Proofs.Ytodjehljnmfbpaa
open Go.RowKit

def BMRel (w : World) (V : Int) (A : Option Addr) (n c m : Nat) (L : List Lk) (s t : Int) (ps : List Pth) (i : Value) (wr : World) : Prop :=
  ∃ k : Nat, k ≤ m ∧ i = .int .i64 (k : Nat) ∧ w.grownBy wr none ∧ Own wr w.heap.size 24 [.int .i64 V, .slice A n c] ∧ (ps.take k).all (goodP V L s t) = true

theorem goodP_low {V : Int} {L : List Lk} {s t : Int} {p : Pth} (h : p.1 ≤ 0) : goodP V L s t p = false := by simp [goodP]; omega
theorem goodP_no {V : Int} {L : List Lk} {s t : Int} {p : Pth} (h : mayP V L s t p.2 = false) : goodP V L s t p = false := by simp [goodP, h]
theorem goodP_yes {V : Int} {L : List Lk} {s t : Int} {p : Pth} (h : 0 < p.1) (k : mayP V L s t p.2 = true) : goodP V L s t p = true := by simp [goodP, h, k]

def RBMRel (w : World) (V : Int) (A : Option Addr) (n c m : Nat) (L : List Lk) (s t R : Int) (ps : List Pth) (a i : Value) (wr : World) : Prop :=
  ∃ (k : Nat) (acc : Int), k ≤ m ∧ i = .int .i64 (k : Nat) ∧ a = .int .i64 acc ∧ w.grownBy wr none ∧ Own wr w.heap.size 24 [.int .i64 V, .slice A n c] ∧ (ps.take k).all (goodP V L s t) = true ∧ isum (ratesOf (ps.take k)) = acc ∧ 0 ≤ acc ∧ acc ≤ R

set_option maxRecDepth 20000 in
set_option maxHeartbeats 4000000 in
theorem RBMay_any (V s t R : Int) (A : Option Addr) (n c : Nat) (L : List Lk) (P : Option Addr) (m d : Nat) (ps : List Pth) (w : World) {B B' : Nat} (h : Lks w B A n L) (hB : B ≤ w.heap.size) (hp : Pths w B' P m ps) (hB' : B' ≤ w.heap.size) :
    Calls Try.prog 14 #[.agg #[.int .i64 V, .slice A n c], .int .i64 s, .int .i64 t, .int .i64 R, .slice P m d] w (Says w (.bool (bmay V L s t R ps))) := by
  have hm := hp.small
  have HLP := Lib.hid hp.len
  have HR := Lib.hid h
  have HP := Lib.hid hp
  have HR1 := Lib.hid (h.grown hB (grow0 w (.cells #[.int .i64 V, .slice A n c] 24)))
  clear h hp
  go_enter Try.func14, Try.ntmps14
  go_wp2_with fail
  refine (RMay_any V A n c L _ HR1.out).mono ?_
  rintro e w1 ⟨rfl, g1⟩
  obtain ⟨g, o2⟩ := box1 [.int .i64 V, .slice A n c] g1
  obtain ⟨c0, c1⟩ := o2.two
  have G := Lib.hid g
  have O2 := Lib.hid o2
  clear g g1 o2 HR1
  cases hmay : mayG V L
  · have E := Lib.hid (bmay_graph (s := s) (t := t) (R := R) (ps := ps) hmay)
    go_wp2
    go_ret
    exact ⟨ret_bool E.out, G.out⟩
  by_cases hR0 : R < 1
  · have E := Lib.hid (bmay_rate (V := V) (L := L) (s := s) (t := t) (ps := ps) (.inl hR0))
    go_wp2
    go_ret
    exact ⟨ret_bool E.out, G.out⟩
  by_cases hR1 : 4611686018427387904 < R
  · have E := Lib.hid (bmay_rate (V := V) (L := L) (s := s) (t := t) (ps := ps) (.inr hR1))
    go_wp2
    go_ret
    exact ⟨ret_bool E.out, G.out⟩
  by_cases h0 : m = 0
  · have E := Lib.hid (bmay_len0 (V := V) (L := L) (s := s) (t := t) (R := R) (HLP.out.trans h0))
    subst h0
    go_wp2
    go_ret
    exact ⟨ret_bool E.out, G.out⟩
  have hm1 : ¬ (m : Int) < 1 := by omega
  by_cases h16 : m ≤ 16
  case neg =>
    have E := Lib.hid (bmay_len1 (V := V) (L := L) (s := s) (t := t) (R := R) (ps := ps) (by rw [HLP.out]; exact h16))
    go_wp2
    go_ret
    exact ⟨ret_bool E.out, G.out⟩
  have HS : Hid (RBMRel w V A n c m L s t R ps (.int .i64 0) (.int .i64 0) w1) := ⟨0, 0, Nat.zero_le _, rfl, rfl, G.out, O2.out, rfl, rfl, by omega, by omega⟩
  clear hmay G O2 c0 c1
  go_wp2
  go_loopw [11, 12] (fun a i wr => RBMRel w V A n c m L s t R ps a i wr) (fun _ i _ => m - (intOf i).toNat)
  case atStart => exact HS.out
  case round =>
    clear HS
    obtain ⟨k, acc, hk, rfl, rfl, hg, ob, hall, hacc, ha0, ha1⟩ := hrel
    have G := Lib.hid hg
    have HA := Lib.hid hall
    have HAC := Lib.hid hacc
    obtain ⟨c0, c1⟩ := ob.two
    have l1 := ob.lt
    have O := Lib.hid ob
    by_cases hlt : k < m
    · obtain ⟨b, off, X, q, d2, hA, hb, e0, e1, hrow⟩ := HP.out.at_ k hlt
      subst hA
      have hsz := hg.size
      have d0 := kept hg e0
      have d1 := kept hg e1
      have hrb := HP.out.ok k
      unfold bd64 at hrb
      have HN := Lib.hid (good_take (V := V) (L := L) (s := s) (t := t) (ps := ps) (k := k) (by rw [HLP.out]; exact hlt))
      have HX := Lib.hid (good_stop (V := V) (L := L) (s := s) (t := t) (ps := ps) (k := k) (by rw [HLP.out]; exact hlt))
      have HE1 := Lib.hid (goodP_low (V := V) (L := L) (s := s) (t := t) (p := at2 ps k))
      have HE2 := Lib.hid (goodP_no (V := V) (L := L) (s := s) (t := t) (p := at2 ps k))
      have HE3 := Lib.hid (goodP_yes (V := V) (L := L) (s := s) (t := t) (p := at2 ps k))
      have HP1 : Hid ((at2 ps k).1 = rt ps k) := rfl
      have HP2 : Hid ((at2 ps k).2 = lk ps k) := rfl
      rw [HP1.out] at HE1 HE3
      rw [HP2.out] at HE2 HE3
      have HMO := Lib.hid (bmay_more (V := V) (L := L) (s := s) (t := t) (R := R) (ps := ps) (k := k) (by rw [HLP.out]; exact hlt))
      have HSU := Lib.hid (rates_take (ps := ps) (k := k) (by rw [HLP.out]; exact hlt))
      rw [hacc] at HMO HSU
      have HRW := Lib.hid (hrow.grown hB' hg)
      have HRG := Lib.hid (HR.out.grown hB hg)
      clear hg hall ob e0 e1 hrow HP1 HP2 hacc
      generalize rt ps k = r at *
      generalize lk ps k = xs at *
      generalize at2 ps k = p at *
      have hw1 : IntKind.i64.wrap (R - acc) = R - acc := IntWalk.i64_in _ (by omega)
      by_cases hr0 : r < 1
      · have E := Lib.hid (bmay_bad (R := R) (HX.out (HE1.out (by omega))))
        clear HN HX HE1 HE2 HE3 HMO HSU hR0 hR1 ha0 ha1 hrb hw1
        have q1 : decide (r < 1) = true := by simp [hr0]
        go_wp2_with fail
        go_quiet (fail)
        go_wp2
        go_ret
        exact ⟨ret_bool E.out, grown_drewN G.out _⟩
      have q1 : decide (r < 1) = false := by simp [hr0]
      by_cases hr1 : R - acc < r
      · have E := Lib.hid (HMO.out (by omega))
        have q2 : decide (R - acc < r) = true := by simp [hr1]
        clear HN HX HE1 HE2 HE3 HMO HSU hR0 hR1 ha0 ha1 hrb hr0
        go_wp2_with fail
        go_quiet (fail)
        go_wp2
        go_ret
        exact ⟨ret_bool E.out, grown_drewN G.out _⟩
      have q2 : decide (R - acc < r) = false := by simp [hr1]
      have hw2 : IntKind.i64.wrap (acc + r) = acc + r := IntWalk.i64_in _ (by omega)
      have HAR : Hid (0 ≤ acc + r ∧ acc + r ≤ R ∧ 0 < r) := ⟨by omega, by omega, by omega⟩
      clear hR0 hR1 ha0 ha1 hrb hr0 hr1
      have HSS : Hid ((fun w' : World => w'.cell? ⟨w.heap.size, 0, none⟩ = some (.int .i64 V) ∧ w'.cell? ⟨w.heap.size, 1, none⟩ = some (.slice A n c) ∧ w'.cell? ⟨b, off + k * 2, none⟩ = some (.int .i64 r) ∧ w'.cell? ⟨b, off + k * 2 + 1, none⟩ = some (.slice X q d2)) wr) := ⟨c0, c1, d0, d1⟩
      have GK := Lib.hid (World.grownBy.refl wr none)
      have HC1 : Hid (∀ wx : World, wr.grownBy wx none → Calls Try.prog 30 #[.agg #[.int .i64 V, .slice A n c], .int .i64 s, .int .i64 t, .slice X q d2] wx (Says wx (.bool (mayP V L s t xs)))) := fun wx kx => RPMay_any V s t A n c L X q d2 xs wx (HRG.out.grown (by omega) kx) (by have := kx.size; omega) (HRW.out.grown (by omega) kx) (by have := kx.size; omega)
      cases hmp : mayP V L s t xs
      · have E := Lib.hid (bmay_bad (R := R) (HX.out (HE2.out hmp)))
        have HLK := Lib.hid hmp
        clear HN HX HE1 HE2 HE3 HMO HSU hmp
        go_wp2_with fail
        go_still_tail 26, (by kernel_rfl)
        go_wp2_with fail
        refine (HC1.out _ (grown_drew GK.out)).mono ?_
        rintro e w8 ⟨he, g⟩
        rw [HLK.out] at he
        subst he
        have g8 := grown_undrew g
        have GK : Hid (wr.grownBy w8 none) := g8
        have HSS := Lib.hid (held4b g8 HSS.out)
        clear g g8
        go_wp2
        go_ret
        exact ⟨ret_bool E.out, grown_trans G.out GK.out⟩
      · have E : Hid ((ps.take (k + 1)).all (goodP V L s t) = true) := by rw [Hid, HN.out, HA.out, HE3.out HAR.out.2.2 hmp]; rfl
        have HLK := Lib.hid hmp
        clear HN HX HE1 HE2 HE3 HMO hmp
        go_wp2_with fail
        go_still_tail 26, (by kernel_rfl)
        go_wp2_with fail
        refine (HC1.out _ (grown_drew GK.out)).mono ?_
        rintro e w8 ⟨he, g⟩
        rw [HLK.out] at he
        subst he
        have g8 := grown_undrew g
        have GK : Hid (wr.grownBy w8 none) := g8
        have HSS := Lib.hid (held4b g8 HSS.out)
        clear g g8
        clear c0 c1 d0 d1
        obtain ⟨c0, c1, d0, d1⟩ := HSS.out
        go_wp2
        go_roundw
        case rel => exact ⟨k + 1, acc + r, by omega, by go_num, by go_num, grown_trans G.out GK.out, O.out.kept GK.out, E.out, HSU.out, HAR.out.1, HAR.out.2.1⟩
        case measure => simp [intOf]; omega
    · obtain rfl : k = m := by omega
      have ex : ps.take k = ps := List.take_of_length_le (by rw [HLP.out]; exact Nat.le_refl _)
      rw [ex] at HA HAC
      have E := Lib.hid (bmay_end (V := V) (L := L) (s := s) (t := t) (R := R) (ps := ps) (by rw [HLP.out]; exact h0) (by rw [HLP.out]; exact h16) HA.out (by omega))
      rw [HAC.out] at E
      clear hg hall ob ex hacc
      by_cases he : acc = R
      · have E2 : Hid (bmay V L s t R ps = true) := by rw [Hid, E.out]; simp [he]
        subst he
        go_wp2
        go_ret
        exact ⟨ret_bool E2.out, G.out⟩
      · have E2 : Hid (bmay V L s t R ps = false) := by rw [Hid, E.out]; simp [he]
        have hb : (acc == R) = false := by simp [he]
        go_wp2
        go_ret
        exact ⟨ret_bool E2.out, G.out⟩

end Go.Proofs.Ytodjehljnmfbpaa
