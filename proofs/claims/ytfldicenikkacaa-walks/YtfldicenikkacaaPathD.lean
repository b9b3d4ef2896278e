/-
  path.May, and the reference's PathMay.
-/
import Derived.Test.YtfldicenikkacaaPathC
namespace Go.Proofs.Ytfldicenikkacaa
open Go.RowKit

theorem mayP_no {V : Int} {L : List Lk} {s d : Int} {xs : List Int} (h : goesW V L s xs = false) : mayP V L s d xs = false := by simp [mayP, h]
theorem mayP_nil {V : Int} {L : List Lk} {s d : Int} {xs : List Int} (h : xs.length = 0) : mayP V L s d xs = false := by
  have : xs = [] := List.eq_nil_of_length_eq_zero h
  simp [mayP, this]
theorem mayP_end {V : Int} {L : List Lk} {s d : Int} {xs : List Int} (h : ¬ (vsOf L s xs)[xs.length]?.getD 0 = d) : mayP V L s d xs = false := by
  have : ((vsOf L s xs)[xs.length]?.getD 0 == d) = false := by simpa using h
  rw [mayP, this]; simp
theorem mayP_yes {V : Int} {L : List Lk} {s d : Int} {xs : List Int} (h : goesW V L s xs = true) (h1 : ¬ xs.length = 0) (h2 : (vsOf L s xs)[xs.length]?.getD 0 = d) : mayP V L s d xs = noDup (vsOf L s xs) := by
  have h3 : xs.isEmpty = false := by cases xs <;> simp at h1 ⊢
  simp [mayP, h, h3, h2]

theorem walkE_ne {V : Int} {L : List Lk} {s : Int} {xs : List Int} (h : goesW V L s xs = false) : ¬ walkE V L s xs = 0 := by
  rcases (walk_no h).1 with e | e <;> rw [e] <;> decide

set_option maxHeartbeats 1000000 in
theorem PMay_any (V s t : Int) (A : Option Addr) (n c : Nat) (L : List Lk) (X : Option Addr) (m d : Nat) (xs : List Int) (w : World) {B B' : Nat} (h : Lks w B A n L) (hB : B ≤ w.heap.size) (hx : Row w B' X m xs) (hB' : B' ≤ w.heap.size) :
    Calls Try.prog 40 #[.agg #[.int .i64 V, .slice A n c], .int .i64 s, .int .i64 t, .slice X m d] w (Says w (.bool (mayP V L s t xs))) := by
  have hm := hx.small
  have HLX := Lib.hid hx.len
  have HX1 := Lib.hid (hx.grown hB' (grow0 w (.cells #[.int .i64 V, .slice A n c] 24)))
  have HR1 := Lib.hid (h.grown hB (grow0 w (.cells #[.int .i64 V, .slice A n c] 24)))
  clear h hx
  go_enter Try.func40, Try.ntmps40
  go_wp2_with fail
  refine (Walk_any V s A n c L X m d xs _ HR1.out (by simp; omega) HX1.out (by simp; omega)).mono ?_
  rintro e w1 ⟨v, rfl, hv, g1⟩
  have G := Lib.hid (grown_trans (grow0 _ _) g1)
  clear g1 HR1 HX1
  cases hgo : goesW V L s xs
  · have E := Lib.hid (mayP_no (d := t) hgo)
    have hne : (walkE V L s xs != 0) = true := by simp [walkE_ne hgo]
    clear hgo hv
    generalize walkE V L s xs = z at *
    go_wp2
    go_ret
    exact ⟨ret_bool E.out, G.out⟩
  · have hok := walk_ok hgo
    have h64 := (goes_parts hgo).2.2.1
    rw [HLX.out] at h64
    rw [hok.1]
    rw [hok.2.1, vsOf_len, HLX.out] at hv
    obtain ⟨gv, cv, rfl, hcv, hgv, hrv⟩ := hv.shape (by omega) (by rw [← hok.2.1]; exact walkV_ok V L s xs)
    have HRV := Lib.hid hrv
    have HLV : Hid ((vsOf L s xs).length = m + 1) := by rw [Hid, vsOf_len, HLX.out]
    by_cases h0 : m = 0
    · subst h0
      have E := Lib.hid (mayP_nil (V := V) (L := L) (s := s) (d := t) HLX.out)
      clear hgo hok hv hrv
      go_wp2
      go_ret
      exact ⟨ret_bool E.out, G.out⟩
    · have f0 := hrv.cellAt (i := m) (by omega)
      rw [Nat.zero_add] at f0
      have E0 := Lib.hid (mayP_yes (d := t) hgo (by rw [HLX.out]; exact h0))
      have E1 := Lib.hid (mayP_end (V := V) (L := L) (s := s) (d := t) (xs := xs))
      rw [HLX.out] at E0 E1
      have hm0 : ((m : Int) == 0) = false := by simp; omega
      clear hgo hok hv hrv
      generalize vsOf L s xs = vs at *
      by_cases he : vs[m]?.getD 0 = t
      · have E := Lib.hid (E0.out he)
        clear E0 E1
        rw [he] at f0
        have hne : (t != t) = false := by simp
        have HS : Hid (TwiceRel w1 (m + 1) vs (.int .i64 0) w1) := ⟨0, Nat.zero_le _, rfl, World.grownBy.refl w1 none, rfl⟩
        go_wp2
        go_loopw [38] (fun i wr => TwiceRel w1 (m + 1) vs i wr) (fun i _ => m + 1 - (intOf i).toNat)
        case atStart => exact HS.out
        case round =>
          clear HS f0
          obtain ⟨k, hk, rfl, hg, hno⟩ := hrel
          have G1 := Lib.hid hg
          by_cases hlt : k < m + 1
          · have d0 := kept hg (HRV.out.cellAt (i := k) hlt)
            rw [Nat.zero_add] at d0
            have HN := Lib.hid (nodup_step (xs := vs) (k := k) (by rw [HLV.out]; exact hlt))
            have HNS := Lib.hid (nodup_stop (xs := vs) (k := k) (by rw [HLV.out]; exact hlt))
            have HNO := Lib.hid hno
            have HRK := Lib.hid ((HRV.out.grown (Nat.le_refl _) hg).head (k := k) (by omega))
            clear hg hno
            generalize vs[k]?.getD 0 = y at *
            go_wp2_with fail
            refine (Contains_any y _ k _ _ _ HRK.out).mono ?_
            rintro e w2 ⟨rfl, g2⟩
            have G1 := Lib.hid (grown_trans G1.out g2)
            clear g2 HRK d0
            by_cases hq : y ∈ vs.take k
            · have EE := Lib.hid (E.out.trans (HNS.out hq))
              have hd : decide (y ∈ vs.take k) = true := by simp [hq]
              clear hq HN HNS
              rw [hd]
              clear hd
              go_wp2
              go_ret
              exact ⟨ret_bool EE.out, grown_trans G.out G1.out⟩
            · have hd : decide (y ∈ vs.take k) = false := by simp [hq]
              have HN2 : Hid (noDup (vs.take (k + 1)) = true) := by rw [Hid, HN.out, HNO.out, hd]; rfl
              clear hq HN HNS
              rw [hd]
              clear hd
              go_wp2
              go_roundw
              case rel => exact ⟨k + 1, by omega, by go_num, G1.out, HN2.out⟩
              case measure => simp [intOf]; omega
          · obtain rfl : k = m + 1 := by omega
            have EE : Hid (mayP V L s t xs = true) := by
              rw [Hid, E.out]
              rwa [List.take_of_length_le (by rw [HLV.out]; exact Nat.le_refl _)] at hno
            clear hg hno
            go_wp2
            go_ret
            exact ⟨ret_bool EE.out, grown_trans G.out G1.out⟩
      · have E := Lib.hid (E1.out he)
        have hne : (vs[m]?.getD 0 != t) = true := by simp [he]
        clear E0 E1 he
        generalize vs[m]?.getD 0 = y at *
        go_wp2
        go_ret
        exact ⟨ret_bool E.out, G.out⟩

set_option maxHeartbeats 1000000 in
theorem RPMay_any (V s t : Int) (A : Option Addr) (n c : Nat) (L : List Lk) (X : Option Addr) (m d : Nat) (xs : List Int) (w : World) {B B' : Nat} (h : Lks w B A n L) (hB : B ≤ w.heap.size) (hx : Row w B' X m xs) (hB' : B' ≤ w.heap.size) :
    Calls Try.prog 41 #[.agg #[.int .i64 V, .slice A n c], .int .i64 s, .int .i64 t, .slice X m d] w (Says w (.bool (mayP V L s t xs))) := by
  have hm := hx.small
  have HLX := Lib.hid hx.len
  have HX1 := Lib.hid (hx.grown hB' (grow0 w (.cells #[.int .i64 V, .slice A n c] 24)))
  have HR1 := Lib.hid (h.grown hB (grow0 w (.cells #[.int .i64 V, .slice A n c] 24)))
  clear h hx
  go_enter Try.func41, Try.ntmps41
  go_wp2_with fail
  refine (RWalk_any V s A n c L X m d xs _ HR1.out (by simp; omega) HX1.out (by simp; omega)).mono ?_
  rintro e w1 ⟨v, rfl, hv, g1⟩
  have G := Lib.hid (grown_trans (grow0 _ _) g1)
  clear g1 HR1 HX1
  cases hgo : goesW V L s xs
  · have E := Lib.hid (mayP_no (d := t) hgo)
    have hne : (walkE V L s xs == 0) = false := by simp [walkE_ne hgo]
    clear hgo hv
    generalize walkE V L s xs = z at *
    go_wp2
    go_ret
    exact ⟨ret_bool E.out, G.out⟩
  · have hok := walk_ok hgo
    have h64 := (goes_parts hgo).2.2.1
    rw [HLX.out] at h64
    rw [hok.1]
    rw [hok.2.1, vsOf_len, HLX.out] at hv
    obtain ⟨gv, cv, rfl, hcv, hgv, hrv⟩ := hv.shape (by omega) (by rw [← hok.2.1]; exact walkV_ok V L s xs)
    have HRV := Lib.hid hrv
    by_cases h0 : m = 0
    · subst h0
      have E := Lib.hid (mayP_nil (V := V) (L := L) (s := s) (d := t) HLX.out)
      clear hgo hok hv hrv
      go_wp2
      go_ret
      exact ⟨ret_bool E.out, G.out⟩
    · have f0 := hrv.cellAt (i := m) (by omega)
      rw [Nat.zero_add] at f0
      have E0 := Lib.hid (mayP_yes (d := t) hgo (by rw [HLX.out]; exact h0))
      have E1 := Lib.hid (mayP_end (V := V) (L := L) (s := s) (d := t) (xs := xs))
      rw [HLX.out] at E0 E1
      have hm0 : (0 : Int) < (m : Int) := by omega
      clear hgo hok hv hrv
      generalize vsOf L s xs = vs at *
      by_cases he : vs[m]?.getD 0 = t
      · have E := Lib.hid (E0.out he)
        clear E0 E1
        rw [he] at f0
        have hne : (t == t) = true := by simp
        go_wp2_with fail
        refine (twice_any _ (m + 1) cv vs _ HRV.out).mono ?_
        rintro e w2 ⟨rfl, g2⟩
        have G := Lib.hid (grown_trans G.out g2)
        clear g2
        generalize noDup vs = q at *
        go_wp2
        go_ret
        refine ⟨ret_bool ?_, G.out⟩
        rw [E.out]
      · have E := Lib.hid (E1.out he)
        have hne : (vs[m]?.getD 0 == t) = false := by simp [he]
        clear E0 E1 he
        generalize vs[m]?.getD 0 = y at *
        go_wp2
        go_ret
        exact ⟨ret_bool E.out, G.out⟩

end Go.Proofs.Ytfldicenikkacaa
