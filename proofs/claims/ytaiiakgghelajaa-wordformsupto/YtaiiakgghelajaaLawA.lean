import Derived.Test.YtaiiakgghelajaaAwake
namespace Go.Proofs.Ytaiiakgghelajaa
open Go.RowKit

theorem Words_walk (A : Option Addr) (n c : Nat) (xs : List Int) (w : World) (h : In w A n c xs) : Calls Try.prog 3 #[.slice A n c] w (LawPost w) := by
  obtain ⟨hr, hnc, hsz, hnil⟩ := h
  have hlen := hr.len
  have HR := Lib.hid hr
  go_enter Try.func3, Try.ntmps3
  go_wp2_with fail
  refine (LendInts_any A n c xs w hr (Nat.le_refl _) hnil (by omega)).mono ?_
  rintro e w1 ⟨g, c1, rfl, hc1, hrl, hb1⟩
  have g1 := grown_of_below hb1
  have HL := Lib.hid hrl
  have HR := Lib.hid (HR.out.grown (Nat.le_refl _) g1)
  have G := Lib.hid g1
  have hh := hrl.head (k := n) (by omega)
  rw [List.take_left' hlen] at hh
  have s1 := g1.size
  have HH := Lib.hid hh
  clear hr hrl hb1 g1 hh
  go_wp2_with fail
  refine (Put_any _ n c1 xs w1 HH.out (Nat.le_refl _) (by omega)).mono ?_
  rintro e w2 ⟨rfl, g2⟩
  have HL := Lib.hid (HL.out.grown (Nat.le_refl _) g2)
  have HR := Lib.hid (HR.out.grown (by omega) g2)
  have G := Lib.hid (grown_trans G.out g2)
  have s2 := g2.size
  clear g2
  go_wp2_with fail
  refine (RefPut_any A n c xs w2 HR.out (by omega) (by omega)).mono ?_
  rintro e w3 ⟨rfl, g3⟩
  have HL := Lib.hid (HL.out.grown (by omega) g3)
  have HR := Lib.hid (HR.out.grown (by omega) g3)
  have G := Lib.hid (grown_trans G.out g3)
  have s3 := g3.size
  clear g3
  generalize putL xs = pl
  generalize putE xs = pe
  go_wp2_with fail
  refine (awake_any w3).mono ?_
  rintro e w4 ⟨rfl, g4⟩
  have HL := Lib.hid (HL.out.grown (by omega) g4)
  have HR := Lib.hid (HR.out.grown (by omega) g4)
  have G := Lib.hid (grown_trans G.out g4)
  clear g4
  have e1 : (pl == pl) = true := by simp
  have e2 : (pe == pe) = true := by simp
  go_wp2_with fail
  refine (Num_any pe w4).mono ?_
  rintro e w5 ⟨rfl, rfl⟩
  go_wp2_with fail
  refine (KeptInts_any g n c1 xs A c w4 HL.out hlen hc1 HR.out).mono ?_
  rintro e w5 ⟨rfl, j, rfl⟩
  go_wp2
  go_ret
  exact ⟨rfl, below_of (grown_drewN G.out _)⟩

theorem WordGets_walk (s : ByteArray) (p : Int) (w : World) (hs : s.size ≤ maxLen) : Calls Try.prog 4 #[.string s, .int .i64 p] w (LawPost w) := by
  unfold maxLen at hs
  go_enter Try.func4, Try.ntmps4
  go_wp2_with fail
  refine (Get_any s p w (by omega)).mono ?_
  rintro e w1 ⟨he, g1⟩
  unfold GetV at he
  subst he
  have G := Lib.hid g1
  clear g1
  go_wp2_with fail
  refine (RefGet_any s p w1 (by omega)).mono ?_
  rintro e w2 ⟨he, g2⟩
  unfold GetV at he
  subst he
  have G := Lib.hid (grown_trans G.out g2)
  clear g2
  generalize atX (bsOf s) p = x
  generalize atN (bsOf s) p = y
  generalize atE (bsOf s) p = z
  go_wp2_with fail
  refine (awake_any w2).mono ?_
  rintro e w3 ⟨rfl, g3⟩
  have G := Lib.hid (grown_trans G.out g3)
  clear g3
  have e1 : (x == x) = true := by simp
  have e2 : (y == y) = true := by simp
  have e3 : (z == z) = true := by simp
  go_wp2_with fail
  refine (Num_any z w3).mono ?_
  rintro e w4 ⟨rfl, rfl⟩
  go_wp2
  go_ret
  exact ⟨rfl, below_of G.out⟩

theorem ok_of (xs : List Int) (h : ∀ x ∈ xs, rate62 x) (i : Nat) : -9223372036854775808 ≤ xs[i]?.getD 0 ∧ xs[i]?.getD 0 ≤ 9223372036854775807 := by
  by_cases hi : i < xs.length
  · rw [List.getElem?_eq_getElem hi]
    obtain ⟨h1, h2⟩ := h _ (List.getElem_mem hi)
    show -9223372036854775808 ≤ xs[i] ∧ xs[i] ≤ 9223372036854775807
    omega
  · rw [List.getElem?_eq_none (by omega)]
    simp

theorem all_ok (l : List UInt8) (i : Nat) : -9223372036854775808 ≤ (allW l).1[i]?.getD 0 ∧ (allW l).1[i]?.getD 0 ≤ 9223372036854775807 := by
  by_cases h : (allW l).2 = 0
  · exact ok_of _ (all_back _ l (Nat.le_refl _) h).1 i
  · rw [allW_bad0 l h]
    simp

theorem WordLists_walk (s : ByteArray) (w : World) (hs : s.size ≤ maxLen) (hb : s.size ≤ 1048576) : Calls Try.prog 5 #[.string s] w (LawPost w) := by
  unfold maxLen at hs
  have hbear : Bears (bsOf s) := .inl (by rw [bsOf_len]; omega)
  have HB := Lib.hid hbear
  clear hbear
  have HOK := Lib.hid (all_ok (bsOf s))
  go_enter Try.func5, Try.ntmps5
  go_wp2_with fail
  refine (List_any s w (by omega) HB.out).mono ?_
  rintro e w1 ⟨v1, rfl, m1, g1⟩
  obtain ⟨A1, c1, rfl, _, r1⟩ := m1.row HOK.out
  have HR1 := Lib.hid r1
  have G := Lib.hid g1
  clear m1 r1 g1
  go_wp2_with fail
  refine (RefList_any s w1 (by omega) HB.out).mono ?_
  rintro e w2 ⟨v2, rfl, m2, g2⟩
  obtain ⟨A2, c2, rfl, _, r2⟩ := m2.row HOK.out
  have HR1 := Lib.hid (HR1.out.grown (Nat.le_refl _) g2)
  have HR2 := Lib.hid r2
  have G := Lib.hid (grown_trans G.out g2)
  have s2 := g2.size
  clear m2 r2 g2 HB HOK
  generalize (allW (bsOf s)).1 = xs at *
  generalize (allW (bsOf s)).2 = z at *
  go_wp2_with fail
  refine (awake_any w2).mono ?_
  rintro e w3 ⟨rfl, g3⟩
  have HR1 := Lib.hid (HR1.out.grown (by omega) g3)
  have HR2 := Lib.hid (HR2.out.grown (by omega) g3)
  have G := Lib.hid (grown_trans G.out g3)
  clear g3
  have e1 : sameB xs xs = true := by simp [sameB]
  have e3 : (z == z) = true := by simp
  go_wp2_with fail
  refine (SameInts0_any _ _ _ _ _ _ _ _ _ HR1.out HR2.out).mono ?_
  rintro e w4 ⟨rfl, j, rfl⟩
  rw [e1]
  go_wp2_with fail
  refine (Num_any z _).mono ?_
  rintro e w4 ⟨rfl, rfl⟩
  go_wp2
  go_ret
  exact ⟨rfl, below_of (grown_drewN G.out _)⟩

end Go.Proofs.Ytaiiakgghelajaa
