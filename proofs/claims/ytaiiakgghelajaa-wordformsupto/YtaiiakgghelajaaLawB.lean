import Derived.Test.YtaiiakgghelajaaLawA
namespace Go.Proofs.Ytaiiakgghelajaa
open Go.RowKit

theorem rates_of (xs : List Int) (h : xs.all rateB = true) : ∀ x ∈ xs, rate62 x := fun x hx => (rateB_iff x).1 (List.all_eq_true.1 h x hx)

theorem all_of (xs : List Int) (h : ∀ x ∈ xs, rate62 x) : xs.all rateB = true := List.all_eq_true.2 fun x hx => (rateB_iff x).2 (h x hx)

theorem put_yes (xs : List Int) (h : xs.all rateB = true) : putL xs = encAll xs ∧ putE xs = 0 := by simp [putL, putE, h]

theorem put_no (xs : List Int) (h : xs.all rateB = false) : putL xs = [] ∧ putE xs = 300 := by simp [putL, putE, h]

theorem all_put (xs : List Int) (h : xs.all rateB = true) : allW (encAll xs) = (xs, 0) := all_enc _ xs (rates_of xs h) (Nat.le_refl _)

theorem bsOf_mk (l : List UInt8) : bsOf ⟨l.toArray⟩ = l := by simp [bsOf]

theorem WordBack_walk (A : Option Addr) (n c : Nat) (xs : List Int) (w : World) (h : In w A n c xs) : Calls Try.prog 6 #[.slice A n c] w (LawPost w) := by
  obtain ⟨hr, hnc, hsz, hnil⟩ := h
  have hlen := hr.len
  have HR := Lib.hid hr
  clear hr
  go_enter Try.func6, Try.ntmps6
  go_wp2_with fail
  refine (Put_any A n c xs w HR.out (Nat.le_refl _) (by omega)).mono ?_
  rintro e w1 ⟨rfl, g1⟩
  have HR := Lib.hid (HR.out.grown (Nat.le_refl _) g1)
  have G := Lib.hid g1
  have s1 := g1.size
  clear g1
  cases hall : xs.all rateB
  · obtain ⟨e1, e2⟩ := put_no xs hall
    rw [e1, e2]
    clear hall e1 e2
    go_wp2_with fail
    refine (Num_any 300 w1).mono ?_
    rintro e w2 ⟨rfl, rfl⟩
    go_wp2
    go_ret
    exact ⟨rfl, below_of G.out⟩
  · obtain ⟨e1, e2⟩ := put_yes xs hall
    rw [e1, e2]
    have ha := all_put xs hall
    have hel := (encAll_len xs).1
    have hsz2 : (ByteArray.mk (encAll xs).toArray).size ≤ 9223372036854775807 := by
      show (encAll xs).toArray.size ≤ _
      simp; omega
    have hbear : Bears (bsOf ⟨(encAll xs).toArray⟩) := by
      rw [bsOf_mk]
      refine .inr ?_
      rw [ha]
      exact ⟨rfl, by show xs.length * 8 ≤ _; omega⟩
    have hlist := fun w' => List_any ⟨(encAll xs).toArray⟩ w' hsz2 hbear
    rw [bsOf_mk] at hlist
    unfold ListPost at hlist
    rw [ha] at hlist
    simp only [hlen] at hlist
    have HLIST := Lib.hid hlist
    clear hall e1 e2 ha hel hsz2 hbear hlist
    generalize encAll xs = es at *
    go_wp2_with fail
    refine (Num_any 0 w1).mono ?_
    rintro e w2 ⟨rfl, rfl⟩
    go_wp2_with fail
    refine (HLIST.out w1).mono ?_
    rintro e w2 ⟨v2, rfl, m2, g2⟩
    obtain ⟨A2, c2, rfl, _, r2⟩ := m2.row HR.out.ok
    have HR2 := Lib.hid r2
    have HR := Lib.hid (HR.out.grown (by omega) g2)
    have G := Lib.hid (grown_trans G.out g2)
    have s2 := g2.size
    clear m2 r2 g2 HLIST
    go_wp2_with fail
    refine (awake_any w2).mono ?_
    rintro e w3 ⟨rfl, g3⟩
    have HR := Lib.hid (HR.out.grown (by omega) g3)
    have HR2 := Lib.hid (HR2.out.grown (by omega) g3)
    have G := Lib.hid (grown_trans G.out g3)
    clear g3
    have e1 : sameB xs xs = true := by simp [sameB]
    go_wp2_with fail
    refine (Num_any 0 w3).mono ?_
    rintro e w4 ⟨rfl, rfl⟩
    go_wp2_with fail
    refine (SameInts0_any A n c xs A2 n c2 xs w3 HR.out HR2.out).mono ?_
    rintro e w4 ⟨rfl, j, rfl⟩
    rw [e1]
    go_wp2
    go_ret
    exact ⟨rfl, below_of (grown_drewN G.out _)⟩

theorem WordForms_walk (s : ByteArray) (w : World) (hs : s.size ≤ maxLen) (hb : s.size ≤ 1048576) : Calls Try.prog 7 #[.string s] w (LawPost w) := by
  unfold maxLen at hs
  have hbear : Bears (bsOf s) := .inl (by rw [bsOf_len]; omega)
  have HB := Lib.hid hbear
  clear hbear
  have HOK := Lib.hid (all_ok (bsOf s))
  go_enter Try.func7, Try.ntmps7
  go_wp2_with fail
  refine (List_any s w (by omega) HB.out).mono ?_
  rintro e w1 ⟨v1, rfl, m1, g1⟩
  obtain ⟨A1, c1, rfl, _, r1⟩ := m1.row HOK.out
  have HR1 := Lib.hid r1
  have G := Lib.hid g1
  clear m1 r1 g1 HB
  by_cases h0 : (allW (bsOf s)).2 = 0
  · obtain ⟨hrs, henc⟩ := all_back _ (bsOf s) (Nat.le_refl _) h0
    have hlen := all_len _ (bsOf s) (Nat.le_refl _)
    have hrs : ∀ x ∈ (allW (bsOf s)).1, rate62 x := hrs
    have henc : encAll (allW (bsOf s)).1 = bsOf s := henc
    have hlen : (allW (bsOf s)).1.length ≤ (bsOf s).length := hlen
    have hall := all_of _ hrs
    obtain ⟨e1, e2⟩ := put_yes _ hall
    rw [henc] at e1
    have e3 : (s.toList == bsOf s) = true := by rw [ByteArray.toList_eq]; simp [bsOf]
    rw [bsOf_len] at hlen
    rw [h0]
    clear hrs henc hall h0
    generalize (allW (bsOf s)).1 = xs at *
    have E1 := Lib.hid e1
    have E2 := Lib.hid e2
    clear e1 e2
    go_wp2_with fail
    refine (Num_any 0 w1).mono ?_
    rintro e w2 ⟨rfl, rfl⟩
    go_wp2_with fail
    refine (Put_any _ _ c1 xs w1 HR1.out (Nat.le_refl _) (by omega)).mono ?_
    rintro e w2 ⟨he, g2⟩
    rw [E1.out, E2.out] at he
    subst he
    have G := Lib.hid (grown_trans G.out g2)
    clear g2
    generalize bsOf s = bs at *
    go_wp2_with fail
    refine (awake_any w2).mono ?_
    rintro e w3 ⟨rfl, g3⟩
    have G := Lib.hid (grown_trans G.out g3)
    clear g3
    go_wp2_with fail
    refine (Num_any 0 w3).mono ?_
    rintro e w4 ⟨rfl, rfl⟩
    go_wp2
    go_ret
    exact ⟨rfl, below_of G.out⟩
  · have h1 : ((allW (bsOf s)).2 != 0) = true := by simp [h0]
    generalize (allW (bsOf s)).1 = xs at *
    generalize (allW (bsOf s)).2 = z at *
    go_wp2_with fail
    refine (Num_any z w1).mono ?_
    rintro e w2 ⟨rfl, rfl⟩
    go_wp2
    go_ret
    exact ⟨rfl, below_of G.out⟩

end Go.Proofs.Ytaiiakgghelajaa
