import Derived.Test.YtaiiakgghelajaaLawB
namespace Go.Proofs.Ytaiiakgghelajaa
open Go.RowKit

theorem join_ok (xs ys : List Int) (h : ∀ i : Nat, -9223372036854775808 ≤ xs[i]?.getD 0 ∧ xs[i]?.getD 0 ≤ 9223372036854775807) (h' : ∀ i : Nat, -9223372036854775808 ≤ ys[i]?.getD 0 ∧ ys[i]?.getD 0 ≤ 9223372036854775807) (i : Nat) :
    -9223372036854775808 ≤ (xs ++ ys)[i]?.getD 0 ∧ (xs ++ ys)[i]?.getD 0 ≤ 9223372036854775807 := by
  by_cases hi : i < xs.length
  · rw [List.getElem?_append_left hi]; exact h i
  · rw [List.getElem?_append_right (by omega)]; exact h' _

theorem WordJoins_walk (A : Option Addr) (n c : Nat) (xs : List Int) (A' : Option Addr) (n' c' : Nat) (ys : List Int) (w : World) (h : In w A n c xs) (h' : In w A' n' c' ys) (hb : n + n' ≤ 1048576) :
    Calls Try.prog 8 #[.slice A n c, .slice A' n' c'] w (LawPost w) := by
  obtain ⟨hr, hnc, hsz, hnil⟩ := h
  obtain ⟨hr', hnc', hsz', hnil'⟩ := h'
  have HR := Lib.hid hr
  have HR' := Lib.hid hr'
  have HJ := Lib.hid (join_ok xs ys hr.ok hr'.ok)
  have HNIL := Lib.hid hnil
  have HNIL' := Lib.hid hnil'
  clear hr hr' hnil hnil'
  go_enter Try.func8, Try.ntmps8
  go_wp2_with fail
  refine (Put_any A n c xs w HR.out (Nat.le_refl _) (by omega)).mono ?_
  rintro e w1 ⟨rfl, g1⟩
  have HR := Lib.hid (HR.out.grown (Nat.le_refl _) g1)
  have HR' := Lib.hid (HR'.out.grown (Nat.le_refl _) g1)
  have G := Lib.hid g1
  have s1 := g1.size
  clear g1
  go_wp2_with fail
  refine (Put_any A' n' c' ys w1 HR'.out (by omega) (by omega)).mono ?_
  rintro e w2 ⟨rfl, g2⟩
  have HR := Lib.hid (HR.out.grown (by omega) g2)
  have HR' := Lib.hid (HR'.out.grown (by omega) g2)
  have G := Lib.hid (grown_trans G.out g2)
  have s2 := g2.size
  clear g2
  cases hx : xs.all rateB
  · obtain ⟨e1, e2⟩ := put_no xs hx
    rw [e1, e2]
    clear e1 e2 hx
    go_wp2_with fail
    refine (Num_any 300 w2).mono ?_
    rintro e w3 ⟨rfl, rfl⟩
    go_wp2
    go_ret
    exact ⟨rfl, below_of G.out⟩
  · obtain ⟨e1, e2⟩ := put_yes xs hx
    rw [e1, e2]
    clear e1 e2
    cases hy : ys.all rateB
    · obtain ⟨e1, e2⟩ := put_no ys hy
      rw [e1, e2]
      clear e1 e2 hx hy
      generalize encAll xs = ex at *
      go_wp2_with fail
      refine (Num_any 0 w2).mono ?_
      rintro e w3 ⟨rfl, rfl⟩
      go_wp2_with fail
      refine (Num_any 300 w2).mono ?_
      rintro e w3 ⟨rfl, rfl⟩
      go_wp2
      go_ret
      exact ⟨rfl, below_of G.out⟩
    · obtain ⟨e1, e2⟩ := put_yes ys hy
      rw [e1, e2]
      have hxy : (xs ++ ys).all rateB = true := by rw [List.all_append, hx, hy]; rfl
      obtain ⟨e3, e4⟩ := put_yes (xs ++ ys) hxy
      rw [encAll_app] at e3
      have E3 := Lib.hid e3
      have E4 := Lib.hid e4
      have hl1 := (encAll_len xs).1
      have hl2 := (encAll_len ys).1
      have hlx := HR.out.len
      have hly := HR'.out.len
      clear e1 e2 e3 e4 hx hy hxy
      generalize encAll xs = ex at *
      generalize encAll ys = ey at *
      go_wp2_with fail
      refine (Num_any 0 w2).mono ?_
      rintro e w3 ⟨rfl, rfl⟩
      go_wp2_with fail
      refine (Num_any 0 w2).mono ?_
      rintro e w3 ⟨rfl, rfl⟩
      go_wp2_with fail
      refine (CopyInts_any A n c xs w2 HR.out (by omega) HNIL.out (by omega)).mono ?_
      rintro e w3 ⟨v3, rfl, m3, b3⟩
      have g3 := grown_of_below b3
      have HM := Lib.hid m3
      have HR' := Lib.hid (HR'.out.grown (by omega) g3)
      have G := Lib.hid (grown_trans G.out g3)
      have s3 := g3.size
      clear m3 b3 g3
      go_wp2_with (first | (at_builtin; refine wpList_app _ rfl _ _ rfl w2.heap.size _ _ xs rfl HM.out A' n' c' ys rfl HR'.out HNIL'.out (by omega) (by omega) ?_))
      intro v4 w4 m4 g4 _
      have HG4 := Lib.hid (grown_none G.out g4 (fun g hg => by have := HM.out.own_ge g hg; omega))
      obtain ⟨A4, c4, rfl, _, r4⟩ := m4.row HJ.out
      have HR4 := Lib.hid r4
      clear r4 m4 g4
      go_wp2_with fail
      refine (Put_any A4 (n + n') c4 (xs ++ ys) w4 HR4.out (Nat.le_refl _) (by omega)).mono ?_
      rintro e w5 ⟨he, g5⟩
      rw [E3.out, E4.out] at he
      subst he
      have G := Lib.hid (grown_trans HG4.out g5)
      clear g5
      go_wp2_with fail
      refine (awake_any w5).mono ?_
      rintro e w6 ⟨rfl, g6⟩
      have G := Lib.hid (grown_trans G.out g6)
      clear g6
      go_wp2_with fail
      refine (Num_any 0 w6).mono ?_
      rintro e w7 ⟨rfl, rfl⟩
      have e1 : (ex ++ ey == (ByteArray.mk ex.toArray ++ ByteArray.mk ey.toArray).toList) = true := by
        rw [ByteArray.mk_append_mk, ByteArray.toList_mk]
        simp
      go_wp2
      go_ret
      exact ⟨rfl, below_of G.out⟩

end Go.Proofs.Ytaiiakgghelajaa
