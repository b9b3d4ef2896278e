/-
  The law CutPairs, walked.
-/
import Derived.Test.YtmodkhcfihlhgaaSideG
import Derived.Test.YtmodkhcfihlhgaaFrame
namespace Go.Proofs.Ytmodkhcfihlhgaa
open Go.RowKit

def PairRel (w : World) (vn : Nat) (A : Option Addr) (n c : Nat) (a b : List Int) (x y i : Value) (wr : World) : Prop :=
  ∃ k : Nat, k ≤ vn ∧ i = .int .i64 (k : Nat) ∧ w.grownBy wr none ∧ Own wr w.heap.size 24 [.int .i64 (vn : Nat), .slice A n c] ∧ Duo wr (w.heap.size + 1) x y (pick (orP a b) k) (pick (andP a b) k)

theorem or_is {a b : List Int} {k : Nat} {p q : Bool} (h : decide ((k : Int) ∈ a) = p) (j : decide ((k : Int) ∈ b) = q) : orP a b k = (p || q) := by rw [orP, h, j]
theorem and_is {a b : List Int} {k : Nat} {p q : Bool} (h : decide ((k : Int) ∈ a) = p) (j : decide ((k : Int) ∈ b) = q) : andP a b k = (p && q) := by rw [andP, h, j]

theorem Duo.to {w : World} {base : Nat} {x y : Value} {s o s' o' : List Int} (h : Duo w base x y s o) (e1 : s' = s) (e2 : o' = o) : Duo w base x y s' o' := e1 ▸ e2 ▸ h

theorem Duo.nil2 (w : World) (base : Nat) : Duo w base nilS nilS [] [] := ⟨Mine.nil _ _, Mine.nil _ _, (apart_nil nilS).1⟩

theorem pair_worth {vn : Nat} {L : List Lk} {caps : List Int} (p : Nat → Bool) (h : mayG (vn : Nat) L = true) (k : capsB L caps = true) : worthX (vn : Nat) L caps (pick p vn) = wk L caps (pick p vn) L.length ∧ worthE (vn : Nat) L caps (pick p vn) = 0 :=
  worth_yes (worth_mk h (verts_pick p vn) k)

set_option maxHeartbeats 8000000 in
theorem CutPairs_walk (V : Int) (A : Option Addr) (n c : Nat) (L : List Lk) (Y : Option Addr) (p f : Nat) (caps : List Int) (X : Option Addr) (m d : Nat) (a : List Int) (Z : Option Addr) (m2 d2 : Nat) (b : List Int) (w : World) (h : InG w A n c L) (hY : In w Y p f caps) (hX : In w X m d a) (hZ : In w Z m2 d2 b) :
    Calls Try.prog 9 #[.agg #[.int .i64 V, .slice A n c], .slice Y p f, .slice X m d, .slice Z m2 d2] w (LawPost w) := by
  obtain ⟨hs, hnc, hc, hnil⟩ := h
  obtain ⟨hy, hpf, hf, hnily⟩ := hY
  obtain ⟨hx, hmd, hd, hnilx⟩ := hX
  obtain ⟨hz, hmd2, hd2, hnilz⟩ := hZ
  have HR := Lib.hid hs
  have HY := Lib.hid hy
  have HX := Lib.hid hx
  have HZ := Lib.hid hz
  have HR1 := Lib.hid (hs.grown (Nat.le_refl _) (grow0 w (.cells #[.int .i64 V, .slice A n c] 24)))
  have HY1 := Lib.hid (hy.grown (Nat.le_refl _) (grow0 w (.cells #[.int .i64 V, .slice A n c] 24)))
  have HX1 := Lib.hid (hx.grown (Nat.le_refl _) (grow0 w (.cells #[.int .i64 V, .slice A n c] 24)))
  clear hs hnil hy hnily hf hpf hc hnc hx hmd hd hnilx hz hmd2 hd2 hnilz
  go_enter Try.func9, Try.ntmps9
  go_wp2_with fail
  refine (Worth_any V A n c L Y p f caps X m d a _ HR1.out (by simp) HY1.out (by simp) HX1.out (by simp)).mono ?_
  rintro e w1 ⟨he, g1⟩
  obtain ⟨g, o2⟩ := box1 [.int .i64 V, .slice A n c] g1
  obtain ⟨c0, c1⟩ := o2.two
  have G := Lib.hid g
  have OB := Lib.hid o2
  unfold wthV at he
  subst he
  clear g g1 o2 HR1 HY1 HX1
  go_wp2_with fail
  refine (Worth_any V A n c L Y p f caps Z m2 d2 b _ (HR.out.grown (Nat.le_refl _) G.out) G.out.size (HY.out.grown (Nat.le_refl _) G.out) G.out.size (HZ.out.grown (Nat.le_refl _) G.out) G.out.size).mono ?_
  rintro e w2 ⟨he, g2⟩
  have G := Lib.hid (grown_trans G.out g2)
  have OB := Lib.hid (OB.out.kept g2)
  unfold wthV at he
  subst he
  clear g2 c0 c1
  by_cases hea : worthE V L caps a = 0
  case neg =>
    have hne : (worthE V L caps a != 0) = true := by simp [hea]
    clear hea
    generalize worthE V L caps a = ea at *
    generalize worthX V L caps a = xa at *
    generalize worthE V L caps b = eb at *
    generalize worthX V L caps b = xb at *
    go_wp2_with fail
    refine (num_says _ _).mono ?_
    rintro e w3 ⟨rfl, g3⟩
    have G := Lib.hid (grown_trans G.out g3)
    clear g3
    go_wp2
    go_ret
    exact ⟨rfl, below_of G.out⟩
  have HWA := Lib.hid (worthE_ok hea)
  rw [hea]
  clear hea
  go_wp2_with fail
  refine (num_says _ _).mono ?_
  rintro e w3 ⟨rfl, g3⟩
  have G := Lib.hid (grown_trans G.out g3)
  have OB := Lib.hid (OB.out.kept g3)
  clear g3
  by_cases heb : worthE V L caps b = 0
  case neg =>
    have hne : (worthE V L caps b != 0) = true := by simp [heb]
    clear heb
    generalize worthE V L caps b = eb at *
    generalize worthX V L caps a = xa at *
    generalize worthX V L caps b = xb at *
    go_wp2_with fail
    refine (num_says _ _).mono ?_
    rintro e w4 ⟨rfl, g4⟩
    have G := Lib.hid (grown_trans G.out g4)
    clear g4
    go_wp2
    go_ret
    exact ⟨rfl, below_of G.out⟩
  have HWB := Lib.hid (worthE_ok heb)
  rw [heb]
  clear heb
  go_wp2_with fail
  refine (num_says _ _).mono ?_
  rintro e w4 ⟨rfl, g4⟩
  have G := Lib.hid (grown_trans G.out g4)
  have OB := Lib.hid (OB.out.kept g4)
  clear g4
  obtain ⟨hmay, _, hcap⟩ := worth_parts HWA.out
  have hV := may_small hmay
  obtain ⟨vn, rfl⟩ : ∃ vn : Nat, V = (vn : Nat) := ⟨V.toNat, by omega⟩
  have HMAY := Lib.hid hmay
  have HCAP := Lib.hid hcap
  have hvn : vn ≤ 8 := by omega
  have HPR := Lib.hid (wk_pair a b hmay hcap L.length (Nat.le_refl _))
  rw [← (worth_yes HWA.out).1, ← (worth_yes HWB.out).1] at HPR
  have HBA := Lib.hid (worthX_bd (vn : Nat) L caps a)
  have HBB := Lib.hid (worthX_bd (vn : Nat) L caps b)
  generalize worthX (vn : Nat) L caps a = xa at *
  generalize worthX (vn : Nat) L caps b = xb at *
  have HS : Hid (PairRel w vn A n c a b nilS nilS (.int .i64 0) w4) := ⟨0, Nat.zero_le _, rfl, G.out, OB.out, Duo.nil2 _ _⟩
  unfold nilS at HS
  clear hmay hcap G OB hV HWA HWB
  go_wp2
  go_loopw [13, 14, 15] (fun x y i wr => PairRel w vn A n c a b x y i wr) (fun _ _ i _ => vn - (intOf i).toNat)
  case atStart => exact HS.out
  case round =>
    clear HS
    obtain ⟨k, hk, rfl, hg, o2, hduo⟩ := hrel
    have G := Lib.hid hg
    have hsz := hg.size
    have l2 := o2.lt
    obtain ⟨c0, c1⟩ := o2.two
    have OB := Lib.hid o2
    have D := Lib.hid hduo
    have hl1 := pick_len (orP a b) k
    have hl2 := pick_len (andP a b) k
    clear hg o2 hduo
    by_cases hlt : k < vn
    · go_wp2_with fail
      refine (Among_any (k : Nat) X m d a _ (HX.out.grown (Nat.le_refl _) G.out)).mono ?_
      rintro e w5 ⟨rfl, g5⟩
      have G := Lib.hid (grown_trans G.out g5)
      have OB := Lib.hid (OB.out.kept g5)
      have D := Lib.hid (D.out.kept g5)
      clear g5 c0 c1
      go_wp2_with fail
      refine (Among_any (k : Nat) Z m2 d2 b _ (HZ.out.grown (Nat.le_refl _) G.out)).mono ?_
      rintro e w6 ⟨rfl, g6⟩
      have G := Lib.hid (grown_trans G.out g6)
      have OB := Lib.hid (OB.out.kept g6)
      have D := Lib.hid (D.out.kept g6)
      have s6 := G.out.size
      have l6 := OB.out.lt
      clear g6
      have DL := Lib.hid (D.out.kept (grow0 _ (.cells #[.int .i64 (k : Nat)] 3)))
      have HROW := Lib.hid (Row.newAt (w := w6) (g := w6.heap.size) (n := 1) (vs := #[.int .i64 (k : Nat)]) [(k : Int)] (by simp) rfl rfl (by simp) (by simp; omega))
      cases ha : decide ((k : Int) ∈ a)
      · cases hb : decide ((k : Int) ∈ b)
        · have E1 := Lib.hid (pick_no (or_is ha hb))
          have E2 := Lib.hid (pick_no (and_is ha hb))
          clear ha hb
          go_wp2
          go_roundw
          case rel => exact ⟨k + 1, by omega, by go_num, G.out, OB.out, D.out.to E1.out E2.out⟩
          case measure => simp [intOf]; omega
        · have E1 := Lib.hid (pick_yes (or_is ha hb))
          have E2 := Lib.hid (pick_no (and_is ha hb))
          clear ha hb
          go_wp2_with (first | (at_builtin; refine wpList_app _ rfl _ _ rfl (w.heap.size + 1) _ _ _ rfl DL.out.S _ 1 1 [(k : Int)] rfl HROW.out (by simp) (by omega) (by simp; omega) ?_))
          intro v1 w7 hm1 hg7 hor
          have G7 := Lib.hid (grown_none (grown_alloc G.out (.cells #[.int .i64 (k : Nat)] 3)) hg7 (fun g hg => by have := D.out.S.own_ge g hg; omega))
          have O7 := Lib.hid (Own.kept' (OB.out.alloc (.cells #[.int .i64 (k : Nat)] 3)) hg7 D.out.S.apart)
          have D7 := Lib.hid (DL.out.stepS (s' := pick (orP a b) k ++ [(k : Int)]) (by simpa using hm1) hg7 (by rw [World.size_alloc]; exact hor))
          clear hm1 hg7 hor
          go_wp2
          go_roundw
          case rel => exact ⟨k + 1, by omega, by go_num, G7.out, O7.out, D7.out.to E1.out E2.out⟩
          case measure => simp [intOf]; omega
      · cases hb : decide ((k : Int) ∈ b)
        · have E1 := Lib.hid (pick_yes (or_is ha hb))
          have E2 := Lib.hid (pick_no (and_is ha hb))
          clear ha hb
          go_wp2_with (first | (at_builtin; refine wpList_app _ rfl _ _ rfl (w.heap.size + 1) _ _ _ rfl DL.out.S _ 1 1 [(k : Int)] rfl HROW.out (by simp) (by omega) (by simp; omega) ?_))
          intro v1 w7 hm1 hg7 hor
          have G7 := Lib.hid (grown_none (grown_alloc G.out (.cells #[.int .i64 (k : Nat)] 3)) hg7 (fun g hg => by have := D.out.S.own_ge g hg; omega))
          have O7 := Lib.hid (Own.kept' (OB.out.alloc (.cells #[.int .i64 (k : Nat)] 3)) hg7 D.out.S.apart)
          have D7 := Lib.hid (DL.out.stepS (s' := pick (orP a b) k ++ [(k : Int)]) (by simpa using hm1) hg7 (by rw [World.size_alloc]; exact hor))
          clear hm1 hg7 hor
          go_wp2
          go_roundw
          case rel => exact ⟨k + 1, by omega, by go_num, G7.out, O7.out, D7.out.to E1.out E2.out⟩
          case measure => simp [intOf]; omega
        · have E1 := Lib.hid (pick_yes (or_is ha hb))
          have E2 := Lib.hid (pick_yes (and_is ha hb))
          clear ha hb
          go_wp2_with (first | (at_builtin; refine wpList_app _ rfl _ _ rfl (w.heap.size + 1) _ _ _ rfl DL.out.S _ 1 1 [(k : Int)] rfl HROW.out (by simp) (by omega) (by simp; omega) ?_))
          intro v1 w7 hm1 hg7 hor
          have G7 := Lib.hid (grown_none (grown_alloc G.out (.cells #[.int .i64 (k : Nat)] 3)) hg7 (fun g hg => by have := D.out.S.own_ge g hg; omega))
          have O7 := Lib.hid (Own.kept' (OB.out.alloc (.cells #[.int .i64 (k : Nat)] 3)) hg7 D.out.S.apart)
          have D7 := Lib.hid (DL.out.stepS (s' := pick (orP a b) k ++ [(k : Int)]) (by simpa using hm1) hg7 (by rw [World.size_alloc]; exact hor))
          have s7 := G7.out.size
          have l7 := O7.out.lt
          clear hm1 hg7 hor DL HROW
          have DL := Lib.hid (D7.out.kept (grow0 _ (.cells #[.int .i64 (k : Nat)] 3)))
          have HROW := Lib.hid (Row.newAt (w := w7) (g := w7.heap.size) (n := 1) (vs := #[.int .i64 (k : Nat)]) [(k : Int)] (by simp) rfl rfl (by simp) (by simp; omega))
          go_wp2_with (first | (at_builtin; refine wpList_app _ rfl _ _ rfl (w.heap.size + 1) _ _ _ rfl DL.out.O _ 1 1 [(k : Int)] rfl HROW.out (by simp) (by omega) (by simp; omega) ?_))
          intro v2 w8 hm2 hg8 hor
          have G8 := Lib.hid (grown_none (grown_alloc G7.out (.cells #[.int .i64 (k : Nat)] 3)) hg8 (fun g hg => by have := D7.out.O.own_ge g hg; omega))
          have O8 := Lib.hid (Own.kept' (O7.out.alloc (.cells #[.int .i64 (k : Nat)] 3)) hg8 D7.out.O.apart)
          have D8 := Lib.hid (DL.out.stepO (o' := pick (andP a b) k ++ [(k : Int)]) (by simpa using hm2) hg8 (by rw [World.size_alloc]; exact hor))
          clear hm2 hg8 hor
          go_wp2
          go_roundw
          case rel => exact ⟨k + 1, by omega, by go_num, G8.out, O8.out, D8.out.to E1.out E2.out⟩
          case measure => simp [intOf]; omega
    obtain rfl : k = vn := by omega
    obtain ⟨Au, cu, rfl, _, ru⟩ := D.out.S.row (pick_ok (by omega))
    obtain ⟨Aw, cw, rfl, _, rw_⟩ := D.out.O.row (pick_ok (by omega))
    have RU := Lib.hid ru
    have RW := Lib.hid rw_
    have EU := Lib.hid (pair_worth (orP a b) HMAY.out HCAP.out)
    have EW := Lib.hid (pair_worth (andP a b) HMAY.out HCAP.out)
    rw [← EU.out.1, ← EW.out.1] at HPR
    clear ru rw_ D hl1 hl2
    go_wp2_with fail
    refine (Worth_any (k : Nat) A n c L Y p f caps Au _ cu (pick (orP a b) k) _ (HR.out.grown (Nat.le_refl _) G.out) G.out.size (HY.out.grown (Nat.le_refl _) G.out) G.out.size RU.out (Nat.le_refl _)).mono ?_
    rintro e w5 ⟨he, g5⟩
    rw [wthV, EU.out.2] at he
    subst he
    have G := Lib.hid (grown_trans G.out g5)
    have OB := Lib.hid (OB.out.kept g5)
    have RW := Lib.hid ((RW.out.grown (Nat.le_refl _) g5).wide g5.size)
    clear g5 c0 c1 RU
    obtain ⟨c0, c1⟩ := OB.out.two
    go_wp2_with fail
    refine (Worth_any (k : Nat) A n c L Y p f caps Aw _ cw (pick (andP a b) k) _ (HR.out.grown (Nat.le_refl _) G.out) G.out.size (HY.out.grown (Nat.le_refl _) G.out) G.out.size RW.out (Nat.le_refl _)).mono ?_
    rintro e w6 ⟨he, g6⟩
    rw [wthV, EW.out.2] at he
    subst he
    have G := Lib.hid (grown_trans G.out g6)
    clear g6 c0 c1 OB RW EU EW
    have hpr := HPR.out
    have hbu := worthX_bd (k : Nat) L caps (pick (orP a b) k)
    have hbw := worthX_bd (k : Nat) L caps (pick (andP a b) k)
    have hba := HBA.out
    have hbb := HBB.out
    generalize worthX (k : Nat) L caps (pick (orP a b) k) = xu at *
    generalize worthX (k : Nat) L caps (pick (andP a b) k) = xw at *
    clear HPR HBA HBB
    go_wp2_with fail
    refine (awake8_any _).mono ?_
    rintro e w7 ⟨rfl, g7⟩
    have G := Lib.hid (grown_trans G.out g7)
    clear g7
    go_wp2_with fail
    refine (num_says _ _).mono ?_
    rintro e w8 ⟨rfl, g8⟩
    have G := Lib.hid (grown_trans G.out g8)
    clear g8
    go_wp2_with fail
    refine (num_says _ _).mono ?_
    rintro e w9 ⟨rfl, g9⟩
    have G := Lib.hid (grown_trans G.out g9)
    clear g9
    have hw1 : IntKind.i64.wrap (xu - xa) = xu - xa := IntWalk.i64_in _ (by omega)
    have hw2 : IntKind.i64.wrap (xb - xw) = xb - xw := IntWalk.i64_in _ (by omega)
    have hd2 : xu - xa ≤ xb - xw := by omega
    obtain ⟨a0, a1⟩ := hba
    obtain ⟨b0, b1⟩ := hbb
    obtain ⟨u0, u1⟩ := hbu
    obtain ⟨v0, v1⟩ := hbw
    clear hpr
    by_cases h1 : xu ≤ xa
    · by_cases h2 : xw ≤ xb
      · go_wp2
        go_ret
        exact ⟨rfl, below_of G.out⟩
      · go_wp2
        go_ret
        exact ⟨rfl, below_of G.out⟩
    · go_wp2
      go_ret
      exact ⟨rfl, below_of G.out⟩

end Go.Proofs.Ytmodkhcfihlhgaa
