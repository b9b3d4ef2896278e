/-
  The law CutEnds, walked.
-/
import Derived.Test.YtmodkhcfihlhgaaSideG
import Derived.Test.YtmodkhcfihlhgaaFrame
namespace Go.Proofs.Ytmodkhcfihlhgaa
open Go.RowKit

def AllRel (w : World) (vn : Nat) (A : Option Addr) (n c : Nat) (o i : Value) (wr : World) : Prop :=
  ∃ k : Nat, k ≤ vn ∧ i = .int .i64 (k : Nat) ∧ w.grownBy wr none ∧ Own wr w.heap.size 24 [.int .i64 (vn : Nat), .slice A n c] ∧ Mine wr (w.heap.size + 1) o (pick allP k).length (pick allP k)

theorem Row.nil (w : World) (B : Nat) : Row w B none 0 [] := ⟨rfl, by omega, fun i => by simp, fun k => absurd k (by omega)⟩

theorem verts_nil (V : Int) : vertsB V [] = true := rfl
theorem ends_nil {V : Int} {L : List Lk} (h : mayG V L = true) : leavV V L [] = [] ∧ leavE V L [] = 0 := by
  have := leav_goes h (verts_nil V)
  rwa [lv_nil] at this
theorem ends_all {vn : Nat} {L : List Lk} (h : mayG (vn : Nat) L = true) : leavV (vn : Nat) L (pick allP vn) = [] ∧ leavE (vn : Nat) L (pick allP vn) = 0 := by
  have := leav_goes h (verts_pick allP vn)
  rwa [lv_all h] at this
theorem ends_one {V v : Int} {L : List Lk} (h : mayG V L = true) (k : isV V v = true) : leavV V L [v] = sel (fun l => l.1) L v L.length ∧ leavE V L [v] = 0 := by
  have := leav_goes h (verts_one k)
  rwa [lv_one h] at this
theorem ends_worth {vn : Nat} {L : List Lk} {caps : List Int} (h : mayG (vn : Nat) L = true) (k : capsB L caps = true) : worthX (vn : Nat) L caps (pick allP vn) = 0 ∧ worthE (vn : Nat) L caps (pick allP vn) = 0 := by
  have := worth_yes (worth_mk h (verts_pick allP vn) k)
  rwa [wk_all h] at this

set_option maxHeartbeats 4000000 in
theorem CutEnds_walk (V : Int) (A : Option Addr) (n c : Nat) (L : List Lk) (Y : Option Addr) (p f : Nat) (caps : List Int) (v : Int) (w : World) (h : InG w A n c L) (hY : In w Y p f caps) :
    Calls Try.prog 10 #[.agg #[.int .i64 V, .slice A n c], .slice Y p f, .int .i64 v] w (LawPost w) := by
  obtain ⟨hs, hnc, hc, hnil⟩ := h
  obtain ⟨hy, hpf, hf, hnily⟩ := hY
  have HR := Lib.hid hs
  have HY := Lib.hid hy
  have HR1 := Lib.hid (hs.grown (Nat.le_refl _) (grow0 w (.cells #[.int .i64 V, .slice A n c] 24)))
  have HY1 := Lib.hid (hy.grown (Nat.le_refl _) (grow0 w (.cells #[.int .i64 V, .slice A n c] 24)))
  clear hs hnil hy hnily hf hpf hc hnc
  go_enter Try.func10, Try.ntmps10
  go_wp2_with fail
  refine (RCaps_any V A n c L Y p f caps _ HR1.out (by simp) HY1.out).mono ?_
  rintro e w1 ⟨he, g1⟩
  obtain ⟨g, o2⟩ := box1 [.int .i64 V, .slice A n c] g1
  obtain ⟨c0, c1⟩ := o2.two
  have G := Lib.hid g
  have OB := Lib.hid o2
  clear g g1 o2 HR1 HY1
  cases hmay : mayG V L
  · rw [hmay] at he
    subst he
    clear hmay
    go_wp2
    go_ret
    exact ⟨rfl, below_of G.out⟩
  cases hcap : capsB L caps
  · rw [hmay, hcap] at he
    subst he
    clear hmay hcap
    go_wp2
    go_ret
    exact ⟨rfl, below_of G.out⟩
  rw [hmay, hcap] at he
  subst he
  by_cases hv0 : v < 0
  · clear hmay hcap
    go_wp2
    go_ret
    exact ⟨rfl, below_of G.out⟩
  by_cases hv1 : V ≤ v
  · clear hmay hcap
    go_wp2
    go_ret
    exact ⟨rfl, below_of G.out⟩
  have hV := may_small hmay
  obtain ⟨vn, rfl⟩ : ∃ vn : Nat, V = (vn : Nat) := ⟨V.toNat, by omega⟩
  have HMAY := Lib.hid hmay
  have HCAP := Lib.hid hcap
  have HISV : Hid (isV (vn : Nat) v = true) := by simp [Hid, isV]; omega
  have hvn : vn ≤ 8 := by omega
  have hvb : -9223372036854775808 ≤ v ∧ v ≤ 9223372036854775807 := by omega
  have HS : Hid (AllRel w vn A n c (.slice none 0 0) (.int .i64 0) w1) := ⟨0, Nat.zero_le _, rfl, G.out, OB.out, Mine.nil _ _⟩
  clear hmay hcap G OB hV
  go_wp2
  clear hv0 hv1
  go_loopw [7, 8] (fun o i wr => AllRel w vn A n c o i wr) (fun _ i _ => vn - (intOf i).toNat)
  case atStart => exact HS.out
  case round =>
    clear HS c0 c1
    obtain ⟨k, hk, rfl, hg, o2, hmine⟩ := hrel
    have G := Lib.hid hg
    have hsz := hg.size
    have l2 := o2.lt
    obtain ⟨c0, c1⟩ := o2.two
    have OB := Lib.hid o2
    have HM := Lib.hid hmine
    have hl := pick_len allP k
    clear hg o2 hmine
    by_cases hlt : k < vn
    · have HYS := Lib.hid (pick_yes (p := allP) (k := k) rfl)
      have HM1 := Lib.hid (HM.out.kept (grow0 _ (.cells #[.int .i64 (k : Nat)] 3)))
      have HROW := Lib.hid (Row.newAt (w := wr) (g := wr.heap.size) (n := 1) (vs := #[.int .i64 (k : Nat)]) [(k : Int)] (by simp) rfl rfl (by simp) (by simp; omega))
      go_wp2_with (first | (at_builtin; refine wpList_app _ rfl _ _ rfl (w.heap.size + 1) _ _ _ rfl HM1.out _ 1 1 [(k : Int)] rfl HROW.out (by simp) (by omega) (by simp; omega) ?_))
      intro v1 w3 hm1 hg3 _
      have G3 := Lib.hid (grown_none (grown_alloc G.out (.cells #[.int .i64 (k : Nat)] 3)) hg3 (fun g hg => by have := HM.out.own_ge g hg; omega))
      have O3 := Lib.hid (Own.kept' (OB.out.alloc (.cells #[.int .i64 (k : Nat)] 3)) hg3 HM.out.apart)
      have HM3 := Lib.hid hm1
      clear hm1 hg3
      go_wp2
      go_roundw
      case rel => exact ⟨k + 1, by omega, by go_num, G3.out, O3.out, by rw [HYS.out]; simpa using HM3.out⟩
      case measure => simp [intOf]; omega
    obtain rfl : k = vn := by omega
    obtain ⟨Al, cl, rfl, _, rl⟩ := HM.out.row (pick_ok (by omega))
    have RL := Lib.hid rl
    clear rl HM hl
    have hwl : Hid (wr.grownBy wr none) := World.grownBy.refl wr none
    go_wp2_with fail
    refine (Leaving_any (k : Nat) A n c L none 0 0 [] _ (HR.out.grown (Nat.le_refl _) G.out) G.out.size (Row.nil _ 0) (Nat.zero_le _)).mono ?_
    rintro e w2 ⟨va, he, ha, g2⟩
    rw [(ends_nil HMAY.out).2] at he
    subst he
    rw [(ends_nil HMAY.out).1] at ha
    obtain ⟨Aa, ca, rfl, _, _⟩ := ha.row (by simp)
    have G := Lib.hid (grown_trans G.out g2)
    have OB := Lib.hid (OB.out.kept g2)
    have RL := Lib.hid ((RL.out.grown (Nat.le_refl _) g2).wide g2.size)
    clear ha g2 c0 c1
    obtain ⟨c0, c1⟩ := OB.out.two
    go_wp2_with fail
    refine (Leaving_any (k : Nat) A n c L Al _ cl (pick allP k) _ (HR.out.grown (Nat.le_refl _) G.out) G.out.size RL.out (Nat.le_refl _)).mono ?_
    rintro e w3 ⟨vb, he, hb, g3⟩
    rw [(ends_all HMAY.out).2] at he
    subst he
    rw [(ends_all HMAY.out).1] at hb
    obtain ⟨Ab, cb, rfl, _, _⟩ := hb.row (by simp)
    have G := Lib.hid (grown_trans G.out g3)
    have OB := Lib.hid (OB.out.kept g3)
    have RL := Lib.hid ((RL.out.grown (Nat.le_refl _) g3).wide g3.size)
    clear hb g3 c0 c1
    obtain ⟨c0, c1⟩ := OB.out.two
    have R1 := Lib.hid (Row.one (w := w3) v hvb)
    have HR3 := Lib.hid (HR.out.grown (Nat.le_refl _) (grown_alloc G.out (.cells #[.int .i64 v] 3)))
    have s3 := G.out.size
    go_wp2_with fail
    refine (Leaving_any (k : Nat) A n c L (some ⟨w3.heap.size, 0, none⟩) 1 1 [v] _ HR3.out (by simp; omega) R1.out (by simp)).mono ?_
    rintro e w4 ⟨vc, he, hc, g4'⟩
    have g4 := grown_trans (grow0 w3 (.cells #[.int .i64 v] 3)) g4'
    rw [(ends_one HMAY.out HISV.out).2] at he
    subst he
    rw [(ends_one HMAY.out HISV.out).1] at hc
    have MC := Lib.hid hc
    have G := Lib.hid (grown_trans G.out g4)
    have OB := Lib.hid (OB.out.kept g4)
    have RL := Lib.hid ((RL.out.grown (Nat.le_refl _) g4).wide g4.size)
    clear hc g4 g4' c0 c1 R1 HR3
    obtain ⟨c0, c1⟩ := OB.out.two
    go_wp2_with fail
    refine (ROut_any (k : Nat) v A n c L _ (HR.out.grown (Nat.le_refl _) G.out) G.out.size).mono ?_
    rintro e w5 ⟨vd, he, hd, g5⟩
    rw [(selOf_yes (f := fun l => l.1) (by simp only [goodB, HMAY.out, HISV.out, Bool.and_self])).2] at he
    subst he
    have hok := selOf_ok (fun l : Lk => l.1) (k : Nat) L v
    rw [(selOf_yes (f := fun l => l.1) (by simp only [goodB, HMAY.out, HISV.out, Bool.and_self])).1] at hd hok
    have MC := Lib.hid (MC.out.kept g5)
    have MD := Lib.hid hd
    have G := Lib.hid (grown_trans G.out g5)
    have OB := Lib.hid (OB.out.kept g5)
    have RL := Lib.hid ((RL.out.grown (Nat.le_refl _) g5).wide g5.size)
    clear hd g5 c0 c1
    obtain ⟨c0, c1⟩ := OB.out.two
    generalize sel (fun l : Lk => l.1) L v L.length = xc at *
    obtain ⟨Ac, cc, rfl, _, rc⟩ := MC.out.row hok
    obtain ⟨Ad, cd, rfl, _, rd⟩ := MD.out.row hok
    have RC := Lib.hid rc
    have RD := Lib.hid rd
    clear rc rd hok MC MD
    go_wp2_with fail
    refine (Worth_any (k : Nat) A n c L Y p f caps Al _ cl (pick allP k) _ (HR.out.grown (Nat.le_refl _) G.out) G.out.size (HY.out.grown (Nat.le_refl _) G.out) G.out.size RL.out (Nat.le_refl _)).mono ?_
    rintro e w6 ⟨he, g6⟩
    rw [wthV, (ends_worth HMAY.out HCAP.out).1, (ends_worth HMAY.out HCAP.out).2] at he
    subst he
    have G := Lib.hid (grown_trans G.out g6)
    have RC := Lib.hid ((RC.out.grown (Nat.le_refl _) g6).wide g6.size)
    have RD := Lib.hid ((RD.out.grown (Nat.le_refl _) g6).wide g6.size)
    clear g6 c0 c1 OB RL
    go_wp2_with fail
    refine (awake8_any _).mono ?_
    rintro e w7 ⟨rfl, g7⟩
    have G := Lib.hid (grown_trans G.out g7)
    have RC := Lib.hid ((RC.out.grown (Nat.le_refl _) g7).wide g7.size)
    have RD := Lib.hid ((RD.out.grown (Nat.le_refl _) g7).wide g7.size)
    clear g7
    go_wp2_with fail
    refine (num_says _ _).mono ?_
    rintro e w8 ⟨rfl, g8⟩
    have G := Lib.hid (grown_trans G.out g8)
    have RC := Lib.hid ((RC.out.grown (Nat.le_refl _) g8).wide g8.size)
    have RD := Lib.hid ((RD.out.grown (Nat.le_refl _) g8).wide g8.size)
    clear g8
    go_wp2_with fail
    refine (num_says _ _).mono ?_
    rintro e w9 ⟨rfl, g9⟩
    have G := Lib.hid (grown_trans G.out g9)
    have RC := Lib.hid ((RC.out.grown (Nat.le_refl _) g9).wide g9.size)
    have RD := Lib.hid ((RD.out.grown (Nat.le_refl _) g9).wide g9.size)
    clear g9
    go_wp2_with fail
    refine (num_says _ _).mono ?_
    rintro e w10 ⟨rfl, g10⟩
    have G := Lib.hid (grown_trans G.out g10)
    have RC := Lib.hid ((RC.out.grown (Nat.le_refl _) g10).wide g10.size)
    have RD := Lib.hid ((RD.out.grown (Nat.le_refl _) g10).wide g10.size)
    clear g10
    go_wp2_with fail
    refine (num_says _ _).mono ?_
    rintro e w11 ⟨rfl, g11⟩
    have G := Lib.hid (grown_trans G.out g11)
    have RC := Lib.hid ((RC.out.grown (Nat.le_refl _) g11).wide g11.size)
    have RD := Lib.hid ((RD.out.grown (Nat.le_refl _) g11).wide g11.size)
    clear g11
    go_wp2_with fail
    refine (same_says (SameInts0_any Ac xc.length cc xc Ad xc.length cd xc _ RC.out RD.out)).mono ?_
    rintro e w12 ⟨he, g12⟩
    rw [sameB_refl] at he
    subst he
    have G := Lib.hid (grown_trans G.out g12)
    clear g12
    go_wp2
    go_ret
    exact ⟨rfl, below_of G.out⟩

end Go.Proofs.Ytmodkhcfihlhgaa
