/-
  The law StreamBack, walked.
-/
import Derived.Test.YtmodkhcfihlhgaaFlowLawB
namespace Go.Proofs.Ytmodkhcfihlhgaa
open Go.RowKit

def dn : Nat → Int
  | 0 => -1
  | j + 1 => (j : Int)

theorem dn_eq (j : Nat) : dn j = (j : Int) - 1 := by
  cases j with
  | zero => rfl
  | succ j => simp only [dn]; omega

theorem xor_flip {a : Int} {n : Nat} (h : isV (2 * (n : Int)) a = true) (hn : n ≤ 16) : bits .xor .i64 a 1 = flipA a := by
  have key : ∀ k : Fin 32, bits .xor .i64 ((k.val : Nat) : Int) 1 = flipA ((k.val : Nat) : Int) := by decide
  simp only [isV, Bool.and_eq_true, decide_eq_true_eq] at h
  obtain ⟨k, rfl⟩ : ∃ k : Nat, a = (k : Int) := ⟨a.toNat, by omega⟩
  exact key ⟨k, by omega⟩

theorem back_next {rs : List Int} {j : Nat} (h : j < rs.length) : backA (rs.drop j) = backA (rs.drop (j + 1)) ++ [flipA (rs[j]?.getD 0)] := by
  rw [List.drop_eq_getElem_cons h, List.getElem?_eq_getElem h, Option.getD_some, backA, List.reverse_cons, List.map_append]
  rfl

theorem allV_ok {M : Int} {xs : List Int} (h : allV M xs = true) (hM : M ≤ 1000) : okI xs := by
  intro i
  by_cases hi : i < xs.length
  · have := allV_at h hi
    simp only [isV, Bool.and_eq_true, decide_eq_true_eq] at this
    omega
  · rw [List.getElem?_eq_none (by omega)]
    simp

def BkRel (w1 : World) (m : Nat) (rs : List Int) (o i : Value) (wr : World) : Prop :=
  ∃ j : Nat, j ≤ m ∧ i = .int .i64 (dn j) ∧ w1.grownBy wr none ∧ Mine wr w1.heap.size o (m - j) (backA (rs.drop j))

theorem mov_zero {V : Int} {L : List Lk} {caps f rs : List Int} {b : Int} (h : movE V L caps f b rs = 0) : ∃ g, formM V L caps f b rs = true ∧ movK caps b f rs = some g ∧ movV V L caps f b rs = g := by
  cases hf : formM V L caps f b rs
  · rw [(mov_form hf).1] at h; omega
  · cases hk : movK caps b f rs with
    | none => rw [(mov_none hf hk).1] at h; omega
    | some g => exact ⟨g, rfl, rfl, (mov_some hf hk).2⟩

set_option maxHeartbeats 4000000 in
theorem StreamBack_walk (V : Int) (A : Option Addr) (n c : Nat) (L : List Lk) (X : Option Addr) (p d : Nat) (caps : List Int) (Y : Option Addr) (q f0 : Nat) (f : List Int) (b : Int) (Z : Option Addr) (m d0 : Nat) (rs : List Int) (w : World) (h : InG w A n c L) (hX : In w X p d caps) (hY : In w Y q f0 f) (hZ : In w Z m d0 rs) :
    Calls Try.prog 13 #[.agg #[.int .i64 V, .slice A n c], .slice X p d, .slice Y q f0, .int .i64 b, .slice Z m d0] w (LawPost w) := by
  obtain ⟨hs, hnc, hc, hnil⟩ := h
  obtain ⟨hx, hpd, hd, hnilx⟩ := hX
  obtain ⟨hy, hqf, hf, hnily⟩ := hY
  obtain ⟨hz, hmd, hd0, hnilz⟩ := hZ
  have HL := Lib.hid hs.len
  have HR := Lib.hid hs
  have HX := Lib.hid hx
  have HY := Lib.hid hy
  have HZ := Lib.hid hz
  have HLY := Lib.hid hy.len
  have HLZ := Lib.hid hz.len
  have HOKM := Lib.hid (movV_ok hx V L f b rs)
  have HR1 := Lib.hid (hs.grown (Nat.le_refl _) (grow0 w (.cells #[.int .i64 V, .slice A n c] 24)))
  have HX1 := Lib.hid (hx.grown (Nat.le_refl _) (grow0 w (.cells #[.int .i64 V, .slice A n c] 24)))
  have HY1 := Lib.hid (hy.grown (Nat.le_refl _) (grow0 w (.cells #[.int .i64 V, .slice A n c] 24)))
  have HZ1 := Lib.hid (hz.grown (Nat.le_refl _) (grow0 w (.cells #[.int .i64 V, .slice A n c] 24)))
  clear hs hnil hx hnilx hy hnily hz hnilz
  go_enter Try.func13, Try.ntmps13
  go_wp2_with fail
  refine (Move_any V b A n c L X p d caps Y q f0 f Z m d0 rs _ HR1.out (by simp) HX1.out (by simp) HY1.out (by simp) HZ1.out (by simp)).mono ?_
  rintro e w1 ⟨va, rfl, ha, k⟩
  obtain ⟨g1, ob⟩ := box1 [.int .i64 V, .slice A n c] k
  have MA := Lib.hid ha
  have G := Lib.hid g1
  have OB := Lib.hid ob
  clear k g1 ob ha HR1 HX1 HY1 HZ1
  go_wp2_with fail
  refine (num_says _ _).mono ?_
  rintro e w2 ⟨rfl, k⟩
  have s2 := k.size
  have MA := Lib.hid (MA.out.kept k)
  have G := Lib.hid (grown_trans G.out k)
  have OB := Lib.hid (OB.out.kept k)
  clear k
  by_cases hz : movE V L caps f b rs = 0
  case neg =>
    have hb : (movE V L caps f b rs != 0) = true := by simp [hz]
    clear hz
    generalize movE V L caps f b rs = ve at *
    go_wp2
    go_ret
    exact ⟨rfl, below_of G.out⟩
  obtain ⟨g, hform, hk, hv⟩ := mov_zero hz
  rw [hz]
  obtain ⟨b1, b2⟩ := back_form hform hk
  obtain ⟨z1, z2⟩ := mov_some b1 b2
  have Z1 := Lib.hid z1
  have Z2 := Lib.hid z2
  have hokg := HOKM.out
  rw [hv] at MA hokg
  have hall : allV (2 * (n : Int)) rs = true ∧ m ≤ 64 ∧ n ≤ 16 := by
    simp only [formM, Bool.and_eq_true, decide_eq_true_eq] at hform
    have h1 := (fits_parts hform.1.1.1).1
    have h2 := (may_8 h1 HL.out).2
    have h3 := hform.2
    rw [HL.out] at h3
    exact ⟨h3, by have := HLZ.out; have := hform.1.2; omega, h2⟩
  have hbk : allV (2 * (n : Int)) (backA rs) = true := by
    simp only [formM, Bool.and_eq_true] at b1
    have := b1.2
    rwa [HL.out] at this
  have HALL := Lib.hid hall.1
  have HOKB := Lib.hid (allV_ok hbk (by omega))
  have hm64 := hall.2.1
  have hn16 := hall.2.2
  clear hz hform hk hv b1 b2 z1 z2 hall hbk HOKM
  generalize hga : g.length = ga at *
  obtain ⟨Aa, ca, rfl, _, ra⟩ := MA.out.row hokg
  have HRA := Lib.hid ra
  clear ra hokg hga
  have hw0 : IntKind.i64.wrap ((m : Int) - 1) = (m : Int) - 1 := IntWalk.i64_in _ (by omega)
  have HS : Hid (BkRel w2 m rs (.slice none 0 0) (.int .i64 ((m : Int) - 1)) w2) := ⟨m, Nat.le_refl _, by rw [dn_eq], World.grownBy.refl _ _, by rw [Nat.sub_self, List.drop_eq_nil_of_le (by rw [HLZ.out]; exact Nat.le_refl _)]; exact Mine.nil _ _⟩
  go_wp2
  go_loopw [13, 14] (fun o i wr => BkRel w2 m rs o i wr) (fun _ i _ => (intOf i + 1).toNat)
  case atStart => exact HS.out
  case round =>
    clear HS hw0
    obtain ⟨j, hj, hi, hg, hmine⟩ := hrel
    have G2 := Lib.hid hg
    have HM := Lib.hid hmine
    have hsz := hg.size
    rcases j with _ | j
    · have hi : _ = Value.int .i64 (-1) := hi
      subst hi
      have hmb := HM.out
      rw [List.drop_zero, Nat.sub_zero] at hmb
      obtain ⟨Ab, cb, rfl, _, rb⟩ := hmb.row HOKB.out
      have HRB := Lib.hid rb
      have GG := Lib.hid (grown_trans G.out G2.out)
      have OB := Lib.hid (OB.out.kept G2.out)
      obtain ⟨p0, p1⟩ := OB.out.two
      clear hmb rb hmine hg HM
      go_wp2_with fail
      refine (Move_any V b A n c L X p d caps Aa ga ca g Ab m cb (backA rs) _ (HR.out.grown (Nat.le_refl _) GG.out) GG.out.size (HX.out.grown (Nat.le_refl _) GG.out) GG.out.size (HRA.out.grown (Nat.le_refl _) G2.out) hsz HRB.out (Nat.le_refl _)).mono ?_
      rintro e w5 ⟨vb, he, hb, k⟩
      rw [Z1.out] at he
      subst he
      rw [Z2.out, HLY.out] at hb
      obtain ⟨Ac, cc, rfl, _, rc⟩ := hb.row HY.out.ok
      have HRC := Lib.hid rc
      have GG := Lib.hid (grown_trans GG.out k)
      have GC := Lib.hid (World.grownBy.refl w5 none)
      clear k p0 p1 hb rc
      go_wp2_with fail
      refine (awake9_any _).mono ?_
      rintro e w6 ⟨rfl, k⟩
      have GG := Lib.hid (grown_trans GG.out k)
      have GC := Lib.hid (grown_trans GC.out k)
      clear k
      go_wp2_with fail
      refine (num_says _ _).mono ?_
      rintro e w7 ⟨rfl, k⟩
      have GG := Lib.hid (grown_trans GG.out k)
      have GC := Lib.hid (grown_trans GC.out k)
      clear k
      go_wp2_with fail
      refine (same_says (SameInts0_any Ac q cc f Y q f0 f _ (HRC.out.grown (Nat.le_refl _) GC.out) (HY.out.grown (Nat.le_refl _) GG.out))).mono ?_
      rintro e w8 ⟨he, k⟩
      rw [sameB_refl] at he
      subst he
      have GG := Lib.hid (grown_trans GG.out k)
      clear k
      go_wp2
      go_ret
      exact ⟨rfl, below_of GG.out⟩
    · have hi : _ = Value.int .i64 (j : Int) := hi
      subst hi
      obtain ⟨bz, oz, hA, hbz, hcell⟩ := HZ.out.at_ (by omega)
      subst hA
      have d1 := kept hg (kept G.out (hcell j (by omega)))
      have HNX := Lib.hid (back_next (rs := rs) (j := j) (by rw [HLZ.out]; omega))
      have hv := allV_at HALL.out (j := j) (by rw [HLZ.out]; omega)
      have hx1 := xor_flip hv hn16
      have hfl := flip_isV hv
      simp only [isV, Bool.and_eq_true, decide_eq_true_eq] at hfl
      clear hcell hg hmine hv
      generalize rs[j]?.getD 0 = y at *
      generalize flipA y = z at *
      have hmj : m - j = m - (j + 1) + 1 := by omega
      have HM1 := Lib.hid (HM.out.kept (grow0 _ (.cells #[.int .i64 z] 3)))
      have HROW := Lib.hid (Row.newAt (w := wr) (g := wr.heap.size) (n := 1) (vs := #[.int .i64 z]) [z] rfl rfl rfl (by simp) (by simp; omega))
      have hw1 : IntKind.i64.wrap ((j : Int) - 1) = (j : Int) - 1 := IntWalk.i64_in _ (by omega)
      have HMJ := Lib.hid hmj
      clear hmj
      go_wp2_with (first | (at_builtin; refine wpList_app _ rfl _ _ rfl w2.heap.size _ _ _ rfl HM1.out _ 1 1 [z] rfl HROW.out (by simp) (by omega) (by simp; omega) ?_))
      intro v1 w3 hm1 hg3 _
      have G3 := Lib.hid (grown_none (grown_alloc G2.out (.cells #[.int .i64 z] 3)) hg3 (fun g hg => HM.out.own_ge g hg))
      have HM3 := Lib.hid hm1
      clear hm1 hg3
      go_wp2
      go_roundw
      case rel => exact ⟨j, by omega, by rw [dn_eq], G3.out, by rw [HNX.out, HMJ.out]; exact HM3.out⟩
      case measure => simp [intOf]

end Go.Proofs.Ytmodkhcfihlhgaa
