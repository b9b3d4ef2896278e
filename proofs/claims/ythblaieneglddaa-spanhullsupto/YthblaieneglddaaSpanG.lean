import Derived.Test.YthblaieneglddaaSpanF
namespace Go.Proofs.Ythblaieneglddaa
open Go.RowKit

def cutL (a b : Int) (ps : List Int) : List (Int × Int) := if spanMay a b then cutsOf a b ps else []
def cutE (a b : Int) : Int := if spanMay a b then 0 else 200

def CutPost (w : World) (a b : Int) (ps : List Int) (e : Ending) (w' : World) : Prop :=
  ∃ v, e = .returned (.tuple #[v, .int .i64 (cutE a b)]) ∧ MineE spanE w' w.heap.size v (cutL a b ps).length (cutL a b ps) ∧ w.grownBy w' none

def CutRel (w : World) (L : Nat) (a b : Int) (ps : List Int) (s f i : Value) (wr : World) : Prop :=
  ∃ k, k ≤ L ∧ f = .int .i64 (fromAt a b ps k) ∧ i = .int .i64 (k : Nat) ∧ w.grownBy wr none ∧ MineE spanE wr w.heap.size s k ((cutsOf a b ps).take k)

theorem spanMay_bd {a b : Int} (h : spanMay a b = true) : 0 ≤ a ∧ a < b ∧ b ≤ 4096 := by
  simpa [spanMay] using h

theorem pair_row {w : World} (x y : Int) : Elts spanE (w.alloc (.cells #[.int .i64 x, .int .i64 y] 23)) (w.heap.size + 1) (some ⟨w.heap.size, 0, none⟩) 1 [(x, y)] :=
  Elts.lit (E := spanE) [(x, y)] rfl rfl rfl (by simp)

theorem MineE.grow {α : Type} {E : Elt α} {w : World} {base : Nat} {v : Value} {n : Nat} {xs : List α} (h : MineE E w base v n xs) (o : Obj) : MineE E (w.alloc o) base v n xs := h.kept (grow0 _ _)

theorem Cut_any (a b : Int) (A : Option Addr) (n c : Nat) (ps : List Int) (w : World) {B : Nat} (h : Row w B A n ps) (hB : B ≤ w.heap.size) (hr : n * 8 ≤ 140737488351232) :
    Calls Try.prog 21 #[.agg #[.int .i64 a, .int .i64 b], .slice A n c] w (CutPost w a b ps) := by
  have HR := Lib.hid h
  clear h
  go_enter Try.func21, Try.ntmps21
  go_wp2_with fail
  refine (May_any a b _).mono ?_
  rintro e w1 ⟨rfl, hg1⟩
  obtain ⟨g1, o1⟩ := boxes1 hg1
  have hR1 := HR.out.grown hB g1
  have hsz := g1.size
  have l1 := o1.lt
  obtain ⟨c0, c1⟩ := o1.two
  have G1 := Lib.hid g1
  have O1 := Lib.hid o1
  have HR1 := Lib.hid hR1
  clear hg1 g1 o1 hR1 HR
  cases hm : spanMay a b
  · go_wp2
    go_ret2
    have e1 : cutL a b ps = [] := by simp [cutL, hm]
    refine ⟨_, ?_, by rw [e1]; exact MineE.nil _ _ _, G1.out⟩
    simp [cutE, hm]
  · obtain ⟨ha, hab, hb⟩ := spanMay_bd hm
    have hfew := ends_few a b ps hab
    have hel := ends_len a b ps
    go_wp2_with fail
    refine (within_any a b A n c ps _ HR1.out hr).mono ?_
    rintro e wa ⟨A2, c2, rfl, hrow, hg2⟩
    have o2 := O1.out.kept hg2
    have G2 := Lib.hid (grown_trans G1.out hg2)
    have hszA := (grown_trans G1.out hg2).size
    have O2 := Lib.hid o2
    have hbig := hrow.small
    have HROW := Lib.hid hrow
    have HS : Hid (CutRel wa (pts a b ps).length a b ps (.slice none 0 0) (.int .i64 a) (.int .i64 0) wa) := ⟨0, Nat.zero_le _, rfl, rfl, World.grownBy.refl _ _, MineE.nil _ _ _⟩
    clear O1 G1 HR1 hg2 o2 hrow c0 c1
    generalize hL : (pts a b ps).length = L at *
    have HL := Lib.hid hL
    clear hL
    go_wp2
    go_loopw [6, 7, 19] (fun s f i wr => CutRel wa L a b ps s f i wr) (fun _ _ i _ => L - (intOf i).toNat)
    case atStart => exact HS.out
    case round =>
      clear HS
      obtain ⟨k, hk, rfl, rfl, hg, hmine⟩ := hrel
      have G := Lib.hid hg
      have HM := Lib.hid hmine
      have hszr := hg.size
      by_cases hlt : k < L
      · obtain ⟨b2, off, hA, hb2, hcell⟩ := HROW.out.at_ (by omega)
        subst hA
        have d0 := kept hg (hcell k hlt)
        have HST := Lib.hid (cuts_step a b ps k (by omega))
        have HTO := Lib.hid (toAt_pts a b ps k (by rw [HL.out]; exact hlt))
        have HNX := Lib.hid (fromAt_succ a b ps k)
        clear hcell hg hmine
        rw [← HTO.out] at d0
        generalize toAt a b ps k = t at *
        generalize fromAt a b ps k = f at *
        have HP := Lib.hid (pair_row (w := wr) f t)
        have HM1 := Lib.hid (HM.out.grow (.cells #[.int .i64 f, .int .i64 t] 23))
        go_wp2_with (first | (at_builtin; refine wpList_appE spanE _ rfl _ _ rfl wa.heap.size _ k ((cutsOf a b ps).take k) rfl HM1.out _ 1 1 [(f, t)] rfl HP.out (by simp) (by unfold maxLen; omega) (by show (k + 1) * 16 ≤ _; omega) (by simp; omega) ?_))
        intro v2 w2 hmine2 hg2 _
        have HM2 : Hid (MineE spanE w2 wa.heap.size v2 (k + 1) ((cutsOf a b ps).take (k + 1))) := by rw [HST.out]; exact hmine2
        have HG2 := Lib.hid (grown_none (grown_trans G.out (grow0 wr (.cells #[.int .i64 f, .int .i64 t] 23))) hg2 (fun g hg => HM1.out.own_ge g hg))
        clear hmine2 hg2
        go_wp2
        go_roundw
        case rel => exact ⟨k + 1, by omega, by rw [HNX.out], by go_num, HG2.out, HM2.out⟩
        case measure => simp [intOf]; omega
      · obtain rfl : k = L := by omega
        have hst := cuts_step a b ps k (by omega)
        have hto := toAt_last a b ps
        rw [HL.out] at hto
        rw [hto, show k + 1 = (ends a b ps).length by omega, cuts_all] at hst
        have HST := Lib.hid hst
        obtain ⟨c0, c1⟩ := (O2.out.kept hg).two
        clear hst hto hg hmine
        generalize fromAt a b ps k = f at *
        have HP := Lib.hid (pair_row (w := wr) f b)
        have HM1 := Lib.hid (HM.out.grow (.cells #[.int .i64 f, .int .i64 b] 23))
        go_wp2_with (first | (at_builtin; refine wpList_appE spanE _ rfl _ _ rfl wa.heap.size _ k ((cutsOf a b ps).take k) rfl HM1.out _ 1 1 [(f, b)] rfl HP.out (by simp) (by unfold maxLen; omega) (by show (k + 1) * 16 ≤ _; omega) (by simp; omega) ?_))
        intro v2 w2 hmine2 hg2 _
        have HM2 : Hid (MineE spanE w2 wa.heap.size v2 (k + 1) (cutsOf a b ps)) := by rw [HST.out]; exact hmine2
        have HG2 := Lib.hid (grown_none (grown_trans G.out (grow0 wr (.cells #[.int .i64 f, .int .i64 b] 23))) hg2 (fun g hg => HM1.out.own_ge g hg))
        clear hmine2 hg2
        go_wp2
        go_ret2
        refine ⟨v2, ?_, ?_, grown_trans G2.out HG2.out⟩
        · simp [cutE, hm]
        · have e1 : cutL a b ps = cutsOf a b ps := by simp [cutL, hm]
          have e2 : (cutsOf a b ps).length = k + 1 := by rw [cuts_len]; omega
          rw [e1, e2]
          exact HM2.out.wide (by omega)

end Go.Proofs.Ythblaieneglddaa
