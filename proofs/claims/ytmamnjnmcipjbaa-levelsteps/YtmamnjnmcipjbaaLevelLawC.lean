/-
  The law LevelForms, walked.
-/
import Derived.Test.YtmamnjnmcipjbaaLevelG
namespace Go.Proofs.Ytmamnjnmcipjbaa
open Go.RowKit

theorem and_1023 (x : Int) : ∃ k : Nat, k ≤ 1023 ∧ bits .and .i64 x 1023 = (k : Int) := by
  refine ⟨(BitVec.ofInt 64 x &&& BitVec.ofInt 64 1023).toNat, ?_, ?_⟩
  · rw [BitVec.toNat_and]
    exact Nat.and_le_right
  · show IntKind.i64.wrap ((BitVec.ofInt 64 x &&& BitVec.ofInt 64 1023).toNat : Int) = _
    have : (BitVec.ofInt 64 x &&& BitVec.ofInt 64 1023).toNat ≤ 1023 := by
      rw [BitVec.toNat_and]
      exact Nat.and_le_right
    exact IntWalk.i64_in _ (by omega)

def LFormMid (w : World) (b : Nat) (u v : Value) (wx : World) : Prop :=
  ∃ (caps f : List Int) (q : Nat) (s : Int), u = .slice (some ⟨b + 1, 0, none⟩) q 3 ∧ v = .int .i64 s ∧ Row wx wx.heap.size (some ⟨b, 0, none⟩) 3 caps ∧ Row wx wx.heap.size (some ⟨b + 1, 0, none⟩) q f ∧ lvB 3 smallL caps f s = false ∧ w.grownBy wx none

theorem form_f {y : Nat} : lvB 3 smallL [5, 4, 3] [1, 1, 4 + (y : Int)] 0 = false := lvB_rates (ratesB_stop (k := 2) (by simp) (by simp [rateIn]; omega))
theorem form_s {y : Nat} : lvB 3 smallL [5, 4, 3] [1, 1, 1] (3 + (y : Int)) = false := lvB_src (isV_no1 (by omega))

theorem Own.rowW {w : World} {g n : Nat} (xs : List Int) (h : Own w g 3 (ints xs)) (hn : n = xs.length) (hl : xs.length ≤ 1000) (hok : okI xs) : Row w w.heap.size (some ⟨g, 0, none⟩) n xs := by
  subst hn
  refine ⟨rfl, by omega, hok, fun _ => ⟨g, 0, rfl, h.lt, fun i hi => ?_⟩⟩
  rw [Nat.zero_add, h.cell i, ints_get xs i hi]

set_option maxHeartbeats 4000000 in
theorem LevelForms_walk (a x : Int) (w : World) : Calls Try.prog 7 #[.int .i64 a, .int .i64 x] w (LawPost w) := by
  obtain ⟨g0, o1, o2⟩ := box2 (w := w) (T := 3) (U := 3) (ints [5, 4, 3]) (ints [1, 1, 1]) (World.grownBy.refl _ none)
  have hsz : ((w.alloc (.cells (ints [5, 4, 3]).toArray 3)).alloc (.cells (ints [1, 1, 1]).toArray 3)).heap.size = w.heap.size + 2 := by simp
  obtain ⟨y, hy, hyb⟩ := and_1023 x
  have HY := Lib.hid hyb
  clear hyb
  have G := Lib.hid g0
  have O1 := Lib.hid o1
  have O2 := Lib.hid o2
  clear g0 o1 o2
  go_enter Try.func7, Try.ntmps7
  go_upto_block 0 with fail
  rw [show (w.alloc (.cells (ints [5, 4, 3]).toArray 3)).alloc (.cells (ints [1, 1, 1]).toArray 3) = (w.alloc (.cells #[.int .i64 5, .int .i64 4, .int .i64 3] 3)).alloc (.cells #[.int .i64 1, .int .i64 1, .int .i64 1] 3) from rfl] at G O1 O2 hsz
  generalize bits BinOp.and IntKind.i64 a 3 = m
  generalize (w.alloc (.cells #[.int .i64 5, .int .i64 4, .int .i64 3] 3)).alloc (.cells #[.int .i64 1, .int .i64 1, .int .i64 1] 3) = w2 at *
  have hw2 := G.out.size
  generalize hb : w.heap.size = b at *
  have d1 : w2.cell? ⟨b, 1, none⟩ = some (.int .i64 4) := O1.out.cell 1
  have d2 : w2.cell? ⟨b + 1, 2, none⟩ = some (.int .i64 1) := O2.out.cell 2
  have f1 := O1.out.frozen 1
  have f2 := O2.out.frozen 2
  have hyw : bits BinOp.and IntKind.i64 x 1023 = (y : Int) := HY.out
  go_cut [6, 7] (fun u v wx => LFormMid w b u v wx)
  case first =>
    by_cases m0 : m = 0
    · subst m0
      have HF : Hid (LFormMid w b (.slice (some ⟨b + 1, 0, none⟩) 3 3) (.int .i64 0) (w2.setCell ⟨b, 1, none⟩ (.int .i64 5))) :=
        ⟨[5, 5, 3], [1, 1, 1], 3, 0, rfl, rfl, Own.rowW [5, 5, 3] (O1.out.put _) rfl (by decide) (okI_of (by decide)), Own.rowW [1, 1, 1] (O2.out.setOther (by omega) _) rfl (by decide) (okI_of (by decide)), by decide, grown_new G.out (by omega) _⟩
      go_wp2
      go_meet
      exact HF.out
    have m0b : (m == 0) = false := by simp [m0]
    by_cases m1 : m = 1
    · subst m1
      have HF : Hid (LFormMid w b (.slice (some ⟨b + 1, 0, none⟩) 2 3) (.int .i64 0) w2) :=
        ⟨[5, 4, 3], [1, 1], 2, 0, rfl, rfl, Own.rowW [5, 4, 3] O1.out rfl (by decide) (okI_of (by decide)), (Own.rowW (n := 3) [1, 1, 1] O2.out rfl (by decide) (okI_of (by decide))).head (k := 2) (by omega), by decide, G.out⟩
      go_wp2
      go_meet
      exact HF.out
    have m1b : (m == 1) = false := by simp [m1]
    by_cases m2 : m = 2
    · subst m2
      have HF : Hid (LFormMid w b (.slice (some ⟨b + 1, 0, none⟩) 3 3) (.int .i64 0) (w2.setCell ⟨b + 1, 2, none⟩ (.int .i64 (4 + (y : Int))))) :=
        ⟨[5, 4, 3], [1, 1, 4 + (y : Int)], 3, 0, rfl, rfl, Own.rowW [5, 4, 3] (O1.out.setOther (by omega) _) rfl (by decide) (okI_of (by decide)), Own.rowW [1, 1, 4 + (y : Int)] (O2.out.put _) rfl (by simp) (okI_of (by simp [bdB]; omega)), form_f, grown_new G.out (by omega) _⟩
      go_wp2
      go_meet
      exact HF.out
    have m2b : (m == 2) = false := by simp [m2]
    have HF : Hid (LFormMid w b (.slice (some ⟨b + 1, 0, none⟩) 3 3) (.int .i64 (3 + (y : Int))) w2) :=
      ⟨[5, 4, 3], [1, 1, 1], 3, 3 + (y : Int), rfl, rfl, Own.rowW [5, 4, 3] O1.out rfl (by decide) (okI_of (by decide)), Own.rowW [1, 1, 1] O2.out rfl (by decide) (okI_of (by decide)), form_s, G.out⟩
    go_wp2
    go_meet
    exact HF.out
  case rest =>
    obtain ⟨caps, f, q, s, rfl, rfl, rc, rf, hl, gx⟩ := hcut
    have RC := Lib.hid rc
    have RF := Lib.hid rf
    have HLB := Lib.hid (lv_no hl)
    have GX := Lib.hid gx
    clear rc rf hl gx
    go_wp2_with fail
    refine (small10_any _).mono ?_
    rintro e w4 ⟨gs, rfl, ol, _, k⟩
    have HLK := Lib.hid (Own.lks' smallL 3 rfl (by decide) (by decide) ol)
    have RC := Lib.hid ((RC.out.grown (Nat.le_refl _) k).wide k.size)
    have RF := Lib.hid ((RF.out.grown (Nat.le_refl _) k).wide k.size)
    have GX := Lib.hid (grown_trans GX.out k)
    clear k ol
    go_wp2_with fail
    refine (Levels_is 3 s (some ⟨gs, 0, none⟩) 3 3 smallL (some ⟨b, 0, none⟩) 3 3 caps (some ⟨b + 1, 0, none⟩) q 3 f _ HLK.out (Nat.le_refl _) RC.out (Nat.le_refl _) RF.out (Nat.le_refl _) [] 1000 HLB.out).mono ?_
    rintro e w5 ⟨va, rfl, ha, k⟩
    have GX := Lib.hid (grown_trans GX.out k)
    clear k ha
    go_wp2_with fail
    refine (awake10_any _).mono ?_
    rintro e w6 ⟨rfl, k⟩
    have GX := Lib.hid (grown_trans GX.out k)
    clear k
    go_wp2_with fail
    refine (num_says _ _).mono ?_
    rintro e w7 ⟨rfl, k⟩
    have GX := Lib.hid (grown_trans GX.out k)
    clear k
    go_wp2
    go_ret
    exact ⟨rfl, below_of GX.out⟩

end Go.Proofs.Ytmamnjnmcipjbaa
