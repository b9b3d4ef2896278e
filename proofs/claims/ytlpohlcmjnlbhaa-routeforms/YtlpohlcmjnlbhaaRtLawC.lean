/-
  The law RouteForms, walked.
-/
import Derived.Test.YtlpohlcmjnlbhaaRouteG
import Derived.Test.YtlpohlcmjnlbhaaLevelLawC
set_option maxRecDepth 20000
namespace Go.Proofs.Ytlpohlcmjnlbhaa
open Go.RowKit

def RFormMid (w : World) (u v x y : Value) (wx : World) : Prop :=
  ∃ (caps : List Int) (Ac : Option Addr) (q cc : Nat) (s t R : Int), u = .slice Ac q cc ∧ v = .int .i64 s ∧ x = .int .i64 t ∧ y = .int .i64 R ∧ Row wx wx.heap.size Ac q caps ∧ routeB 3 smallL caps s t R = false ∧ w.grownBy wx none

theorem rform_s {y : Nat} : routeB 3 smallL [5, 4, 3] (3 + (y : Int)) 2 2 = false := by
  have : isV 3 (3 + (y : Int)) = false := isV_no1 (by omega)
  simp [routeB, this]

theorem rform_t {y : Nat} : routeB 3 smallL [5, 4, 3] 0 (-1 - (y : Int)) 2 = false := by
  have : isV 3 (-1 - (y : Int)) = false := isV_no0 (by omega)
  simp [routeB, this]

theorem rform_r {y : Nat} : routeB 3 smallL [5, 4, 3] 0 2 (-(y : Int)) = false := by
  have : decide (1 ≤ -(y : Int)) = false := decide_eq_false (by omega)
  rw [routeB, this]
  simp

theorem Route_none {V s t R : Int} {ls : List Lk} {caps : List Int} {ps : List Pth} {vs : List Int} {z : Int} (h : routeB V ls caps s t R = false) (hb : RouteIs V ls caps s t R ps vs z) : z = 1600 ∧ ps = [] ∧ vs = [] := by
  rcases hb with ⟨h1, _⟩ | ⟨_, h2⟩
  · rw [h] at h1; cases h1
  · exact h2

set_option maxHeartbeats 8000000 in
theorem RouteForms_walk (a x : Int) (w : World) : Calls Try.prog 6 #[.int .i64 a, .int .i64 x] w (LawPost w) := by
  have g0 := grow0 w (.cells (ints [5, 4, 3]).toArray 3)
  have o1 := Own.new w 3 (ints [5, 4, 3])
  obtain ⟨y, hy, hyb⟩ := and_1023 x
  have HY := Lib.hid hyb
  clear hyb
  have G := Lib.hid g0
  have O1 := Lib.hid o1
  clear g0 o1
  go_enter Try.func6, Try.ntmps6
  go_upto_block 0 with fail
  rw [show w.alloc (.cells (ints [5, 4, 3]).toArray 3) = w.alloc (.cells #[.int .i64 5, .int .i64 4, .int .i64 3] 3) from rfl] at G O1
  generalize bits BinOp.and IntKind.i64 a 7 = m
  generalize w.alloc (.cells #[.int .i64 5, .int .i64 4, .int .i64 3] 3) = w2 at *
  have hw2 := G.out.size
  generalize hb : w.heap.size = b at *
  have d1 : w2.cell? ⟨b, 0, none⟩ = some (.int .i64 5) := O1.out.cell 0
  have d2 : w2.cell? ⟨b, 2, none⟩ = some (.int .i64 3) := O1.out.cell 2
  have f1 := O1.out.frozen 0
  have f2 := O1.out.frozen 2
  have hyw : bits BinOp.and IntKind.i64 x 1023 = (y : Int) := HY.out
  have RF := Lib.hid (Own.rowW (n := 3) [5, 4, 3] O1.out rfl (by decide) (okI_of (by decide)))
  have RF2 : Hid (Row w2 w2.heap.size (some ⟨b, 0, none⟩) 2 [5, 4]) := RF.out.head (k := 2) (by decide)
  go_cut [5, 6, 7, 8] (fun u v x y wx => RFormMid w u v x y wx)
  case first =>
    by_cases m0 : m = 0
    · subst m0
      have HF : Hid (RFormMid w (.slice (some ⟨b, 0, none⟩) 3 3) (.int .i64 0) (.int .i64 2) (.int .i64 2) (w2.setCell ⟨b, 0, none⟩ (.int .i64 6))) :=
        ⟨[6, 4, 3], _, 3, 3, 0, 2, 2, rfl, rfl, rfl, rfl, Own.rowW [6, 4, 3] (O1.out.put _) rfl (by decide) (okI_of (by decide)), by decide, grown_new G.out (by omega) _⟩
      go_wp2
      go_meet
      exact HF.out
    have m0b : (m == 0) = false := by simp [m0]
    by_cases m1 : m = 1
    · subst m1
      have HF : Hid (RFormMid w (.slice (some ⟨b, 0, none⟩) 2 3) (.int .i64 0) (.int .i64 2) (.int .i64 2) w2) :=
        ⟨[5, 4], _, 2, 3, 0, 2, 2, rfl, rfl, rfl, rfl, RF2.out, by decide, G.out⟩
      go_wp2
      go_meet
      exact HF.out
    have m1b : (m == 1) = false := by simp [m1]
    by_cases m2 : m = 2
    · subst m2
      have HF : Hid (RFormMid w (.slice (some ⟨b, 0, none⟩) 3 3) (.int .i64 0) (.int .i64 2) (.int .i64 2) (w2.setCell ⟨b, 2, none⟩ (.int .i64 (-1)))) :=
        ⟨[5, 4, -1], _, 3, 3, 0, 2, 2, rfl, rfl, rfl, rfl, Own.rowW [5, 4, -1] (O1.out.put _) rfl (by decide) (okI_of (by decide)), by decide, grown_new G.out (by omega) _⟩
      go_wp2
      go_meet
      exact HF.out
    have m2b : (m == 2) = false := by simp [m2]
    by_cases m3 : m = 3
    · subst m3
      have hwy : IntKind.i64.wrap (3 + (y : Int)) = 3 + (y : Int) := IntWalk.i64_in _ (by omega)
      have HF : Hid (RFormMid w (.slice (some ⟨b, 0, none⟩) 3 3) (.int .i64 (3 + (y : Int))) (.int .i64 2) (.int .i64 2) w2) :=
        ⟨[5, 4, 3], _, 3, 3, 3 + (y : Int), 2, 2, rfl, rfl, rfl, rfl, RF.out, rform_s, G.out⟩
      go_wp2
      go_meet
      exact HF.out
    have m3b : (m == 3) = false := by simp [m3]
    by_cases m4 : m = 4
    · subst m4
      have HF : Hid (RFormMid w (.slice (some ⟨b, 0, none⟩) 3 3) (.int .i64 0) (.int .i64 0) (.int .i64 2) w2) :=
        ⟨[5, 4, 3], _, 3, 3, 0, 0, 2, rfl, rfl, rfl, rfl, RF.out, by decide, G.out⟩
      go_wp2
      go_meet
      exact HF.out
    have m4b : (m == 4) = false := by simp [m4]
    by_cases m5 : m = 5
    · subst m5
      have hwy : IntKind.i64.wrap (-(y : Int)) = -(y : Int) := IntWalk.i64_in _ (by omega)
      have HF : Hid (RFormMid w (.slice (some ⟨b, 0, none⟩) 3 3) (.int .i64 0) (.int .i64 2) (.int .i64 (-(y : Int))) w2) :=
        ⟨[5, 4, 3], _, 3, 3, 0, 2, -(y : Int), rfl, rfl, rfl, rfl, RF.out, rform_r, G.out⟩
      go_wp2
      go_meet
      exact HF.out
    have m5b : (m == 5) = false := by simp [m5]
    by_cases m6 : m = 6
    · subst m6
      have HF : Hid (RFormMid w (.slice (some ⟨b, 0, none⟩) 3 3) (.int .i64 0) (.int .i64 2) (.int .i64 4611686018427387905) w2) :=
        ⟨[5, 4, 3], _, 3, 3, 0, 2, 4611686018427387905, rfl, rfl, rfl, rfl, RF.out, by decide, G.out⟩
      go_wp2
      go_meet
      exact HF.out
    have m6b : (m == 6) = false := by simp [m6]
    have hwy : IntKind.i64.wrap (-1 - (y : Int)) = -1 - (y : Int) := IntWalk.i64_in _ (by omega)
    have HF : Hid (RFormMid w (.slice (some ⟨b, 0, none⟩) 3 3) (.int .i64 0) (.int .i64 (-1 - (y : Int))) (.int .i64 2) w2) :=
      ⟨[5, 4, 3], _, 3, 3, 0, -1 - (y : Int), 2, rfl, rfl, rfl, rfl, RF.out, rform_t, G.out⟩
    go_wp2
    go_meet
    exact HF.out
  case rest =>
    clear RF RF2 G O1 d1 d2 f1 f2
    obtain ⟨caps, Ac, q, cc, s, t, R, rfl, rfl, rfl, rfl, rc, hl, gx⟩ := hcut
    have RC := Lib.hid rc
    have HLB := Lib.hid hl
    have GX := Lib.hid gx
    clear rc hl gx
    go_wp2_with fail
    refine (small16_any _).mono ?_
    rintro e w4 ⟨gs, rfl, ol, _, k⟩
    have HLK := Lib.hid (Own.lks' smallL 3 rfl (by decide) (by decide) ol)
    have RC := Lib.hid ((RC.out.grown (Nat.le_refl _) k).wide k.size)
    have GX := Lib.hid (grown_trans GX.out k)
    clear k ol
    go_wp2_with fail
    refine (Route_any 3 s t R (some ⟨gs, 0, none⟩) 3 3 smallL Ac q cc caps _ HLK.out (Nat.le_refl _) RC.out (Nat.le_refl _)).mono ?_
    rintro e w5 ⟨ps, vs, z, hbk, ua, va, rfl, ha, hva, k⟩
    obtain ⟨rfl, rfl, rfl⟩ := Route_none HLB.out hbk
    obtain ⟨Aa, ca, rfl⟩ := ha.sl
    obtain ⟨Av, cv, rfl, _⟩ := hva.sl
    have GX := Lib.hid (grown_trans GX.out k)
    clear k ha hbk hva
    unfold rouV
    go_wp2_with fail
    refine (awake16_any _).mono ?_
    rintro e w6 ⟨rfl, k⟩
    have GX := Lib.hid (grown_trans GX.out k)
    clear k
    go_wp2_with fail
    refine (num_says _ _).mono ?_
    rintro e w7 ⟨rfl, k⟩
    have GX := Lib.hid (grown_trans GX.out k)
    clear k
    go_wp2
    go_ret
    subst hb
    exact ⟨rfl, below_of GX.out⟩

end Go.Proofs.Ytlpohlcmjnlbhaa
