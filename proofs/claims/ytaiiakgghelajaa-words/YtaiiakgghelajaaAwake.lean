import Derived.Test.YtaiiakgghelajaaWordC
import Derived.Test.YtaiiakgghelajaaWordG
import Derived.Test.YtaiiakgghelajaaHelpInts
namespace Go.Proofs.Ytaiiakgghelajaa
open Go.RowKit

theorem Num_any (x : Int) (w : World) : Calls Try.prog 13 #[.int .i64 x] w fun e w' => e = .returned (.int .i64 x) ∧ w = w' := by
  go_enter Try.func13, Try.ntmps13
  go_wp2
  go_ret
  exact ⟨rfl, rfl⟩

theorem put0 : putL [0, 5, 256] = [0, 1, 5, 2, 1, 0] ∧ putE [0, 5, 256] = 0 ∧ putL [-1] = [] ∧ putE [-1] = 300 := by decide +kernel

theorem all0 : allW [0, 1, 5, 2, 1, 0] = ([0, 5, 256], 0) := by decide +kernel

theorem get0 : atX [0, 1, 5, 2, 1, 0] 3 = 256 ∧ atN [0, 1, 5, 2, 1, 0] 3 = 6 ∧ atE [0, 1, 5, 2, 1, 0] 3 = 0 := by decide +kernel

theorem get1 : atX [1] 0 = 0 ∧ atN [1] 0 = 0 ∧ atE [1] 0 = 301 := by decide +kernel

theorem get2 : atX [1, 0] 0 = 0 ∧ atN [1, 0] 0 = 0 ∧ atE [1, 0] 0 = 300 := by decide +kernel

theorem Put0 (w : World) : Calls Try.prog 10 #[.slice (some ⟨w.heap.size, 0, none⟩) 3 3] (w.alloc (.cells #[.int .i64 0, .int .i64 5, .int .i64 256] 3)) (Says (w.alloc (.cells #[.int .i64 0, .int .i64 5, .int .i64 256] 3)) (.tuple #[.string ⟨#[0, 1, 5, 2, 1, 0]⟩, .int .i64 0])) := by
  have h := Put_any (some ⟨w.heap.size, 0, none⟩) 3 3 [0, 5, 256] (w.alloc (.cells #[.int .i64 0, .int .i64 5, .int .i64 256] 3)) (Row.newAt [0, 5, 256] rfl rfl rfl (by decide) (by decide)) (by simp) (by decide)
  rw [put0.1, put0.2.1] at h
  exact h

theorem Put1 (w : World) : Calls Try.prog 10 #[.slice (some ⟨w.heap.size, 0, none⟩) 1 1] (w.alloc (.cells #[.int .i64 (-1)] 3)) (Says (w.alloc (.cells #[.int .i64 (-1)] 3)) (.tuple #[.string ⟨#[]⟩, .int .i64 300])) := by
  have h := Put_any (some ⟨w.heap.size, 0, none⟩) 1 1 [-1] (w.alloc (.cells #[.int .i64 (-1)] 3)) (Row.newAt [-1] rfl rfl rfl (by decide) (by decide)) (by simp) (by decide)
  rw [put0.2.2.1, put0.2.2.2] at h
  exact h

theorem Get0 (w : World) : Calls Try.prog 15 #[.string ⟨#[0, 1, 5, 2, 1, 0]⟩, .int .i64 3] w (Says w (.tuple #[.int .i64 256, .int .i64 6, .int .i64 0])) := by
  have h := Get_any ⟨#[0, 1, 5, 2, 1, 0]⟩ 3 w (by decide)
  have e : GetV (bsOf ⟨#[0, 1, 5, 2, 1, 0]⟩) 3 = .tuple #[.int .i64 256, .int .i64 6, .int .i64 0] := by
    show Value.tuple #[.int .i64 (atX [0, 1, 5, 2, 1, 0] 3), .int .i64 (atN [0, 1, 5, 2, 1, 0] 3), .int .i64 (atE [0, 1, 5, 2, 1, 0] 3)] = _
    rw [get0.1, get0.2.1, get0.2.2]
  rw [e] at h
  exact h

theorem Get1 (w : World) : Calls Try.prog 15 #[.string ⟨#[1]⟩, .int .i64 0] w (Says w (.tuple #[.int .i64 0, .int .i64 0, .int .i64 301])) := by
  have h := Get_any ⟨#[1]⟩ 0 w (by decide)
  have e : GetV (bsOf ⟨#[1]⟩) 0 = .tuple #[.int .i64 0, .int .i64 0, .int .i64 301] := by
    show Value.tuple #[.int .i64 (atX [1] 0), .int .i64 (atN [1] 0), .int .i64 (atE [1] 0)] = _
    rw [get1.1, get1.2.1, get1.2.2]
  rw [e] at h
  exact h

theorem Get2 (w : World) : Calls Try.prog 15 #[.string ⟨#[1, 0]⟩, .int .i64 0] w (Says w (.tuple #[.int .i64 0, .int .i64 0, .int .i64 300])) := by
  have h := Get_any ⟨#[1, 0]⟩ 0 w (by decide)
  have e : GetV (bsOf ⟨#[1, 0]⟩) 0 = .tuple #[.int .i64 0, .int .i64 0, .int .i64 300] := by
    show Value.tuple #[.int .i64 (atX [1, 0] 0), .int .i64 (atN [1, 0] 0), .int .i64 (atE [1, 0] 0)] = _
    rw [get2.1, get2.2.1, get2.2.2]
  rw [e] at h
  exact h

theorem List0 (w : World) : Calls Try.prog 17 #[.string ⟨#[0, 1, 5, 2, 1, 0]⟩] w fun e w' => ∃ A c, e = .returned (.tuple #[.slice A 3 c, .int .i64 0]) ∧ Row w' w'.heap.size A 3 [0, 5, 256] ∧ w.grownBy w' none := by
  refine (List_any ⟨#[0, 1, 5, 2, 1, 0]⟩ w (by decide) (.inl (by decide))).mono ?_
  rintro e w' ⟨v, he, hm, hg⟩
  have e0 : allW (bsOf ⟨#[0, 1, 5, 2, 1, 0]⟩) = ([0, 5, 256], 0) := all0
  rw [e0] at he hm
  obtain ⟨A, c, rfl, _, hr⟩ := Mine.row hm (by intro i; rcases i with _ | _ | _ | i <;> simp)
  exact ⟨A, c, he, hr, hg⟩

theorem awake_any (w : World) : Calls Try.prog 12 #[] w (Says w (.bool true)) := by
  go_enter Try.func12, Try.ntmps12
  go_wp2_with fail
  refine (Put0 w).mono ?_
  rintro e w1 ⟨rfl, hg1⟩
  have G := Lib.hid (grown_trans (grow0 _ _) hg1)
  clear hg1
  go_wp2_with fail
  refine (Get0 w1).mono ?_
  rintro e w2 ⟨rfl, hg2⟩
  have G := Lib.hid (grown_trans G.out hg2)
  clear hg2
  go_wp2_with fail
  refine (List0 w2).mono ?_
  rintro e w3 ⟨A, c, rfl, hr, hg3⟩
  have G := Lib.hid (grown_trans G.out hg3)
  have HR := Lib.hid hr
  clear hg3 hr
  go_wp2_with fail
  refine (Put1 w3).mono ?_
  rintro e w4 ⟨rfl, hg4⟩
  have g4 := grown_trans (grow0 _ _) hg4
  have G := Lib.hid (grown_trans G.out g4)
  have HR := Lib.hid (HR.out.grown (Nat.le_refl _) g4)
  have hs4 := g4.size
  clear hg4 g4
  go_wp2_with fail
  refine (Get1 w4).mono ?_
  rintro e w5 ⟨rfl, hg5⟩
  have G := Lib.hid (grown_trans G.out hg5)
  have HR := Lib.hid (HR.out.grown (by omega) hg5)
  have hs5 := hg5.size
  clear hg5
  go_wp2_with fail
  refine (Get2 w5).mono ?_
  rintro e w6 ⟨rfl, hg6⟩
  have G := Lib.hid (grown_trans G.out hg6)
  have HR := Lib.hid (HR.out.grown (by omega) hg6)
  have hs6 := hg6.size
  clear hg6
  go_wp2_with fail
  refine (Num_any 0 w6).mono ?_
  rintro e w7 ⟨rfl, rfl⟩
  go_wp2_with fail
  refine (Num_any 0 w6).mono ?_
  rintro e w7 ⟨rfl, rfl⟩
  have HR2 := Lib.hid (Row.newAt (w := w6) [0, 5, 256] rfl rfl rfl (by decide) (by decide))
  have HR3 := Lib.hid (HR.out.grown (by omega) (grow0 w6 (.cells #[.int .i64 0, .int .i64 5, .int .i64 256] 3)))
  have hsame : sameB [0, 5, 256] [0, 5, 256] = true := by decide
  go_wp2_with fail
  refine (SameInts0_any _ _ _ _ _ _ _ _ _ HR3.out HR2.out).mono ?_
  rintro e w7 ⟨rfl, j, rfl⟩
  rw [hsame]
  go_wp2_with fail
  refine (Num_any 0 _).mono ?_
  rintro e w7 ⟨rfl, rfl⟩
  go_wp2_with fail
  refine (Num_any 300 _).mono ?_
  rintro e w7 ⟨rfl, rfl⟩
  go_wp2_with fail
  refine (Num_any 301 _).mono ?_
  rintro e w7 ⟨rfl, rfl⟩
  go_wp2_with fail
  refine (Num_any 300 _).mono ?_
  rintro e w7 ⟨rfl, rfl⟩
  go_wp2
  go_ret
  exact ⟨rfl, grown_drewN (grown_trans G.out (grow0 _ _)) _⟩

end Go.Proofs.Ytaiiakgghelajaa
