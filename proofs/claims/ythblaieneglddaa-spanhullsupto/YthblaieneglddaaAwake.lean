import Derived.Test.YthblaieneglddaaSpanH
namespace Go.Proofs.Ythblaieneglddaa
open Go.RowKit

theorem lt_uniq : ∀ (l m : List Int), l.Pairwise (· < ·) → m.Pairwise (· < ·) → (∀ x, x ∈ l ↔ x ∈ m) → l = m
  | [], [], _, _, _ => rfl
  | [], b :: m, _, _, h => absurd ((h b).2 (by simp)) (by simp)
  | a :: l, [], _, _, h => absurd ((h a).1 (by simp)) (by simp)
  | a :: l, b :: m, h1, h2, h => by
    obtain ⟨ha, hl⟩ := List.pairwise_cons.1 h1
    obtain ⟨hb, hm⟩ := List.pairwise_cons.1 h2
    have e : a = b := by
      rcases List.mem_cons.1 ((h a).1 (by simp)) with e | e
      · exact e
      · rcases List.mem_cons.1 ((h b).2 (by simp)) with e2 | e2
        · exact e2.symm
        · have := hb a e; have := ha b e2; omega
    subst e
    rw [lt_uniq l m hl hm fun x => ?_]
    constructor
    · intro hx
      rcases List.mem_cons.1 ((h x).1 (by simp [hx])) with e | e
      · have := ha x hx; omega
      · exact e
    · intro hx
      rcases List.mem_cons.1 ((h x).2 (by simp [hx])) with e | e
      · have := hb x hx; omega
      · exact e

theorem pts0 : pts 2 9 [4, 3, 4, 9] = [3, 4] := by
  refine lt_uniq _ _ (pts_lt _ _ _) (by simp) fun x => (pts_mem _ _ _ _).trans ?_
  simp
  omega

theorem cut0 : cutL 2 9 [4, 3, 4, 9] = [(2, 3), (3, 4), (4, 9)] := by
  simp [cutL, spanMay, cutsOf, ends, pts0]

theorem Both0 (w : World) : Calls Try.prog 7 #[.agg #[.int .i64 2, .int .i64 9], .agg #[.int .i64 5, .int .i64 20]] w (Says w (.tuple #[.agg #[.int .i64 5, .int .i64 9], .bool true])) := by
  have h := Both_any 2 9 5 20 w
  have e : (Value.tuple #[span (bothFrom 2 9 5 20) (bothTo 2 9 5 20), .bool (meets 2 9 5 20)]) = .tuple #[.agg #[.int .i64 5, .int .i64 9], .bool true] := by simp [span, bothFrom, bothTo, meets, spanMay]
  rwa [e] at h

theorem Cover0 (A : Option Addr) (n c : Nat) (w : World) {B : Nat} (h : Sps w B A n [(2, 9), (5, 20)]) (hB : B ≤ w.heap.size) :
    Calls Try.prog 16 #[.slice A n c] w (Says w (.tuple #[.agg #[.int .i64 2, .int .i64 20], .int .i64 0])) := by
  have h := Cover_any A n c _ w h hB
  have e : covV (coverOf [(2, 9), (5, 20)]) = .tuple #[.agg #[.int .i64 2, .int .i64 20], .int .i64 0] := by simp [covV, coverOf, cov, covP, covE, span, spanMay]
  rwa [e] at h

theorem CoverN (w : World) : Calls Try.prog 16 #[.slice none 0 0] w (Says w (.tuple #[.agg #[.int .i64 0, .int .i64 0], .int .i64 200])) := Cover_nil none 0 w

def Cut0Post (w : World) (e : Ending) (w' : World) : Prop :=
  ∃ v, e = .returned (.tuple #[v, .int .i64 0]) ∧ MineE spanE w' w.heap.size v 3 [(2, 3), (3, 4), (4, 9)] ∧ w.grownBy w' none

theorem Cut0 (A : Option Addr) (n c : Nat) (w : World) {B : Nat} (h : Row w B A n [4, 3, 4, 9]) (hB : B ≤ w.heap.size) (hn : n = 4) :
    Calls Try.prog 21 #[.agg #[.int .i64 2, .int .i64 9], .slice A n c] w (Cut0Post w) := by
  refine (Cut_any 2 9 A n c _ w h hB (by omega)).mono ?_
  rintro e w' ⟨v, rfl, hm, hg⟩
  refine ⟨v, ?_, ?_, hg⟩
  · simp [cutE, spanMay]
  · rw [cut0] at hm; exact hm

theorem May1 (w : World) : Calls Try.prog 11 #[.agg #[.int .i64 2, .int .i64 9]] w (Says w (.bool true)) := by
  have h := May_any 2 9 w
  have e : spanMay 2 9 = true := by decide
  rwa [e] at h
theorem May0 (w : World) : Calls Try.prog 11 #[.agg #[.int .i64 0, .int .i64 0]] w (Says w (.bool false)) := by
  have h := May_any 0 0 w
  have e : spanMay 0 0 = false := by decide
  rwa [e] at h
theorem Has2 (w : World) : Calls Try.prog 13 #[.agg #[.int .i64 2, .int .i64 9], .int .i64 2] w (Says w (.bool true)) := by
  have h := Has_any 2 9 2 w
  have e : has 2 9 2 = true := by decide
  rwa [e] at h
theorem Has9 (w : World) : Calls Try.prog 13 #[.agg #[.int .i64 2, .int .i64 9], .int .i64 9] w (Says w (.bool false)) := by
  have h := Has_any 2 9 9 w
  have e : has 2 9 9 = false := by decide
  rwa [e] at h
theorem Meets0 (w : World) : Calls Try.prog 10 #[.agg #[.int .i64 2, .int .i64 9], .agg #[.int .i64 5, .int .i64 9]] w (Says w (.bool true)) := by
  have h := Meets_any 2 9 5 9 w
  have e : meets 2 9 5 9 = true := by decide
  rwa [e] at h

theorem Sps_lit {w : World} {g n : Nat} {vs : Array Value} (xs : List (Int × Int)) (hg : g = w.heap.size) (hn : n = xs.length) (hv : vs = (spanE.flat xs).toArray) (hl : xs.length ≤ 1000) :
    Sps (w.alloc (.cells vs 23)) (g + 1) (some ⟨g, 0, none⟩) n xs := Elts.lit (E := spanE) xs hg hn hv hl

theorem Same0 (A : Option Addr) (n c : Nat) (A' : Option Addr) (n' c' : Nat) (w : World) {B B' : Nat} (h : Sps w B A n [(2, 3), (3, 4), (4, 9)]) (h' : Sps w B' A' n' [(2, 3), (3, 4), (4, 9)]) :
    Calls Try.prog 19 #[.slice A n c, .slice A' n' c'] w (SameSPost w true) := by
  have h := SameSpans_any A n c _ A' n' c' _ w h h'
  have e : sameS [(2, 3), (3, 4), (4, 9)] [(2, 3), (3, 4), (4, 9)] = true := by simp [sameS]
  rwa [e] at h

theorem Own.box {w : World} {x y : Value} {T : TypeId} : Own (w.alloc (.cells #[x, y] T)) w.heap.size T [x, y] := Own.new w T [x, y]

set_option maxHeartbeats 1000000 in
theorem awake_any (w : World) : Calls Try.prog 9 #[] w (Says w (.bool true)) := by
  go_enter Try.func9, Try.ntmps9
  go_wp2_with fail
  refine (Both0 _).mono ?_
  rintro e w1 ⟨rfl, hg1⟩
  obtain ⟨g1, o1⟩ := boxes1 hg1
  have G1 := Lib.hid g1
  have O1 := Lib.hid (o1.alloc (.cells #[.int .i64 5, .int .i64 9] 23))
  have O2 := Lib.hid (Own.box (w := w1) (x := .int .i64 5) (y := .int .i64 9) (T := 23))
  obtain ⟨c0, c1⟩ := O1.out.two
  have l1 := o1.lt
  clear hg1 g1 o1
  -- the cover
  go_wp2_with fail
  refine (Cover0 _ _ _ _ (B := w1.heap.size + 1 + 1) ?_ ?_).mono ?_
  · exact Sps_lit _ (by simp) rfl rfl (by simp)
  · simp
  rintro e w2 ⟨rfl, hg2⟩
  have gg2 := grown_trans (grow0 _ _) hg2
  have G2 := Lib.hid (grown_trans (grown_trans G1.out (grow0 _ _)) gg2)
  have O1 := Lib.hid ((O1.out.kept gg2).alloc (.cells #[.int .i64 2, .int .i64 20] 23))
  have O2 := Lib.hid ((O2.out.kept gg2).alloc (.cells #[.int .i64 2, .int .i64 20] 23))
  have O4 := Lib.hid (Own.box (w := w2) (x := .int .i64 2) (y := .int .i64 20) (T := 23))
  have l2 := gg2.size
  obtain ⟨c0, c1⟩ := O1.out.two
  clear hg2 gg2
  -- the cut
  go_wp2_with fail
  refine (Cut0 _ _ _ _ (B := w2.heap.size + 1 + 1) ?_ ?_ ?_).mono ?_
  · exact Row.newAt [4, 3, 4, 9] (by simp) rfl rfl (by simp) (by simp)
  · simp
  · rfl
  rintro e w3 ⟨v, rfl, hm, hg3⟩
  have gg3 := grown_trans (grow0 _ _) hg3
  have G3 := Lib.hid (grown_trans (grown_trans G2.out (grow0 _ _)) gg3)
  have O1 := Lib.hid (O1.out.kept gg3)
  have O2 := Lib.hid (O2.out.kept gg3)
  have O4 := Lib.hid (O4.out.kept gg3)
  have HM := Lib.hid hm
  clear hm hg3
  -- the cover of none
  go_wp2_with fail
  refine (CoverN _).mono ?_
  rintro e w4 ⟨rfl, hg4⟩
  have gg4 := grown_trans hg4 (grow0 _ (.cells #[.int .i64 0, .int .i64 0] 23))
  have G4 := Lib.hid (grown_trans G3.out gg4)
  have O1 := Lib.hid (O1.out.kept gg4)
  have O2 := Lib.hid (O2.out.kept gg4)
  have O4 := Lib.hid (O4.out.kept gg4)
  have HM := Lib.hid (HM.out.kept gg4)
  obtain ⟨c0, c1⟩ := O1.out.two
  clear hg4 gg4 gg3
  -- the tests
  go_wp2_with fail
  refine (May1 _).mono ?_
  rintro e w5 ⟨rfl, g⟩
  have G4 := Lib.hid (grown_trans G4.out g)
  have O1 := Lib.hid (O1.out.kept g)
  have O2 := Lib.hid (O2.out.kept g)
  have O4 := Lib.hid (O4.out.kept g)
  have HM := Lib.hid (HM.out.kept g)
  clear g c0 c1
  go_wp2_with fail
  refine (May0 _).mono ?_
  rintro e w6 ⟨rfl, g⟩
  have G4 := Lib.hid (grown_trans G4.out g)
  have O1 := Lib.hid (O1.out.kept g)
  have O2 := Lib.hid (O2.out.kept g)
  have O4 := Lib.hid (O4.out.kept g)
  have HM := Lib.hid (HM.out.kept g)
  obtain ⟨c0, c1⟩ := O1.out.two
  clear g
  go_wp2_with fail
  refine (Has2 _).mono ?_
  rintro e w7 ⟨rfl, g⟩
  have G4 := Lib.hid (grown_trans G4.out g)
  have O1 := Lib.hid (O1.out.kept g)
  have O2 := Lib.hid (O2.out.kept g)
  have O4 := Lib.hid (O4.out.kept g)
  have HM := Lib.hid (HM.out.kept g)
  clear c0 c1
  obtain ⟨c0, c1⟩ := O1.out.two
  clear g
  go_wp2_with fail
  refine (Has9 _).mono ?_
  rintro e w8 ⟨rfl, g⟩
  have G4 := Lib.hid (grown_trans G4.out g)
  have O1 := Lib.hid (O1.out.kept g)
  have O2 := Lib.hid (O2.out.kept g)
  have O4 := Lib.hid (O4.out.kept g)
  have HM := Lib.hid (HM.out.kept g)
  clear c0 c1 g
  obtain ⟨c2, c3⟩ := O2.out.two
  obtain ⟨c4, c5⟩ := O4.out.two
  go_wp2_with fail
  refine (Num_any _ _).mono ?_
  rintro e w9 ⟨rfl, rfl⟩
  go_wp2_with fail
  refine (Num_any _ _).mono ?_
  rintro e w9 ⟨rfl, rfl⟩
  obtain ⟨g9, c9, hv, hc9, hb9, hrow⟩ := HM.out.shape (by omega)
  subst hv
  have HROW := Lib.hid (hrow.grown (Nat.le_refl _) (grow0 _ (.cells #[.int .i64 2, .int .i64 3, .int .i64 3, .int .i64 4, .int .i64 4, .int .i64 9] 23)))
  clear hrow HM
  go_wp2_with fail
  refine (Same0 _ _ _ _ _ _ _ HROW.out (B' := w8.heap.size + 1) ?_).mono ?_
  · exact Sps_lit _ rfl rfl rfl (by simp)
  rintro e w10 ⟨rfl, j, rfl⟩
  have g := grown_drewN (grow0 w8 (.cells #[.int .i64 2, .int .i64 3, .int .i64 3, .int .i64 4, .int .i64 4, .int .i64 9] 23)) j
  have G4 := Lib.hid (grown_trans G4.out g)
  have O1 := Lib.hid (O1.out.kept g)
  have O2 := Lib.hid (O2.out.kept g)
  clear c2 c3 c4 c5 HROW g
  obtain ⟨c0, c1⟩ := O1.out.two
  obtain ⟨c2, c3⟩ := O2.out.two
  go_wp2_with fail
  refine (Num_any _ _).mono ?_
  rintro e w11 ⟨rfl, rfl⟩
  go_wp2_with fail
  refine (Meets0 _).mono ?_
  rintro e w12 ⟨rfl, g⟩
  have G4 := Lib.hid (grown_trans G4.out g)
  clear g c0 c1 c2 c3
  go_wp2
  go_ret
  exact ⟨rfl, G4.out⟩

end Go.Proofs.Ythblaieneglddaa
