/-
  The contract of the law's own opening test: it answers true and changes nothing that was there.
-/
import Derived.Test.YtccahhfeibnchaaConD
namespace Go.Proofs.Ytccahhfeibnchaa
open Go.RowKit

theorem Row.new {w : World} (xs : List Int) (hl : xs.length ≤ 1000) (hok : ∀ x ∈ xs, -9223372036854775808 ≤ x ∧ x ≤ 9223372036854775807) :
    Row (w.alloc (.cells (xs.map (Value.int .i64)).toArray 3)) (w.heap.size + 1) (some ⟨w.heap.size, 0, none⟩) xs.length xs := by
  refine ⟨rfl, by omega, fun i => ?_, fun _ => ⟨w.heap.size, 0, rfl, by omega, fun i hi => ?_⟩⟩
  · by_cases h : i < xs.length
    · simp only [List.getElem?_eq_getElem h, Option.getD_some]
      exact hok _ (List.getElem_mem h)
    · simp only [List.getElem?_eq_none (Nat.le_of_not_lt h), Option.getD_none]
      omega
  · have h := (Own.new w 3 (xs.map (Value.int .i64))).cell i
    rw [Nat.zero_add]
    refine h.trans ?_
    simp [hi]

theorem Row.newAt {w : World} {g n : Nat} {vs : Array Value} (xs : List Int) (hg : g = w.heap.size) (hn : n = xs.length) (hv : vs = (xs.map (Value.int .i64)).toArray) (hl : xs.length ≤ 1000) (hok : ∀ x ∈ xs, -9223372036854775808 ≤ x ∧ x ≤ 9223372036854775807) :
    Row (w.alloc (.cells vs 3)) (g + 1) (some ⟨g, 0, none⟩) n xs := by
  subst hg hn hv
  exact Row.new xs hl hok

theorem awake_c1 : sumV [2, 3, 4] = 9 ∧ sumB [2, 3, 4] = true ∧ sumV [4611686018427387904, 1] = 0 ∧ sumB [4611686018427387904, 1] = false := by
  simp [sumV, sumB, sumFrom]
theorem awake_c2 : leastFrom 5 [3, 4] = 3 ∧ addV 0 [1, 2] = 3 ∧ addB 0 [1, 2] = true := by
  simp [leastFrom, addV, addB, sumFrom]
theorem awake_c3 : topOf 7 = 7 ∧ ownB 7 0 [5] = true ∧ ownV 7 0 [5] = 5 ∧ ownB 7 5 [3] = false ∧ ownV 7 5 [3] = 5 ∧ roomOf 7 5 = 2 := by
  simp [topOf, ownV, ownB, addV, addB, sumFrom, roomOf]

theorem below_drewN {B : Nat} {a w : World} (h : Below B a w) (n : Nat) : Below B a (w.drewN n) := ⟨h.os, h.tape, h.output, h.size, h.block⟩
theorem below_step {B g : Nat} {a w w' : World} (h : Below B a w) (hB : B ≤ w.heap.size) (hg : w.grownBy w' (some g)) (hBg : B ≤ g) : Below B a w' :=
  h.grown hg hB (fun _ e => by injection e with e; omega)

set_option maxHeartbeats 800000 in
theorem awake_any (w : World) : Calls Try.prog 14 #[] w fun e w' => e = .returned (.bool true) ∧ Below w.heap.size w w' := by
  go_enter Try.func14, Try.ntmps14
  go_wp2_with fail
  refine (Sum_any (B := w.heap.size + 1) _ 3 3 [2, 3, 4] _ ?_).mono ?_
  · exact Row.newAt _ rfl rfl rfl (by simp) (by simp)
  rintro e w' ⟨rfl, rfl⟩
  rw [awake_c1.1, awake_c1.2.1]
  go_wp2_with fail
  refine (Sum_any (B := w.heap.size + 2) _ 2 2 [4611686018427387904, 1] _ ?_).mono ?_
  · exact Row.newAt _ (by simp) rfl rfl (by simp) (by simp)
  rintro e w' ⟨rfl, rfl⟩
  rw [awake_c1.2.2.1, awake_c1.2.2.2]
  go_wp2_with fail
  refine (NewGauge_any 7 _ (by omega)).mono ?_
  rintro e w' ⟨rfl, rfl⟩
  rw [awake_c3.1]
  go_wp2_with fail
  refine (Least_any (B := w.heap.size + 5) 5 _ 2 2 [3, 4] _ ?_ (by omega)).mono ?_
  · exact Row.newAt _ (by simp) rfl rfl (by simp) (by simp)
  rintro e w' ⟨rfl, rfl⟩
  rw [awake_c2.1]
  go_wp2_with fail
  refine (MeterAdd_any (w.heap.size + 1 + 1) 36 0 [] _ 2 2 [1, 2] _ (B := w.heap.size + 6) ?_ ?_ (by omega) (by omega)).mono ?_
  · exact Row.newAt _ (by simp) rfl rfl (by simp) (by simp)
  · refine Own.alloc (Own.alloc (Own.alloc ?_ _) _) _
    have := Own.new ((w.alloc (Obj.cells #[Value.int IntKind.i64 2, Value.int IntKind.i64 3, Value.int IntKind.i64 4] 3)).alloc (Obj.cells #[Value.int IntKind.i64 4611686018427387904, Value.int IntKind.i64 1] 3)) 36 [.int .i64 0]
    simpa using this
  rintro e w' ⟨rfl, ho, hg⟩
  rw [awake_c2.2.1] at ho
  rw [awake_c2.2.2]
  have hog : Own w' (w.heap.size + 1 + 1 + 1) 43 [.int .i64 0, .int .i64 7] := by
    refine Own.keep (Own.alloc (Own.alloc ?_ _) _) (hg.block _ (by simp) (by simp))
    have := Own.new (((w.alloc (Obj.cells #[Value.int IntKind.i64 2, Value.int IntKind.i64 3, Value.int IntKind.i64 4] 3)).alloc (Obj.cells #[Value.int IntKind.i64 4611686018427387904, Value.int IntKind.i64 1] 3)).alloc (Obj.cells #[Value.int IntKind.i64 0] 36)) 43 [.int .i64 0, .int .i64 7]
    simpa using this
  have hbel : Below w.heap.size w w' := by
    refine Below.trans ?_ ⟨hg.os, hg.tape, hg.output, hg.size, fun k hk => hg.block k (by simp; omega) (by simp; omega)⟩
    exact ((((((Below.refl _ _).alloc (by first | simp | omega) _).alloc (by simp <;> omega) _).alloc (by simp <;> omega) _).alloc (by simp <;> omega) _).alloc (by simp <;> omega) _).alloc (by simp <;> omega) _
  have HB := Lib.hid hbel
  have HOG := Lib.hid hog
  have hc : w'.cell? ⟨w.heap.size + 1 + 1, 0, none⟩ = some (.int .i64 3) := ho.cell 0
  clear ho hg hbel hog
  go_wp2_with fail
  refine (Total_any _ 3 _ hc).mono ?_
  rintro e w1 ⟨rfl, rfl⟩
  clear hc
  have hz : w.heap.size + 1 + 1 + 1 < w'.heap.size := HOG.out.lt
  go_wp2_with fail
  refine (GaugeAdd_any (w.heap.size + 1 + 1 + 1) 43 0 7 _ 1 1 [5] _ (B := w'.heap.size + 1) ?_ ?_ (by omega) (by omega) (by omega) (by omega)).mono ?_
  · exact Row.newAt _ (by simp) rfl rfl (by simp) (by simp)
  · exact HOG.out.alloc _
  rintro e w2 ⟨rfl, ho, hg⟩
  rw [awake_c3.2.1]
  rw [awake_c3.2.2.1] at ho
  have HB2 := Lib.hid (below_step (HB.out.alloc (Nat.le_of_lt (by omega)) _) (by simp <;> omega) hg (by omega))
  have HO2 := Lib.hid ho
  have hz2 : w.heap.size + 1 + 1 + 1 < w2.heap.size := HO2.out.lt
  clear ho hg HB HOG hz
  go_wp2_with fail
  refine (GaugeAdd_any (w.heap.size + 1 + 1 + 1) 43 5 7 _ 1 1 [3] _ (B := w2.heap.size + 1) ?_ ?_ (by omega) (by omega) (by omega) (by omega)).mono ?_
  · exact Row.newAt _ (by simp) rfl rfl (by simp) (by simp)
  · exact HO2.out.alloc _
  rintro e w3 ⟨rfl, ho, hg⟩
  rw [awake_c3.2.2.2.1]
  rw [awake_c3.2.2.2.2.1] at ho
  have HB3 := Lib.hid (below_step (HB2.out.alloc (Nat.le_of_lt (by omega)) _) (by simp <;> omega) hg (by omega))
  have hc : w3.cell? ⟨w.heap.size + 1 + 1 + 1, 0, none⟩ = some (.int .i64 5) := ho.cell 0
  have hd : w3.cell? ⟨w.heap.size + 1 + 1 + 1, 1, none⟩ = some (.int .i64 7) := ho.cell 1
  clear ho hg HB2 HO2 hz2
  go_wp2_with fail
  refine (Total_any _ 5 _ hc).mono ?_
  rintro e w1 ⟨rfl, rfl⟩
  go_wp2_with fail
  refine (Room_any _ 5 7 _ hc hd (by omega) (by omega) (by omega) (by omega)).mono ?_
  rintro e w4 ⟨rfl, nn, rfl⟩
  rw [awake_c3.2.2.2.2.2]
  clear hc hd
  go_wp2
  go_ret
  exact ⟨rfl, below_drewN HB3.out _⟩
end Go.Proofs.Ytccahhfeibnchaa
