/-
  The walk of the law RateSingles: it answers true and changes nothing that was there.
-/
import Derived.Test.YtccahhfeibnchaaFrame
import Derived.Test.YtccahhfeibnchaaMathB
namespace Go.Proofs.Ytccahhfeibnchaa
open Go.RowKit

theorem single_step (xs : List Int) (k : Nat) (t : Int) (hk : k < xs.length) (h : (sumFrom t (xs.drop k)).isSome = true) (_h0 : 0 ≤ t) (_h1 : t ≤ 4611686018427387904) :
    addB t [xs[k]?.getD 0] = true ∧ addV t [xs[k]?.getD 0] = t + xs[k]?.getD 0 ∧ sumFrom t (xs.drop k) = sumFrom (t + xs[k]?.getD 0) (xs.drop (k + 1)) ∧ 0 ≤ xs[k]?.getD 0 ∧ t + xs[k]?.getD 0 ≤ 4611686018427387904 := by
  by_cases hb : xs[k]?.getD 0 < 0 ∨ 4611686018427387904 - t < xs[k]?.getD 0
  · rw [sum_stop t xs k hk hb] at h; simp at h
  · have e := sum_step t xs k hk (by omega) (by omega)
    generalize xs[k]?.getD 0 = x at *
    have a1 : sumFrom t [x] = some (t + x) := by simp only [sumFrom]; rw [if_neg (by omega)]
    exact ⟨by rw [addB, a1]; rfl, by rw [addV, a1]; rfl, e, by omega, by omega⟩

/-- What holds at each round's head: meter b stands at t, and the numbers that are left bring it to the sum of all. -/
def SinglesRel (w : World) (n : Nat) (xs : List Int) (i : Value) (wr : World) : Prop :=
  ∃ (k : Nat) (t : Int), k ≤ n ∧ i = .int .i64 k ∧ 0 ≤ t ∧ t ≤ 4611686018427387904 ∧ sumFrom 0 xs = sumFrom t (xs.drop k) ∧
    Own wr w.heap.size 36 [.int .i64 (sumV xs)] ∧ Own wr (w.heap.size + 1) 36 [.int .i64 t] ∧ Below w.heap.size w wr

set_option maxHeartbeats 800000 in
theorem RateSingles_walk (A : Option Addr) (n c : Nat) (xs : List Int) (w : World) (h : In w A n c xs) :
    Calls Try.prog 9 #[.slice A n c] w fun e w' => e = .returned (.bool true) ∧ Below w.heap.size w w' := by
  have HR := Lib.hid h.1
  have hn := h.1.small
  clear h
  have e0 : addV 0 xs = sumV xs := rfl
  have e1 : addB 0 xs = sumB xs := rfl
  have HE := Lib.hid (And.intro e0 e1)
  clear e0 e1
  go_enter Try.func9, Try.ntmps9
  go_wp2_with fail
  refine (MeterAdd_any w.heap.size 36 0 [] A n c xs _ (B := w.heap.size) ?_ ?_ (by omega) (by omega)).mono ?_
  · exact HR.out.keep fun p hp => by rw [World.cell?_alloc_lt _ _ _ (by simp; omega), World.cell?_alloc_lt _ _ _ hp]
  · exact Own.alloc (Own.new w 36 [.int .i64 0]) _
  rintro e w1 ⟨rfl, ho, hg⟩
  rw [HE.out.1] at ho
  rw [HE.out.2]
  have HO := Lib.hid ho
  have HBM : Hid (Own w1 (w.heap.size + 1) 36 [.int .i64 0]) := by
    refine Own.keep ?_ (hg.block _ (by simp) (by simp))
    have := Own.new (w.alloc (.cells #[.int .i64 0] 36)) 36 [.int .i64 0]
    simpa using this
  have HB := Lib.hid (below_step (((Below.refl w.heap.size w).alloc (Nat.le_refl _) (.cells #[.int .i64 0] 36)).alloc (by simp) (.cells #[.int .i64 0] 36)) (by simp; omega) hg (Nat.le_refl _))
  clear ho hg
  cases hs : sumB xs with
  | false =>
    have HS := Lib.hid hs
    clear hs
    have hv : sumV xs = 0 := by
      have h := HS.out
      unfold sumB at h; unfold sumV
      cases e : sumFrom 0 xs with
      | none => rfl
      | some t => rw [e] at h; simp at h
    rw [hv] at HO
    clear hv
    go_wp2_with fail
    refine (awake_any _).mono ?_
    rintro e w2 ⟨rfl, hb⟩
    have hc : w2.cell? ⟨w.heap.size, 0, none⟩ = some (.int .i64 0) := (hb.cell HO.out.lt).trans (HO.out.cell 0)
    have HB2 := Lib.hid (HB.out.trans (hb.mono HB.out.size))
    clear hb
    go_wp2_with fail
    refine (Total_any _ 0 _ hc).mono ?_
    rintro e w' ⟨rfl, rfl⟩
    clear hc
    go_wp2
    go_ret
    exact ⟨rfl, HB2.out⟩
  | true =>
    have HS := Lib.hid hs
    clear hs
    go_wp2
    go_loopw [5] (fun i wr => SinglesRel w n xs i wr) (fun i _ => n - (intOf i).toNat)
    case atStart => exact ⟨0, 0, Nat.zero_le _, rfl, by omega, by omega, rfl, HO.out, HBM.out, HB.out⟩
    case round =>
      clear HO HBM HB w1
      obtain ⟨k, t, hk, rfl, h0, h1, hsum, hoa, hob, hb⟩ := hrel
      have HSUM := Lib.hid hsum
      have HOA := Lib.hid hoa
      have HOB := Lib.hid hob
      have HB := Lib.hid hb
      clear hsum hoa hob hb
      by_cases hlt : k < n
      · have hkl : k < xs.length := by rw [HR.out.len]; exact hlt
        have HST := Lib.hid (single_step xs k t hkl (by rw [← HSUM.out]; exact HS.out) h0 h1)
        obtain ⟨b, off, hA, hbB, hcell⟩ := HR.out.at_ (by omega)
        subst hA
        have hc : wr.cell? ⟨b, off + k, none⟩ = some (.int .i64 (xs[k]?.getD 0)) := (HB.out.cell hbB).trans (hcell k hlt)
        have hx := HR.out.ok k
        have hz : w.heap.size + 1 < wr.heap.size := HOB.out.lt
        clear hcell
        generalize xs[k]?.getD 0 = x at *
        go_wp2_with fail
        refine (MeterAdd_any (w.heap.size + 1) 36 t [] _ 1 1 [x] _ (B := wr.heap.size + 1) ?_ ?_ h0 h1).mono ?_
        · exact Row.one x hx
        · exact HOB.out.alloc _
        rintro e w2 ⟨rfl, ho, hg⟩
        rw [HST.out.1]
        rw [HST.out.2.1] at ho
        have HA2 : Hid (Own w2 w.heap.size 36 [.int .i64 (sumV xs)]) := (HOA.out.alloc _).keep (hg.block _ (by simp; omega) (by simp))
        have HB2 := Lib.hid (below_step (HB.out.alloc (by omega) (.cells #[.int .i64 x] 3)) (by simp; omega) hg (by omega))
        have HO2 := Lib.hid ho
        clear ho hg hc
        go_wp2
        go_roundw
        case rel => exact ⟨k + 1, t + x, by omega, by go_num, by have := HST.out.2.2.2; omega, HST.out.2.2.2.2, by rw [HSUM.out, HST.out.2.2.1], HA2.out, HO2.out, HB2.out⟩
        case measure => simp [intOf]; omega
      · have et : sumV xs = t := by
          have h := HSUM.out
          rw [List.drop_of_length_le (by rw [HR.out.len]; omega)] at h
          rw [sumV, h]; rfl
        have HOA' : Hid (Own wr w.heap.size 36 [.int .i64 t]) := by rw [← et]; exact HOA.out
        clear HOA et
        go_wp2_with fail
        refine (awake_any _).mono ?_
        rintro e w2 ⟨rfl, hb⟩
        have hca : w2.cell? ⟨w.heap.size, 0, none⟩ = some (.int .i64 t) := (hb.cell HOA'.out.lt).trans (HOA'.out.cell 0)
        have hcb : w2.cell? ⟨w.heap.size + 1, 0, none⟩ = some (.int .i64 t) := (hb.cell HOB.out.lt).trans (HOB.out.cell 0)
        have HB2 := Lib.hid (HB.out.trans (hb.mono HB.out.size))
        clear hb
        go_wp2_with fail
        refine (Total_any _ t _ hca).mono ?_
        rintro e w' ⟨rfl, rfl⟩
        go_wp2_with fail
        refine (Total_any _ t _ hcb).mono ?_
        rintro e w' ⟨rfl, rfl⟩
        clear hca hcb
        go_wp2
        go_ret
        exact ⟨rfl, HB2.out⟩
end Go.Proofs.Ytccahhfeibnchaa
