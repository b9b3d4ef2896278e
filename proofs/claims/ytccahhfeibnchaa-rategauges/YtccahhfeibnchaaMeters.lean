/-
  The walk of the law RateMeters: it answers true and changes nothing that was there.
-/
import Derived.Test.YtccahhfeibnchaaApp
import Derived.Test.YtccahhfeibnchaaMathB
namespace Go.Proofs.Ytccahhfeibnchaa
open Go.RowKit

theorem meter_sum (t : Int) (xs : List Int) (h0 : 0 ≤ t) (h1 : t ≤ 4611686018427387904) :
    sumB (t :: xs) = addB t xs ∧ (addB t xs = true → sumV (t :: xs) = addV t xs) ∧ (addB t xs = false → addV t xs = t) := by
  have e : sumFrom 0 (t :: xs) = sumFrom t xs := by rw [sumFrom, if_neg (by omega), Int.zero_add]
  refine ⟨by rw [sumB, e]; rfl, fun h => ?_, fun h => ?_⟩
  · rw [sumV, e, addV]
    unfold addB at h
    cases k : sumFrom t xs with
    | none => rw [k] at h; simp at h
    | some u => rfl
  · rw [addV]
    unfold addB at h
    cases k : sumFrom t xs with
    | none => rfl
    | some u => rw [k] at h; simp at h
theorem cons_ok (t : Int) (xs : List Int) (h0 : 0 ≤ t) (h1 : t ≤ 4611686018427387904) (h : ∀ i : Nat, -9223372036854775808 ≤ xs[i]?.getD 0 ∧ xs[i]?.getD 0 ≤ 9223372036854775807) :
    ∀ i : Nat, -9223372036854775808 ≤ (t :: xs)[i]?.getD 0 ∧ (t :: xs)[i]?.getD 0 ≤ 9223372036854775807 := by
  intro i
  rcases i with _ | i
  · simp; omega
  · simpa using h i

def MetersRel (w : World) (n : Nat) (tot i : Value) (wr : World) : Prop :=
  ∃ (k : Nat) (t : Int), k ≤ n ∧ i = .int .i64 k ∧ tot = .int .i64 t ∧ 0 ≤ t ∧ t ≤ 4611686018427387904 ∧ Own wr w.heap.size 36 [.int .i64 t] ∧ Below w.heap.size w wr

set_option maxHeartbeats 800000 in
theorem RateMeters_walk (A : Option Addr) (n c : Nat) (w : World) (h : Mat w A n) :
    Calls Try.prog 7 #[.slice A n c] w fun e w' => e = .returned (.bool true) ∧ Below w.heap.size w w' := by
  have hn := h.1
  have HM := Lib.hid h.2
  clear h
  go_enter Try.func7, Try.ntmps7
  go_wp2
  go_loopw [4, 5] (fun tot i wr => MetersRel w n tot i wr) (fun _ i _ => n - (intOf i).toNat)
  case atStart => exact ⟨0, 0, Nat.zero_le _, rfl, rfl, by omega, by omega, Own.new w 36 [.int .i64 0], (Below.refl _ _).alloc (Nat.le_refl _) _⟩
  case round =>
    obtain ⟨k, t, hk, rfl, rfl, h0, h1, ho, hb⟩ := hrel
    have HO := Lib.hid ho
    have HB := Lib.hid hb
    clear ho hb
    by_cases hlt : k < n
    · obtain ⟨b, off, a, l, cc, xs, hA, hbB, hcell, hrow, hlc, hreach, hnil⟩ := HM.out k hlt
      subst hA
      have hc : wr.cell? ⟨b, off + k, none⟩ = some (.slice a l cc) := (HB.out.cell hbB).trans hcell
      have HROW := Lib.hid (hrow.keep fun p hp => HB.out.cell (w' := wr) hp)
      have HNIL := Lib.hid hnil
      have hz : w.heap.size < wr.heap.size := HO.out.lt
      have HMS := Lib.hid (meter_sum t xs h0 h1)
      have HMINE := Lib.hid (Mine.lit (w := wr) (base := wr.heap.size) [t] 1 rfl rfl rfl (Nat.le_refl _) (by simp))
      have hbr : b < wr.heap.size := by omega
      clear hcell hrow hnil
      go_wp2_with (first | (at_builtin; refine wpList_app _ rfl _ _ rfl wr.heap.size _ 1 [t] rfl HMINE.out (B := w.heap.size) a l cc xs rfl ?_ HNIL.out (by omega) (by simp) ?_))
      · exact HROW.out.keep fun p hp => World.cell?_alloc_lt _ _ _ (by omega)
      intro v1 w2 hmine hg _
      have hok := HROW.out.ok
      obtain ⟨A1, c1, hv, _, hrow1⟩ := hmine.row (cons_ok t xs h0 h1 hok)
      have HB2 := Lib.hid (below_step (HB.out.alloc (by omega) (.cells #[.int .i64 t] 3)) (by simp; omega) hg (Nat.le_of_lt hz))
      have HO2 : Hid (Own w2 w.heap.size 36 [.int .i64 t]) := (HO.out.alloc _).keep (hg.block _ (by simp; omega) (by simp [Value.ownBlock]; omega))
      have HROW2 : Hid (Row w2 w.heap.size a l xs) := HROW.out.keep fun p hp => (HB2.out.cell hp).trans (HB.out.cell hp).symm
      have hc2 : w2.cell? ⟨b, off + k, none⟩ = some (.slice a l cc) := (HB2.out.cell (p := ⟨b, off + k, none⟩) hbB).trans ((HB.out.cell (p := ⟨b, off + k, none⟩) hbB).symm.trans hc)
      have HROW1 := Lib.hid hrow1
      rw [hv]
      clear hv hmine hg hrow1 hok hc HB HO HROW HMINE
      go_wp2_with fail
      refine (RefSum_any A1 (1 + l) c1 (t :: xs) _ HROW1.out).mono ?_
      rintro e w3 ⟨rfl, rfl⟩
      rw [HMS.out.1]
      go_wp2_with fail
      refine (MeterAdd_any w.heap.size 36 t [] a l cc xs _ HROW2.out HO2.out h0 h1).mono ?_
      rintro e w3 ⟨rfl, ho, hg⟩
      have hbd := addV_bd t xs h0 h1
      have HO3 := Lib.hid ho
      have hc3 : w3.cell? ⟨w.heap.size, 0, none⟩ = some (.int .i64 (addV t xs)) := ho.cell 0
      have HB3 := Lib.hid (below_step HB2.out (by have := HB2.out.size; omega) hg (Nat.le_refl _))
      clear ho hg hc2 HROW2 HROW1 HO2 HB2
      cases hs : addB t xs with
      | true =>
        have e := HMS.out.2.1 hs
        rw [e]
        clear e hs HMS
        go_wp2_with fail
        refine (Total_any _ _ _ hc3).mono ?_
        rintro e w4 ⟨rfl, rfl⟩
        clear hc3
        go_wp2
        go_roundw
        case rel => exact ⟨k + 1, addV t xs, by omega, by go_num, rfl, hbd.1, hbd.2, HO3.out, HB3.out⟩
        case measure => simp [intOf]; omega
      | false =>
        have e := HMS.out.2.2 hs
        rw [e] at hc3 HO3
        clear e hs HMS
        go_wp2_with fail
        refine (Total_any _ _ _ hc3).mono ?_
        rintro e w4 ⟨rfl, rfl⟩
        clear hc3
        go_wp2
        go_roundw
        case rel => exact ⟨k + 1, t, by omega, by go_num, rfl, h0, h1, HO3.out, HB3.out⟩
        case measure => simp [intOf]; omega
    · go_wp2_with fail
      refine (awake_any _).mono ?_
      rintro e w2 ⟨rfl, hb⟩
      have HB2 := Lib.hid (HB.out.trans (hb.mono HB.out.size))
      clear hb
      go_wp2
      go_ret
      exact ⟨rfl, HB2.out⟩
end Go.Proofs.Ytccahhfeibnchaa
