/-
  Items held against each other by their row: cmp.Compare, cmp.Or, tree.compare, tree.fits.
-/
import Derived.Test.YtgfehlmiejnonaaTreeA
set_option maxRecDepth 20000
namespace Go.Proofs.Ytgfehlmiejnonaa
open Go.RowKit

theorem IsNan_any (a : Int) (w : World) : Calls Try.prog 91 #[.int .i64 a] w (fun e w' => e = .returned (.bool false) ∧ w = w') := by
  go_enter Try.func91, Try.ntmps91
  go_wp2
  go_ret
  exact ⟨ret_bool (by simp), rfl⟩

def cmp3 (a b : Int) : Int := if a < b then -1 else if b < a then 1 else 0

theorem Cmp_any (a b : Int) (w : World) : Calls Try.prog 82 #[.int .i64 a, .int .i64 b] w (fun e w' => e = .returned (.int .i64 (cmp3 a b)) ∧ w = w') := by
  go_enter Try.func82, Try.ntmps82
  go_wp2_with fail
  refine (IsNan_any a _).mono ?_
  rintro e w1 ⟨rfl, rfl⟩
  go_wp2_with fail
  refine (IsNan_any b _).mono ?_
  rintro e w1 ⟨rfl, rfl⟩
  by_cases h1 : a < b
  · go_wp2
    go_ret
    exact ⟨ret_int (by simp [cmp3, h1]), rfl⟩
  · by_cases h2 : b < a
    · go_wp2
      go_ret
      exact ⟨ret_int (by simp [cmp3, h1, h2]), rfl⟩
    · have h3 : a = b := by omega
      subst h3
      clear h1 h2
      go_wp2
      go_ret
      exact ⟨ret_int (by simp [cmp3]), rfl⟩

def orI : List Int → Int
  | [] => 0
  | a :: r => if a ≠ 0 then a else orI r

theorem orI_end : ∀ {xs : List Int}, (∀ j, j < xs.length → xs[j]?.getD 0 = 0) → orI xs = 0
  | [], _ => rfl
  | a :: r, h => by
    have h0 := h 0 (by simp)
    simp at h0
    rw [orI, if_neg (by simp [h0])]
    exact orI_end fun j hj => by simpa using h (j + 1) (by simpa using hj)

theorem orI_at : ∀ {xs : List Int} {k : Nat}, k < xs.length → (∀ j, j < k → xs[j]?.getD 0 = 0) → xs[k]?.getD 0 ≠ 0 → orI xs = xs[k]?.getD 0
  | [], k, hk, _, _ => by simp at hk
  | a :: r, 0, _, _, h => by
    simp at h
    rw [orI, if_pos h]
    simp
  | a :: r, k + 1, hk, h, hx => by
    have h0 := h 0 (by omega)
    simp at h0
    rw [orI, if_neg (by simp [h0])]
    have := orI_at (xs := r) (k := k) (by simpa using hk) (fun j hj => by simpa using h (j + 1) (by omega)) (by simpa using hx)
    simpa using this

def COrRel (w : World) (n : Nat) (xs : List Int) (i : Value) (wr : World) : Prop :=
  ∃ k : Nat, k ≤ n ∧ i = .int .i64 (k : Nat) ∧ wr = w ∧ ∀ j, j < k → xs[j]?.getD 0 = 0

theorem Or_any (A : Option Addr) (n c : Nat) (xs : List Int) (w : World) {B : Nat} (h : Row w B A n xs) : Calls Try.prog 81 #[.slice A n c] w (fun e w' => e = .returned (.int .i64 (orI xs)) ∧ w = w') := by
  have hn := h.small
  have HL := Lib.hid h.len
  have HR := Lib.hid h
  clear h
  go_enter Try.func81, Try.ntmps81
  go_wp2
  go_loopw [8] (fun i wr => COrRel w n xs i wr) (fun i _ => n - (intOf i).toNat)
  case atStart => exact ⟨0, Nat.zero_le _, rfl, rfl, fun j hj => absurd hj (Nat.not_lt_zero _)⟩
  case round =>
    obtain ⟨k, hk, rfl, rfl, hall⟩ := hrel
    have HALL := Lib.hid hall
    clear hall
    by_cases hlt : k < n
    · obtain ⟨b, off, rfl, _, hcell⟩ := HR.out.at_ (by omega)
      have d0 := hcell k hlt
      have HA := Lib.hid (orI_at (xs := xs) (k := k) (by have := HL.out; omega) HALL.out)
      have HX : Hid (xs[k]?.getD 0 = 0 → ∀ j, j < k + 1 → xs[j]?.getD 0 = 0) := fun e j hj => by
        rcases Nat.lt_or_ge j k with q | q
        · exact HALL.out j q
        · rw [show j = k by omega]; exact e
      clear hcell HALL
      generalize xs[k]?.getD 0 = y at *
      by_cases hy : y = 0
      · have HX2 := Lib.hid (HX.out hy)
        subst hy
        clear HA HX
        go_wp2
        go_roundw
        case rel => exact ⟨k + 1, by omega, by go_num, rfl, HX2.out⟩
        case measure => simp [intOf]; omega
      · have E := Lib.hid (HA.out hy)
        clear HA HX
        go_wp2
        go_ret
        exact ⟨ret_int (by rw [E.out]), rfl⟩
    · have E : Hid (orI xs = 0) := orI_end fun j hj => HALL.out j (by have := HL.out; omega)
      clear HALL
      go_wp2
      go_ret
      exact ⟨ret_int (by rw [E.out]), rfl⟩

def cmpI (a b : It) : Int := orI [cmp3 a.1 b.1, cmp3 a.2.1 b.2.1, cmp3 a.2.2 b.2.2]

theorem cmp3_lt {a b : Int} (h : a < b) : cmp3 a b = -1 := by simp [cmp3, h]
theorem cmp3_gt {a b : Int} (h : b < a) : cmp3 a b = 1 := by
  unfold cmp3
  rw [if_neg (by omega), if_pos h]
theorem cmp3_eq (a : Int) : cmp3 a a = 0 := by simp [cmp3]

theorem cmpI_val (a0 a1 a2 b0 b1 b2 : Int) : (cmpI (a0, a1, a2) (b0, b1, b2) = -1 ∧ lessB (a0, a1, a2) (b0, b1, b2) = true) ∨ (cmpI (a0, a1, a2) (b0, b1, b2) = 1 ∧ lessB (b0, b1, b2) (a0, a1, a2) = true) ∨ (cmpI (a0, a1, a2) (b0, b1, b2) = 0 ∧ (a0, a1, a2) = (b0, b1, b2)) := by
  rw [less_iff, less_iff]
  simp only [cmpI]
  rcases Int.lt_trichotomy a0 b0 with h | h | h
  · rw [cmp3_lt h, orI, if_pos (by decide)]
    exact .inl ⟨rfl, .inl h⟩
  · subst h
    rw [cmp3_eq, orI, if_neg (by decide)]
    rcases Int.lt_trichotomy a1 b1 with h | h | h
    · rw [cmp3_lt h, orI, if_pos (by decide)]
      exact .inl ⟨rfl, .inr ⟨rfl, .inl h⟩⟩
    · subst h
      rw [cmp3_eq, orI, if_neg (by decide)]
      rcases Int.lt_trichotomy a2 b2 with h | h | h
      · rw [cmp3_lt h, orI, if_pos (by decide)]
        exact .inl ⟨rfl, .inr ⟨rfl, .inr ⟨rfl, h⟩⟩⟩
      · subst h
        rw [cmp3_eq, orI, if_neg (by decide)]
        exact .inr (.inr ⟨rfl, rfl⟩)
      · rw [cmp3_gt h, orI, if_pos (by decide)]
        exact .inr (.inl ⟨rfl, .inr ⟨rfl, .inr ⟨rfl, h⟩⟩⟩)
    · rw [cmp3_gt h, orI, if_pos (by decide)]
      exact .inr (.inl ⟨rfl, .inr ⟨rfl, .inl h⟩⟩)
  · rw [cmp3_gt h, orI, if_pos (by decide)]
    exact .inr (.inl ⟨rfl, .inl h⟩)

theorem less_asym {a b : It} (h : lessB a b = true) : lessB b a = false ∧ a ≠ b := by
  constructor
  · cases k : lessB b a
    · rfl
    · have := less_trans h k
      rw [less_irr] at this
      cases this
  · rintro rfl
    rw [less_irr] at h
    cases h

/-- How two items stand to each other. -/
theorem cmpI_is (a b : It) : (cmpI a b = -1 ∧ lessB a b = true) ∨ (cmpI a b = 1 ∧ lessB b a = true) ∨ (cmpI a b = 0 ∧ a = b) := by
  obtain ⟨a0, a1, a2⟩ := a
  obtain ⟨b0, b1, b2⟩ := b
  exact cmpI_val a0 a1 a2 b0 b1 b2

theorem held6x {w w1 : World} {a0 a1 a2 a3 a4 a5 : Addr} {x0 x1 x2 x3 x4 x5 : Value} (g : w.grownBy w1 none)
    (h : w.cell? a0 = some x0 ∧ w.cell? a1 = some x1 ∧ w.cell? a2 = some x2 ∧ w.cell? a3 = some x3 ∧ w.cell? a4 = some x4 ∧ w.cell? a5 = some x5) :
    w1.cell? a0 = some x0 ∧ w1.cell? a1 = some x1 ∧ w1.cell? a2 = some x2 ∧ w1.cell? a3 = some x3 ∧ w1.cell? a4 = some x4 ∧ w1.cell? a5 = some x5 :=
  have k : ∀ {a : Addr} {v : Value}, w.cell? a = some v → w1.cell? a = some v := fun h => g.cell h (by simp)
  ⟨k h.1, k h.2.1, k h.2.2.1, k h.2.2.2.1, k h.2.2.2.2.1, k h.2.2.2.2.2⟩

theorem cmp3_row (w : World) (a0 a1 a2 b0 b1 b2 : Int) : Row (w.alloc (.cells #[.int .i64 (cmp3 a0 b0), .int .i64 (cmp3 a1 b1), .int .i64 (cmp3 a2 b2)] 3)) (w.heap.size + 1) (some ⟨w.heap.size, 0, none⟩) 3 [cmp3 a0 b0, cmp3 a1 b1, cmp3 a2 b2] := by
  have h := Mine.lit (w := w) (base := 0) [cmp3 a0 b0, cmp3 a1 b1, cmp3 a2 b2] 3 rfl rfl rfl (Nat.zero_le _) (by simp)
  have k := h.rowAt (fun i => by
    have b : ∀ a b : Int, -1 ≤ cmp3 a b ∧ cmp3 a b ≤ 1 := fun a b => by
      unfold cmp3
      split
      · omega
      · split <;> omega
    have := b a0 b0
    have := b a1 b1
    have := b a2 b2
    rcases i with _ | _ | _ | i <;> simp <;> omega)
  have e : (w.alloc (.cells #[.int .i64 (cmp3 a0 b0), .int .i64 (cmp3 a1 b1), .int .i64 (cmp3 a2 b2)] 3)).heap.size = w.heap.size + 1 := by simp
  rw [← e]
  exact k

set_option maxHeartbeats 2000000 in
theorem Tcompare_any (a0 a1 a2 b0 b1 b2 : Int) (w : World) :
    Calls Try.prog 62 #[.agg #[.int .i64 a0, .int .i64 a1, .int .i64 a2], .agg #[.int .i64 b0, .int .i64 b1, .int .i64 b2]] w (Says w (.int .i64 (cmpI (a0, a1, a2) (b0, b1, b2)))) := by
  have HB := Lib.hid (box2 (w := w) (T := 50) (U := 50) [.int .i64 a0, .int .i64 a1, .int .i64 a2] [.int .i64 b0, .int .i64 b1, .int .i64 b2] (World.grownBy.refl _ none))
  go_enter Try.func62, Try.ntmps62
  go_upto_region 1 with fail
  obtain ⟨G0, o1, o2⟩ := HB.out
  generalize (w.alloc (.cells #[.int .i64 a0, .int .i64 a1, .int .i64 a2] 50)).alloc (.cells #[.int .i64 b0, .int .i64 b1, .int .i64 b2] 50) = w1 at *
  obtain ⟨c0, c1, c2⟩ := o1.three
  obtain ⟨d0, d1, d2⟩ := o2.three
  have GK := Lib.hid G0
  have HS : Hid (w1.cell? ⟨w.heap.size, 0, none⟩ = some (.int .i64 a0) ∧ w1.cell? ⟨w.heap.size, 1, none⟩ = some (.int .i64 a1) ∧ w1.cell? ⟨w.heap.size, 2, none⟩ = some (.int .i64 a2) ∧ w1.cell? ⟨w.heap.size + 1, 0, none⟩ = some (.int .i64 b0) ∧ w1.cell? ⟨w.heap.size + 1, 1, none⟩ = some (.int .i64 b1) ∧ w1.cell? ⟨w.heap.size + 1, 2, none⟩ = some (.int .i64 b2)) := ⟨c0, c1, c2, d0, d1, d2⟩
  clear HB G0 o1 o2 c0 c1 c2 d0 d1 d2
  go_region_held3 (fun w' : World => w'.cell? ⟨w.heap.size, 0, none⟩ = some (.int .i64 a0) ∧ w'.cell? ⟨w.heap.size, 1, none⟩ = some (.int .i64 a1) ∧ w'.cell? ⟨w.heap.size, 2, none⟩ = some (.int .i64 a2) ∧ w'.cell? ⟨w.heap.size + 1, 0, none⟩ = some (.int .i64 b0) ∧ w'.cell? ⟨w.heap.size + 1, 1, none⟩ = some (.int .i64 b1) ∧ w'.cell? ⟨w.heap.size + 1, 2, none⟩ = some (.int .i64 b2)) (first | exact HS.out | exact held6x (grown_drew (grow0 _ _)) HS.out | exact held6x (grown_drewN (grow0 _ _) _) HS.out)
    (first
      | (go_at_call 82; refine (Cmp_any _ _ _).mono ?_; rintro e w8 ⟨rfl, rfl⟩)
      | (go_at_call 81; refine (Or_any _ _ _ [cmp3 a0 b0, cmp3 a1 b1, cmp3 a2 b2] _ (B := w1.heap.size + 1) (by first | exact cmp3_row _ _ _ _ _ _ _ | exact (cmp3_row _ _ _ _ _ _ _).drewN _ | exact (cmp3_row _ _ _ _ _ _ _).drewN 1)).mono ?_; rintro e w8 ⟨rfl, rfl⟩))
  go_wp2
  go_ret
  exact ⟨ret_int rfl, by first | exact grown_trans GK.out (grow0 _ _) | exact grown_trans GK.out (grown_drew (grow0 _ _)) | exact grown_trans GK.out (grown_drewN (grow0 _ _) _)⟩

theorem Fits_any (a b c : Int) (w : World) :
    Calls Try.prog 46 #[.agg #[.int .i64 a, .int .i64 b, .int .i64 c]] w (Says w (.bool (itB (a, b, c)))) := by
  go_enter Try.func46, Try.ntmps46
  go_wp2_with fail
  refine (May_any a b _).mono ?_
  rintro e w1 ⟨rfl, g1⟩
  obtain ⟨g, o2⟩ := box1 [.int .i64 a, .int .i64 b, .int .i64 c] g1
  obtain ⟨c0, c1, c2⟩ := o2.three
  have G := Lib.hid g
  clear g1 g o2
  cases hs : spanMay a b
  · go_wp2
    go_ret
    exact ⟨ret_bool (by simp [itB, hs]), G.out⟩
  · by_cases h0 : 0 ≤ c
    · have t0 : decide (0 ≤ c) = true := by simpa using h0
      go_wp2
      go_ret
      exact ⟨ret_bool (by simp [itB, hs, h0]), G.out⟩
    · have t0 : decide (0 ≤ c) = false := by simpa using h0
      go_wp2
      go_ret
      exact ⟨ret_bool (by simp [itB, hs]; omega), G.out⟩

end Go.Proofs.Ytgfehlmiejnonaa
