/-
  The library's Mul of one and a small number; slices.Repeat of one number.
-/
import Derived.Test.YtlpohlcmjnlbhaaJC
import Derived.Laws.CopyOwn
set_option maxRecDepth 20000
namespace Go.Proofs.Ytlpohlcmjnlbhaa
open Go.RowKit

def MulPost (w : World) (y : Nat) (e : Ending) (w' : World) : Prop := e = .returned (.tuple #[.int .u64 0, .int .u64 (y : Nat)]) ∧ w' = w

theorem ret_mul {a b : Int} {y : Nat} (h : a = 0) (k : b = (y : Nat)) : Ending.returned (.tuple #[.int .u64 a, .int .u64 b]) = .returned (.tuple #[.int .u64 0, .int .u64 (y : Nat)]) := by rw [h, k]

set_option maxHeartbeats 1000000 in
theorem Mul64_any (y : Nat) (hy : y ≤ 8) (w : World) : Calls Try.prog 94 #[.int .u64 1, .int .u64 (y : Nat)] w (MulPost w y) := by
  rcases (show y = 0 ∨ y = 1 ∨ y = 2 ∨ y = 3 ∨ y = 4 ∨ y = 5 ∨ y = 6 ∨ y = 7 ∨ y = 8 by omega) with rfl | rfl | rfl | rfl | rfl | rfl | rfl | rfl | rfl
  all_goals
    go_enter Try.func94, Try.ntmps94
    go_wp2
    go_ret2
    exact ⟨ret_mul (by decide) (by decide), rfl⟩

theorem Mul_any (y : Nat) (hy : y ≤ 8) (w : World) : Calls Try.prog 86 #[.int .u64 1, .int .u64 (y : Nat)] w (MulPost w y) := by
  go_enter Try.func86, Try.ntmps86
  go_wp2_with fail
  refine (Mul64_any y hy _).mono ?_
  rintro e w1 ⟨rfl, rfl⟩
  go_wp2
  go_ret2
  exact ⟨rfl, rfl⟩

theorem size3 : (Try.prog.info? 3).map (·.size) = some 1 := by kernel_rfl

def RepPost (w : World) (n : Nat) (x : Int) (e : Ending) (w' : World) : Prop := ∃ g, e = .returned (.slice (some ⟨g, 0, none⟩) n n) ∧ w.heap.size ≤ g ∧ Own w' g 3 (ints (List.replicate n x)) ∧ w.grownBy w' none

def repL (n k : Nat) (x : Int) : List Value := ints (List.replicate k x ++ List.replicate (n - k) 0)

def RepRel (w : World) (g n : Nat) (x : Int) (i : Value) (wr : World) : Prop := ∃ k : Nat, 1 ≤ k ∧ k ≤ n ∧ i = .int .i64 (k : Nat) ∧ w.grownBy wr none ∧ Own wr g 3 (repL n k x)

theorem rep_len {n k : Nat} {x : Int} (h : k ≤ n) : (repL n k x).length = n := by simp [repL, ints]; omega
theorem rep_zero (n : Nat) (x : Int) : List.replicate n (Value.int .i64 0) = repL n 0 x := by simp [repL, ints]
theorem rep_full (n : Nat) (x : Int) : repL n n x = ints (List.replicate n x) := by simp [repL]
theorem rep_splice {n k m : Nat} {x : Int} (h : k + m ≤ n) : splice (repL n k x) k (ints (List.replicate m x)) = repL n (k + m) x := by
  simp only [splice, repL, ints, List.map_append, List.map_replicate, List.length_replicate]
  rw [List.take_left' (by simp), ← List.append_assoc, List.replicate_append_replicate, List.drop_append, List.drop_eq_nil_of_le (by simp)]
  simp only [List.nil_append, List.length_replicate, List.drop_replicate]
  rw [show n - k - (k + m - k) = n - (k + m) by omega]
theorem rep_at' {n k j : Nat} {x : Int} (h : j < k) : (repL n k x)[j]? = some (.int .i64 x) := by
  rw [repL, ints_app, List.getElem?_append_left (by simp [ints_len]; exact h)]
  simp [ints, h]

set_option maxRecDepth 20000 in
set_option maxHeartbeats 1000000 in
theorem Repeat_any (A : Option Addr) (n : Nat) (x : Int) (w : World) {B : Nat} (h : Row w B A 1 [x]) (h1 : 1 ≤ n) (h8 : n ≤ 8) :
    Calls Try.prog 72 #[.slice A 1 1, .int .i64 (n : Nat)] w (RepPost w n x) := by
  obtain ⟨b, off, rfl, hb, hc⟩ := h.at_ (by omega)
  have hc0 := hc 0 (by omega)
  simp only [Nat.add_zero, List.getElem?_cons_zero, Option.getD_some] at hc0
  have hb := block_lt hc0
  clear hc h
  obtain ⟨i0, hi, hz0, hz1, hz2⟩ := info_parts info3
  have HI := Lib.hid hi
  have HZ0 := Lib.hid hz0
  have HZ1 := Lib.hid hz1
  have HZ2 := Lib.hid hz2
  clear hi hz0 hz1 hz2
  go_enter Try.func72, Try.ntmps72
  go_wp2_with fail
  refine (Mul_any n h8 _).mono ?_
  rintro e w1 ⟨rfl, rfl⟩
  go_wp2_with (first | (refine wpList_make_full _ rfl _ _ 25 rfl w1.heap.size 3 i0 (.int .i64 0) 1 Try.underlying25 HI.out HZ0.out HZ1.out .i64 .i64 (n : Int) (n : Int) n rfl rfl rfl rfl (by rw [HZ2.out]; omega) (by unfold maxLen; omega) (Nat.le_refl _) ?_))
  intro w2 hmk k2
  rw [toList_madeCells_one, rep_zero n x] at hmk
  have OS : Hid (Own w2 w1.heap.size 3 (repL n 0 x)) := Own.of_made hmk
  have G := Lib.hid k2
  have hc1 := kept k2 hc0
  clear hmk k2 HI HZ0 HZ1 HZ2
  have hsz := G.out.size
  have hl2 := OS.out.lt
  obtain ⟨C1, hC1⟩ : ∃ C1, C1 = ints (List.replicate 1 x) := ⟨_, rfl⟩
  have HC1 := Lib.hid hC1
  have hl1 : C1.length = 1 := by rw [hC1]; simp [ints]
  clear hC1
  have HN : Hid (C1.length = Nat.min 1 n) := by rw [Hid, hl1]; simp [Nat.min_def]; omega
  have HP : Hid (0 < C1.length → some (⟨w1.heap.size, 0, none⟩ : Addr) = some ⟨w1.heap.size, 0, none⟩ ∧ ∃ ad, some (⟨b, off, none⟩ : Addr) = some ad ∧ ∀ j v, C1[j]? = some v → w2.cell? (ad.add j) = some v) := by
    intro _
    refine ⟨rfl, _, rfl, fun j v hv => ?_⟩
    rw [HC1.out] at hv
    obtain rfl : j = 0 := by
      rcases Nat.eq_zero_or_pos j with h | h
      · exact h
      · rw [List.getElem?_eq_none (by simp [ints]; omega)] at hv; cases hv
    simp only [ints, List.replicate_succ, List.replicate_zero, List.map_cons, List.map_nil, List.getElem?_cons_zero, Option.some.injEq] at hv
    rw [add_at, Nat.add_zero, ← hv]
    exact hc1
  have HF : Hid (0 + C1.length ≤ (repL n 0 x).length) := by rw [Hid, hl1, rep_len (Nat.zero_le _)]; omega
  have H1 : Hid (∀ v ∈ C1, v.oneCell' = true) := by rw [Hid, HC1.out]; exact ints_one _
  go_wp2_with (first | (refine wpList_copy_splice (o := ⟨some 33, _, _, _, _, _⟩) rfl (.tmp 31) (.tmp 32) 25 25 rfl 3 Try.underlying25 size3 (some ⟨w1.heap.size, 0, none⟩) (some ⟨b, off, none⟩) n n 1 1 rfl rfl w1.heap.size 0 (repL n 0 x) 3 OS.out C1 HN.out HP.out HF.out H1.out w1.heap.size w1 (below_of G.out) (Nat.le_refl _) ?_))
  intro w3 HG3 hb3
  have HS : Hid (RepRel w1 w1.heap.size n x (.int .i64 1) w3) := ⟨1, Nat.le_refl _, h1, rfl, grown_of_below hb3, by have := HG3.out; rw [HC1.out, rep_splice (by omega)] at this; exact this⟩
  clear HG3 hb3 OS G hc1 hsz hl2 HC1 HN HP HF H1
  go_wp2
  go_loopw [8] (fun i wr => RepRel w1 w1.heap.size n x i wr) (fun i _ => n - (intOf i).toNat)
  case atStart => exact HS.out
  case round =>
    clear HS
    obtain ⟨k, hk1, hk2, rfl, hg, o⟩ := hrel
    have G := Lib.hid hg
    have O := Lib.hid o
    have hsz := hg.size
    have hl := o.lt
    clear hg o
    by_cases hlt : k < n
    · have hnk : ¬ n = k := by omega
      have hkn : (k : Int) < (n : Int) := by omega
      obtain ⟨m, hm⟩ : ∃ m, m = Nat.min k (n - k) := ⟨_, rfl⟩
      have hmk : m ≤ k ∧ k + m ≤ n ∧ 1 ≤ m := by rw [hm, show Nat.min k (n - k) = min k (n - k) from rfl, Nat.min_def]; split <;> omega
      obtain ⟨C2, hC2⟩ : ∃ C2, C2 = ints (List.replicate m x) := ⟨_, rfl⟩
      have hl1 : C2.length = m := by rw [hC2]; simp [ints]
      have HC2 := Lib.hid hC2
      have HN : Hid (C2.length = Nat.min k (n - k)) := by rw [Hid, hl1, hm]
      have HP : Hid (∀ wx : World, Own wx w1.heap.size 3 (repL n k x) → 0 < C2.length → some (⟨w1.heap.size, k, none⟩ : Addr) = some ⟨w1.heap.size, k, none⟩ ∧ ∃ ad, some (⟨w1.heap.size, 0, none⟩ : Addr) = some ad ∧ ∀ j v, C2[j]? = some v → wx.cell? (ad.add j) = some v) := by
        intro wx ho _
        refine ⟨rfl, _, rfl, fun j v hv => ?_⟩
        rw [HC2.out] at hv
        have hj : j < m := by
          rcases Nat.lt_or_ge j m with h | h
          · exact h
          · rw [List.getElem?_eq_none (by simp [ints]; omega)] at hv; cases hv
        rw [add_at, Nat.zero_add, ho.cell j, rep_at' (by omega), ← hv]
        simp [ints, hj]
      have HF : Hid (k + C2.length ≤ (repL n k x).length) := by rw [Hid, hl1, rep_len hk2]; omega
      have H1 : Hid (∀ v ∈ C2, v.oneCell' = true) := by rw [Hid, HC2.out]; exact ints_one _
      clear hC2 hm
      go_upto_region 9 with fail
      have OD : Hid (wr.drew.heap[w1.heap.size]? = some (.cells (repL n k x).toArray 3 (0, 0))) := O.out
      have HPD := Lib.hid (HP.out wr.drew O.out)
      have GD : Hid (Below w1.heap.size w1 wr.drew) := below_of (grown_drew G.out)
      have hw : IntKind.i64.wrap ((k : Int) + (m : Int)) = (k : Int) + (m : Int) := IntWalk.i64_in _ (by omega)
      clear HP O
      go_region_law (first | (refine step_copy_splice (o := ⟨some 45, _, _, _, _, _⟩) rfl (.tmp 41) (.tmp 44) 25 25 rfl 3 Try.underlying25 size3 (some ⟨w1.heap.size, k, none⟩) (some ⟨w1.heap.size, 0, none⟩) (n - k) (n - k) k n (by go_simp) (by go_simp) w1.heap.size k (repL n k x) 3 OD.out C2 HN.out HPD.out HF.out H1.out w1.heap.size w1 GD.out (Nat.le_refl _) ?_; intro w4 hg4 hb4))
      have O4 : Hid (Own w4 w1.heap.size 3 (repL n (k + m) x)) := by have := hg4.out; rw [HC2.out, rep_splice hmk.2.1] at this; exact this
      have G4 := Lib.hid (grown_of_below hb4)
      clear hg4 hb4 HC2 HN HF H1 OD HPD GD G
      go_simp
      go_wp2
      go_roundw
      case rel => exact ⟨k + m, by omega, by omega, by go_num, G4.out, O4.out⟩
      case measure => simp [intOf]; omega
    · obtain rfl : n = k := by omega
      go_wp2
      go_ret
      exact ⟨_, rfl, Nat.le_refl _, by have := O.out; rw [rep_full] at this; exact this, G.out⟩

end Go.Proofs.Ytlpohlcmjnlbhaa
