/-
  The law StreamSums, walked.
-/
import Derived.Test.YtmodkhcfihlhgaaFlowG
namespace Go.Proofs.Ytmodkhcfihlhgaa
open Go.RowKit

def SuRel (w : World) (V : Int) (A : Option Addr) (n c : Nat) (L : List Lk) (f : List Int) (N : Nat) (x y i : Value) (wr : World) : Prop :=
  ∃ k : Nat, k ≤ N ∧ x = .int .i64 (plusK L f k) ∧ y = .int .i64 (minusK L f k) ∧ i = .int .i64 (k : Nat) ∧ w.grownBy wr none ∧ Own wr w.heap.size 24 [.int .i64 V, .slice A n c]

theorem val_parts {V : Int} {L : List Lk} {f : List Int} {s : Int} (h : valE V L f s = 0) : mayG V L = true ∧ capsB L f = true := by
  cases hb : valB V L f s
  · rw [(val_no hb).2] at h; omega
  · simp only [valB, Bool.and_eq_true] at hb
    exact hb.1

theorem val_at {V : Int} {L : List Lk} {f : List Int} {k : Nat} (h : mayG V L = true) (c : capsB L f = true) (hk : (k : Int) < V) : valX V L f k = gainOf L f k ∧ valE V L f k = 0 := by
  refine val_yes ?_
  simp [valB, h, c, isV, hk]

set_option maxHeartbeats 4000000 in
theorem StreamSums_walk (V : Int) (A : Option Addr) (n c : Nat) (L : List Lk) (Y : Option Addr) (q f0 : Nat) (f : List Int) (w : World) (h : InG w A n c L) (hY : In w Y q f0 f) :
    Calls Try.prog 14 #[.agg #[.int .i64 V, .slice A n c], .slice Y q f0] w (LawPost w) := by
  obtain ⟨hs, hnc, hc, hnil⟩ := h
  obtain ⟨hy, hqf, hf, hnily⟩ := hY
  have HR := Lib.hid hs
  have HY := Lib.hid hy
  have HR1 := Lib.hid (hs.grown (Nat.le_refl _) (grow0 w (.cells #[.int .i64 V, .slice A n c] 24)))
  have HY1 := Lib.hid (hy.grown (Nat.le_refl _) (grow0 w (.cells #[.int .i64 V, .slice A n c] 24)))
  clear hs hnil hy hnily
  go_enter Try.func14, Try.ntmps14
  go_wp2_with fail
  refine (Value_any V 0 A n c L Y q f0 f _ HR1.out (by simp) HY1.out (by simp)).mono ?_
  rintro e w1 ⟨he, g1⟩
  unfold valV at he
  subst he
  obtain ⟨g, ob⟩ := box1 [.int .i64 V, .slice A n c] g1
  have G := Lib.hid g
  have OB := Lib.hid ob
  clear g g1 ob HR1 HY1
  go_wp2_with fail
  refine (num_says _ _).mono ?_
  rintro e w2 ⟨rfl, k⟩
  have G := Lib.hid (grown_trans G.out k)
  have OB := Lib.hid (OB.out.kept k)
  clear k
  by_cases hz : valE V L f 0 = 0
  case neg =>
    have hb : (valE V L f 0 != 0) = true := by simp [hz]
    clear hz
    generalize valE V L f 0 = ve at *
    generalize valX V L f 0 = vx at *
    go_wp2
    go_ret
    exact ⟨rfl, below_of G.out⟩
  obtain ⟨hmay, hcap⟩ := val_parts hz
  have hV := may_small hmay
  rw [hz]
  clear hz
  generalize valX V L f 0 = vx at *
  obtain ⟨N, rfl⟩ : ∃ N : Nat, V = (N : Int) := ⟨V.toNat, by omega⟩
  have hN : N ≤ 8 := by omega
  have HB := Lib.hid (fun k => plus_bd hmay hcap k)
  have HV := Lib.hid (fun (k : Nat) (hk : k < N) => val_at hmay hcap (k := k) (by omega))
  have HEQ : Hid (plusK L f N = minusK L f N) := plus_minus hmay hcap
  have HGB := Lib.hid (fun k : Nat => gain_bd (k : Int) hmay hcap)
  obtain ⟨p0, p1⟩ := OB.out.two
  have HS : Hid (SuRel w N A n c L f N (.int .i64 0) (.int .i64 0) (.int .i64 0) w2) := ⟨0, Nat.zero_le _, rfl, rfl, rfl, G.out, OB.out⟩
  clear hV hmay hcap G OB p0 p1
  go_wp2
  go_loopw [7, 8, 9] (fun x y i wr => SuRel w N A n c L f N x y i wr) (fun _ _ i _ => N - (intOf i).toNat)
  case atStart => exact HS.out
  case round =>
    clear HS
    obtain ⟨k, hk, rfl, rfl, rfl, hg, ob⟩ := hrel
    have G := Lib.hid hg
    obtain ⟨c0, c1⟩ := ob.two
    have O := Lib.hid ob
    have hsz := hg.size
    clear hg ob
    by_cases hlt : k < N
    · have hb0 := HB.out k
      have hb1 := HB.out (k + 1)
      have hgb := HGB.out k
      have HYES := Lib.hid (plus_yes (L := L) (f := f) (k := k))
      have HNO := Lib.hid (plus_no (L := L) (f := f) (k := k))
      go_wp2_with fail
      refine (Value_any N k A n c L Y q f0 f _ (HR.out.grown (Nat.le_refl _) G.out) G.out.size (HY.out.grown (Nat.le_refl _) G.out) G.out.size).mono ?_
      rintro e w3 ⟨he, g3⟩
      unfold valV at he
      rw [(HV.out k hlt).1, (HV.out k hlt).2] at he
      subst he
      have G := Lib.hid (grown_trans G.out g3)
      have O := Lib.hid (O.out.kept g3)
      clear g3 c0 c1
      go_wp2_with fail
      refine (num_says _ _).mono ?_
      rintro e w4 ⟨rfl, g4⟩
      have G := Lib.hid (grown_trans G.out g4)
      have O := Lib.hid (O.out.kept g4)
      clear g4
      generalize hx : gainOf L f k = x at *
      clear hx
      by_cases hp : 0 < x
      · obtain ⟨e1, e2⟩ := HYES.out hp
        rw [e1, e2] at hb1
        have E1 := Lib.hid e1
        have E2 := Lib.hid e2
        clear e1 e2 HYES HNO
        generalize plusK L f k = P at *
        generalize minusK L f k = M at *
        have hw1 : IntKind.i64.wrap (4611686018427387904 - P) = 4611686018427387904 - P := IntWalk.i64_in _ (by omega)
        have hw2 : IntKind.i64.wrap (M - 4611686018427387904) = M - 4611686018427387904 := IntWalk.i64_in _ (by omega)
        have hw3 : IntKind.i64.wrap (P + x) = P + x := IntWalk.i64_in _ (by omega)
        have q1 : decide (4611686018427387904 - P < x) = false := by simp; omega
        have q2 : decide (x < M - 4611686018427387904) = false := by simp; omega
        have q3 : decide (0 < x) = true := by simp [hp]
        clear hb0 hb1 hgb
        go_wp2
        go_roundw
        case rel => exact ⟨k + 1, by omega, by rw [E1.out], by rw [E2.out], by go_num, G.out, O.out⟩
        case measure => simp [intOf]; omega
      · obtain ⟨e1, e2⟩ := HNO.out (by omega)
        rw [e1, e2] at hb1
        have E1 := Lib.hid e1
        have E2 := Lib.hid e2
        clear e1 e2 HYES HNO
        generalize plusK L f k = P at *
        generalize minusK L f k = M at *
        have hw1 : IntKind.i64.wrap (4611686018427387904 - P) = 4611686018427387904 - P := IntWalk.i64_in _ (by omega)
        have hw2 : IntKind.i64.wrap (M - 4611686018427387904) = M - 4611686018427387904 := IntWalk.i64_in _ (by omega)
        have hw3 : IntKind.i64.wrap (M - x) = M - x := IntWalk.i64_in _ (by omega)
        have q1 : decide (4611686018427387904 - P < x) = false := by simp; omega
        have q2 : decide (x < M - 4611686018427387904) = false := by simp; omega
        have q3 : decide (0 < x) = false := by simp; omega
        clear hb0 hb1 hgb
        go_wp2
        go_roundw
        case rel => exact ⟨k + 1, by omega, by rw [E1.out], by rw [E2.out], by go_num, G.out, O.out⟩
        case measure => simp [intOf]; omega
    · obtain rfl : k = N := by omega
      rw [HEQ.out]
      generalize minusK L f k = M at *
      have qq : (M == M) = true := by simp
      go_wp2_with fail
      refine (awake9_any _).mono ?_
      rintro e w3 ⟨rfl, g3⟩
      have G := Lib.hid (grown_trans G.out g3)
      clear g3
      go_wp2
      go_ret
      exact ⟨rfl, below_of G.out⟩

end Go.Proofs.Ytmodkhcfihlhgaa
