/-
  (*block.pusher).flow, walked.
-/
import Derived.Test.YtlpohlcmjnlbhaaPushA
set_option maxRecDepth 20000
namespace Go.Proofs.Ytlpohlcmjnlbhaa
open Go.RowKit

def FlowPost (w : World) (xs : List Int) (e : Ending) (w' : World) : Prop :=
  ∃ v, e = .returned v ∧ Mine w' w.heap.size v xs.length xs ∧ w.grownBy w' none

def FlowRel (w : World) (m : Nat) (R : List Int) (o i : Value) (wr : World) : Prop :=
  ∃ k : Nat, k ≤ m ∧ i = .int .i64 (k : Nat) ∧ w.grownBy wr none ∧ Mine wr w.heap.size o (k / 2) (bOf R (k / 2))

theorem bOf_next (R : List Int) (k : Nat) : bOf R (k + 1) = bOf R k ++ [rAt R (2 * k + 1)] := by simp [bOf, List.range_succ]

set_option maxRecDepth 20000 in
set_option maxHeartbeats 1000000 in
theorem flow_any (q n rc : Nat) (t : Int) (hs os : Value) (rA : Option Addr) (R : List Int) (w : World) {B : Nat} (hq : Own w q 97 [.int .i64 t, hs, .slice rA (2 * n) rc, os]) (hr : Row w B rA (2 * n) R) (hn : n ≤ 16) :
    Calls Try.prog 70 #[.pointer (some ⟨q, 0, none⟩)] w (FlowPost w (bOf R n)) := by
  obtain ⟨c0, c1, c2, c3⟩ := hq.four
  have HR := Lib.hid hr
  clear hq hr c0 c1 c3
  obtain ⟨m, hm⟩ : ∃ m, 2 * n = m := ⟨_, rfl⟩
  have HM := Lib.hid hm
  rw [hm] at c2 HR
  have hm1 : m ≤ 32 := by omega
  clear hm hn
  have HS : Hid (FlowRel w m R (.slice none 0 0) (.int .i64 0) w) := ⟨0, Nat.zero_le _, rfl, World.grownBy.refl w _, Mine.nil _ _⟩
  go_enter Try.func70, Try.ntmps70
  go_wp2
  go_loopw [3, 11] (fun o i wr => FlowRel w m R o i wr) (fun _ i _ => m - (intOf i).toNat)
  case atStart => exact HS.out
  case round =>
    clear HS
    obtain ⟨k, hk, rfl, hg, hmine⟩ := hrel
    have G := Lib.hid hg
    have HM1 := Lib.hid hmine
    have hsz := hg.size
    clear hg hmine
    by_cases hlt : k < m
    · obtain ⟨b, off, rfl, hb, hcell⟩ := HR.out.at_ (by omega)
      have d0 := kept G.out (hcell k hlt)
      have D0 : Hid (R[k]?.getD 0 = rAt R k) := rfl
      have okk := HR.out.ok k
      clear hcell
      generalize R[k]?.getD 0 = x at *
      rcases Nat.mod_two_eq_zero_or_one k with e | e
      · have hmod : ((k : Nat) : Int).tmod 2 = 0 := by rw [Int.tmod_eq_emod_of_nonneg (by omega)]; omega
        have HD : Hid ((k + 1) / 2 = k / 2) := by rw [Hid]; omega
        clear e
        go_wp2
        go_roundw
        case rel => exact ⟨k + 1, by omega, by go_num, G.out, by rw [HD.out]; exact HM1.out⟩
        case measure => simp [intOf]; omega
      · have hmod : ((k : Nat) : Int).tmod 2 = 1 := by rw [Int.tmod_eq_emod_of_nonneg (by omega)]; omega
        have HD : Hid ((k + 1) / 2 = k / 2 + 1) := by rw [Hid]; omega
        have HB : Hid (bOf R (k / 2 + 1) = bOf R (k / 2) ++ [x]) := by rw [Hid, bOf_next, show 2 * (k / 2) + 1 = k by omega, ← D0.out]
        have h2 : k / 2 ≤ 16 := by omega
        clear e
        generalize hh : k / 2 = kh at *
        clear hh
        have HM2 := Lib.hid (HM1.out.kept (grow0 _ (.cells #[.int .i64 x] 3)))
        have HROW := Lib.hid (Row.newAt (w := wr) (g := wr.heap.size) (n := 1) (vs := #[.int .i64 x]) [x] (by simp) rfl rfl (by simp) (by simp; omega))
        go_wp2_with (first | (at_builtin; refine wpList_app _ rfl _ _ rfl w.heap.size _ _ _ rfl HM2.out _ 1 1 [x] rfl HROW.out (by simp) (by omega) (by simp; omega) ?_))
        intro v1 w3 hm1 hg3 _
        have G3 := Lib.hid (grown_none (grown_alloc G.out (.cells #[.int .i64 x] 3)) hg3 (fun g hg => HM1.out.own_ge g hg))
        have HM3 := Lib.hid hm1
        clear hm1 hg3
        go_wp2
        go_roundw
        case rel => exact ⟨k + 1, by omega, by go_num, G3.out, by rw [HD.out, HB.out]; exact HM3.out⟩
        case measure => simp [intOf]; omega
    · obtain rfl : k = m := by omega
      have HN : Hid (k / 2 = n) := by rw [Hid, ← HM.out]; omega
      go_wp2
      go_ret
      have hf := HM1.out
      rw [HN.out] at hf
      exact ⟨_, rfl, by rw [bOf_len]; exact hf, G.out⟩

end Go.Proofs.Ytlpohlcmjnlbhaa
