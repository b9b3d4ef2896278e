/-
  begin, Row; the reference's Tail, Head, Row.
-/
import Derived.Test.YtppcncblmakekaaGraphLawB
import Derived.Test.YtppcncblmakekaaMathArcs
set_option maxRecDepth 20000
namespace Go.Proofs.Ytppcncblmakekaa
open Go.RowKit

def BegPost (w : World) (xs : List Int) (e : Ending) (w' : World) : Prop :=
  ∃ v, e = .returned v ∧ Mine w' w.heap.size v xs.length xs ∧ w.grownBy w' none

def BegRel (w : World) (V : Int) (A : Option Addr) (n c : Nat) (ls : List Lk) (x : Int) (o i : Value) (wr : World) : Prop :=
  ∃ k : Nat, k ≤ n ∧ i = .int .i64 (k : Nat) ∧ w.grownBy wr none ∧ Own wr w.heap.size 24 [.int .i64 V, .slice A n c] ∧ Mine wr (w.heap.size + 1) o (rowA ls x (2 * k)).length (rowA ls x (2 * k))

set_option maxHeartbeats 1000000 in
theorem begin_any (V x : Int) (A : Option Addr) (n c : Nat) (ls : List Lk) (w : World) {B : Nat} (h : Lks w B A n ls) (hn : n ≤ 16) :
    Calls Try.prog 56 #[.agg #[.int .i64 V, .slice A n c], .int .i64 x] w (BegPost w (rowA ls x (2 * n))) := by
  have HR := Lib.hid h
  have HS : Hid (BegRel w V A n c ls x (.slice none 0 0) (.int .i64 0) (w.alloc (.cells #[.int .i64 V, .slice A n c] 24))) :=
    ⟨0, Nat.zero_le _, rfl, grow0 _ _, Own.new w 24 [.int .i64 V, .slice A n c], Mine.nil _ _⟩
  clear h
  go_enter Try.func56, Try.ntmps56
  go_wp2
  go_loopw [5, 11] (fun o i wr => BegRel w V A n c ls x o i wr) (fun _ i _ => n - (intOf i).toNat)
  case atStart => exact HS.out
  case round =>
    clear HS
    obtain ⟨k, hk, rfl, hg, o2, hmine⟩ := hrel
    have G := Lib.hid hg
    have hsz := hg.size
    have l2 := o2.lt
    by_cases hlt : k < n
    · obtain ⟨b, off, hA, hb, hcell⟩ := HR.out.cells (by omega)
      subst hA
      obtain ⟨d0, d1, d2⟩ := hcell k hlt
      have d0 := kept hg d0
      have d1 := kept hg d1
      have d2 := kept hg d2
      have HP := Lib.hid (row_pair ls x k)
      have hl := row_len ls x (2 * k)
      obtain ⟨c0, c1⟩ := o2.two
      have O2 := Lib.hid o2
      have HM := Lib.hid hmine
      clear hcell hg o2 hmine
      generalize at3 ls k = l at *
      obtain ⟨p, t, cp⟩ := l
      simp only at d0 d1 d2
      by_cases hp : p = x
      · subst hp
        have hpp : (p == p) = true := by simp
        have HM1 := Lib.hid ((HM.out.kept (grow0 _ (.cells #[.int .i64 p, .int .i64 t, .int .i64 cp] 57))).kept (grow0 _ (.cells #[.int .i64 (2 * (k : Int))] 3)))
        have HROW := Lib.hid (Row.newAt (w := wr.alloc (.cells #[.int .i64 p, .int .i64 t, .int .i64 cp] 57)) (g := wr.heap.size + 1) (n := 1) (vs := #[.int .i64 (2 * (k : Int))]) [2 * (k : Int)] (by simp) rfl rfl (by simp) (by simp; omega))
        go_wp2_with (first | (at_builtin; refine wpList_app _ rfl _ _ rfl (w.heap.size + 1) _ _ _ rfl HM1.out _ 1 1 [2 * (k : Int)] rfl HROW.out (by simp) (by omega) (by simp; omega) ?_))
        intro v1 w3 hm1 hg3 _
        have G3 := Lib.hid (grown_none (grown_alloc (grown_alloc G.out (.cells #[.int .i64 p, .int .i64 t, .int .i64 cp] 57)) (.cells #[.int .i64 (2 * (k : Int))] 3)) hg3 (fun g hg => by have := HM.out.own_ge g hg; omega))
        have O3 := Lib.hid (Own.kept' ((O2.out.alloc (.cells #[.int .i64 p, .int .i64 t, .int .i64 cp] 57)).alloc (.cells #[.int .i64 (2 * (k : Int))] 3)) hg3 HM.out.apart)
        have OL := Lib.hid (Own.kept' ((Own.new wr 57 [.int .i64 p, .int .i64 t, .int .i64 cp]).alloc (.cells #[.int .i64 (2 * (k : Int))] 3)) hg3 (fun e => by have := HM.out.own_lt _ e; omega))
        have HM3 := Lib.hid hm1
        have s3 := G3.out.size
        have l3 := O3.out.lt
        have l4 := OL.out.lt
        obtain ⟨e0, e1, e2⟩ := OL.out.three
        clear hm1 hg3 HM HM1 HROW c0 c1 d0 d1 d2
        by_cases ht : t = p
        · subst ht
          have HM4 := Lib.hid (HM3.out.kept (grow0 _ (.cells #[.int .i64 (2 * (k : Int) + 1)] 3)))
          have HROW := Lib.hid (Row.newAt (w := w3) (g := w3.heap.size) (n := 1) (vs := #[.int .i64 (2 * (k : Int) + 1)]) [2 * (k : Int) + 1] rfl rfl rfl (by simp) (by simp; omega))
          go_wp2_with (first | (at_builtin; refine wpList_app _ rfl _ _ rfl (w.heap.size + 1) _ _ _ rfl HM4.out _ 1 1 [2 * (k : Int) + 1] rfl HROW.out (by simp) (by omega) (by simp; omega) ?_))
          intro v2 w4 hm2 hg4 _
          have G4 := Lib.hid (grown_none (grown_alloc G3.out (.cells #[.int .i64 (2 * (k : Int) + 1)] 3)) hg4 (fun g hg => by have := HM3.out.own_ge g hg; omega))
          have O4 := Lib.hid (Own.kept' (O3.out.alloc (.cells #[.int .i64 (2 * (k : Int) + 1)] 3)) hg4 HM3.out.apart)
          have HM5 := Lib.hid hm2
          clear hm2 hg4 HM3 HM4 HROW
          go_wp2
          go_roundw
          case rel => exact ⟨k + 1, by omega, by go_num, G4.out, O4.out, by rw [HP.out]; simpa using HM5.out⟩
          case measure => simp [intOf]; omega
        · have htt : (t == p) = false := by simp [ht]
          go_wp2
          go_roundw
          case rel => exact ⟨k + 1, by omega, by go_num, G3.out, O3.out, by rw [HP.out]; simpa [ht] using HM3.out⟩
          case measure => simp [intOf]; omega
      · have hpp : (p == x) = false := by simp [hp]
        by_cases ht : t = x
        · subst ht
          have htt : (t == t) = true := by simp
          have HM1 := Lib.hid ((HM.out.kept (grow0 _ (.cells #[.int .i64 p, .int .i64 t, .int .i64 cp] 57))).kept (grow0 _ (.cells #[.int .i64 (2 * (k : Int) + 1)] 3)))
          have HROW := Lib.hid (Row.newAt (w := wr.alloc (.cells #[.int .i64 p, .int .i64 t, .int .i64 cp] 57)) (g := wr.heap.size + 1) (n := 1) (vs := #[.int .i64 (2 * (k : Int) + 1)]) [2 * (k : Int) + 1] (by simp) rfl rfl (by simp) (by simp; omega))
          go_wp2_with (first | (at_builtin; refine wpList_app _ rfl _ _ rfl (w.heap.size + 1) _ _ _ rfl HM1.out _ 1 1 [2 * (k : Int) + 1] rfl HROW.out (by simp) (by omega) (by simp; omega) ?_))
          intro v1 w3 hm1 hg3 _
          have G3 := Lib.hid (grown_none (grown_alloc (grown_alloc G.out (.cells #[.int .i64 p, .int .i64 t, .int .i64 cp] 57)) (.cells #[.int .i64 (2 * (k : Int) + 1)] 3)) hg3 (fun g hg => by have := HM.out.own_ge g hg; omega))
          have O3 := Lib.hid (Own.kept' ((O2.out.alloc (.cells #[.int .i64 p, .int .i64 t, .int .i64 cp] 57)).alloc (.cells #[.int .i64 (2 * (k : Int) + 1)] 3)) hg3 HM.out.apart)
          have HM3 := Lib.hid hm1
          clear hm1 hg3
          go_wp2
          go_roundw
          case rel => exact ⟨k + 1, by omega, by go_num, G3.out, O3.out, by rw [HP.out]; simpa [hp] using HM3.out⟩
          case measure => simp [intOf]; omega
        · have htt : (t == x) = false := by simp [ht]
          go_wp2
          go_roundw
          case rel => exact ⟨k + 1, by omega, by go_num, grown_alloc G.out _, O2.out.alloc _, by rw [HP.out]; simpa [hp, ht] using HM.out.kept (grow0 _ _)⟩
          case measure => simp [intOf]; omega
    · obtain rfl : k = n := by omega
      have HM := Lib.hid hmine
      clear hmine hg o2
      go_wp2
      go_ret
      exact ⟨_, rfl, HM.out.wide (by omega), G.out⟩

end Go.Proofs.Ytppcncblmakekaa
