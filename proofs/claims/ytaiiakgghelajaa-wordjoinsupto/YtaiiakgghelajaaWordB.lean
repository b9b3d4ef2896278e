/-
  word.Put and the reference's Put: the bytes of all numbers, one behind the other.
-/
import Derived.Test.YtaiiakgghelajaaWordA
namespace Go.Proofs.Ytaiiakgghelajaa
open Go.RowKit

theorem take_step (xs : List Int) (k : Nat) (h : k < xs.length) : xs.take (k + 1) = xs.take k ++ [xs[k]?.getD 0] := by
  rw [List.take_add_one, List.getElem?_eq_getElem h]
  rfl

theorem all_step (xs : List Int) (k : Nat) (h : k < xs.length) (h1 : (xs.take k).all rateB = true) (h2 : rateB (xs[k]?.getD 0) = true) : (xs.take (k + 1)).all rateB = true := by
  rw [take_step xs k h, List.all_append, h1]
  simp [h2]

theorem all_no (xs : List Int) (k : Nat) (h : k < xs.length) (h2 : rateB (xs[k]?.getD 0) = false) : xs.all rateB = false := by
  rw [List.all_eq_false]
  refine ⟨xs[k], List.getElem_mem h, ?_⟩
  rw [List.getElem?_eq_getElem h] at h2
  simpa using h2

theorem enc_step (xs : List Int) (k m : Nat) (h : k < xs.length) (h1 : xs[k]?.getD 0 = (m : Int)) : encAll (xs.take (k + 1)) = encAll (xs.take k) ++ encW m := by
  rw [take_step xs k h, encAll_app, encAll_one, h1]
  rfl

def PutRel (w : World) (n : Nat) (xs : List Int) (o i : Value) (wr : World) : Prop :=
  ∃ k : Nat, k ≤ n ∧ i = .int .i64 (k : Nat) ∧ (xs.take k).all rateB = true ∧ MineE byteE wr w.heap.size o (encAll (xs.take k)).length (encAll (xs.take k)) ∧ w.grownBy wr none

theorem Put_any (A : Option Addr) (n c : Nat) (xs : List Int) (w : World) {B : Nat} (h : Row w B A n xs) (hB : B ≤ w.heap.size) (hn : 9 * n + 9 ≤ 200000000000000) :
    Calls Try.prog 10 #[.slice A n c] w (Says w (.tuple #[.string ⟨(putL xs).toArray⟩, .int .i64 (putE xs)])) := by
  have hlen := h.len
  have HR := Lib.hid h
  clear h
  go_enter Try.func10, Try.ntmps10
  have HS : Hid (PutRel w n xs (.slice none 0 0) (.int .i64 0) w) := ⟨0, Nat.zero_le _, rfl, by simp, by simpa [encAll] using MineE.nil byteE w w.heap.size, World.grownBy.refl _ _⟩
  go_wp2
  go_loopw [4, 9] (fun o i wr => PutRel w n xs o i wr) (fun _ i _ => n - (intOf i).toNat)
  case atStart => exact HS.out
  case round =>
    clear HS
    obtain ⟨k, hk, rfl, hall, hmine, hg⟩ := hrel
    have HM := Lib.hid hmine
    have HP := Lib.hid hall
    have HG := Lib.hid hg
    have hsz := hg.size
    clear hmine hall hg
    by_cases hlt : k < n
    · obtain ⟨b, off, rfl, hb, hcell⟩ := HR.out.at_ (by omega)
      have c0 := (grown_cell HG.out (p := ⟨b, off + k, none⟩) (by show b < _; omega) (by simp)).trans (hcell k hlt)
      have HN := Lib.hid (all_no xs k (by omega))
      have HT := Lib.hid (all_step xs k (by omega) HP.out)
      have HE := Lib.hid (fun m => enc_step xs k m (by omega))
      have hel := (encAll_len (xs.take k)).1
      have hkl : (xs.take k).length = k := by simp; omega
      have HL : Hid ((encAll (xs.take k)).length + 9 ≤ 200000000000000) := by
        show _ ≤ _
        omega
      clear hcell hel hkl
      generalize xs[k]?.getD 0 = p at *
      by_cases h1 : p < 0
      · go_wp2
        go_ret2
        have e := HN.out (by simp [rateB]; omega)
        exact ⟨by simp [putL, putE, e], HG.out⟩
      · by_cases h2 : 4611686018427387904 < p
        · go_wp2
          go_ret2
          have e := HN.out (by simp [rateB]; omega)
          exact ⟨by simp [putL, putE, e], HG.out⟩
        · obtain ⟨m, rfl⟩ : ∃ m : Nat, p = (m : Int) := ⟨p.toNat, by omega⟩
          have HT2 := Lib.hid (HT.out (by simp [rateB]; omega))
          have HE2 := Lib.hid (HE.out m rfl)
          clear HT HE HN
          go_wp2_with fail
          refine (appendRate_any m u4 _ _ wr HM.out hsz (by omega) HL.out).mono ?_
          rintro e w1 ⟨v1, rfl, hm1, hg1, ha1⟩
          have HR2 : Hid (PutRel w n xs v1 (.int .i64 ((k + 1 : Nat) : Int)) w1) := by
            refine ⟨k + 1, by omega, rfl, HT2.out, ?_, ?_⟩
            · rw [HE2.out]
              have e : (encAll (xs.take k) ++ encW m).length = (encAll (xs.take k)).length + 1 + bsize m := by rw [List.length_append, enc_len]; omega
              rw [e]
              exact hm1
            · exact grown_none HG.out hg1 (fun g hg => HM.out.own_ge g hg)
          clear hm1 hg1 ha1 HM HP HG HE2 HT2 c0
          go_wp2
          go_roundw
          case rel => exact HR2.out
          case measure => simp [intOf]; omega
    · obtain rfl : k = n := by omega
      have hx : xs.take k = xs := List.take_of_length_le (by omega)
      have hm := HM.out
      have hp := HP.out
      rw [hx] at hm hp
      have hconv := run_text wr w.heap.size u4 _ _ hm
      have HP2 := Lib.hid hp
      clear hm hp hx HM HP
      go_wp2
      go_ret2
      exact ⟨by simp [putL, putE, HP2.out], HG.out⟩

end Go.Proofs.Ytaiiakgghelajaa
