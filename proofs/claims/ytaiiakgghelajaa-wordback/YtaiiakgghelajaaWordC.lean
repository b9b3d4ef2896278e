/-
  The reference's Put: the same bytes, laid from behind.
-/
import Derived.Test.YtaiiakgghelajaaWordB
namespace Go.Proofs.Ytaiiakgghelajaa
open Go.RowKit

theorem RefRate_any (x : Int) (w : World) : Calls Try.prog 22 #[.int .i64 x] w fun e w' => e = .returned (.bool (rateB x)) ∧ w' = w := by
  go_enter Try.func22, Try.ntmps22
  by_cases h1 : 0 ≤ x
  · go_wp2
    go_ret
    exact ⟨ret_bool (by simp [rateB, h1]), rfl⟩
  · go_wp2
    go_ret
    exact ⟨ret_bool (by simp [rateB]; omega), rfl⟩

def OneRel (w : World) (m : Nat) (o x : Value) (wr : World) : Prop :=
  ∃ j : Nat, j ≤ bsize m ∧ x = .int .i64 ((m / 256 ^ j : Nat) : Int) ∧ o = .string ⟨(bytesOf j m).toArray⟩ ∧ w.grownBy wr none

def RefPutRel (w : World) (n : Nat) (xs : List Int) (o i : Value) (wr : World) : Prop :=
  ∃ k : Nat, k ≤ n ∧ i = .int .i64 (k : Nat) ∧ (xs.take k).all rateB = true ∧ o = .string ⟨(encAll (xs.take k)).toArray⟩ ∧ w.grownBy wr none

theorem div_next (m j : Nat) : m / 256 ^ j / 256 = m / 256 ^ (j + 1) := by rw [Nat.div_div_eq_div_mul, Nat.pow_succ]

theorem div_pos_iff (m j : Nat) (hm : m < 18446744073709551616) (hj : j ≤ bsize m) : 0 < m / 256 ^ j ↔ j < bsize m := by
  obtain ⟨h1, h2⟩ := bsize_bd m hm
  constructor
  · intro h
    rcases Nat.lt_or_ge j (bsize m) with k | k
    · exact k
    · have : j = bsize m := by omega
      subst this
      rw [Nat.div_eq_of_lt h1] at h
      omega
  · intro h
    have hz : m ≠ 0 := by intro e; subst e; rw [bsize_zero] at h; omega
    obtain ⟨_, h4⟩ := h2 hz
    have : 256 ^ j ≤ 256 ^ (bsize m - 1) := Nat.pow_le_pow_right (by decide) (by omega)
    exact Nat.div_pos (by omega) (Nat.pow_pos (by decide))

theorem RefPut_any (A : Option Addr) (n c : Nat) (xs : List Int) (w : World) {B : Nat} (h : Row w B A n xs) (hB : B ≤ w.heap.size) (hn : 9 * n + 9 ≤ 200000000000000) :
    Calls Try.prog 11 #[.slice A n c] w (Says w (.tuple #[.string ⟨(putL xs).toArray⟩, .int .i64 (putE xs)])) := by
  have hlen := h.len
  have HR := Lib.hid h
  clear h
  go_enter Try.func11, Try.ntmps11
  have HS : Hid (RefPutRel w n xs (.string ⟨#[]⟩) (.int .i64 0) w) := ⟨0, Nat.zero_le _, rfl, by simp, by simp [encAll], World.grownBy.refl _ _⟩
  go_wp2
  go_loopw [4, 5] (fun o i wr => RefPutRel w n xs o i wr) (fun _ i _ => n - (intOf i).toNat)
  case atStart => exact HS.out
  case round =>
    clear HS
    obtain ⟨k, hk, rfl, hall, rfl, hg⟩ := hrel
    have HP := Lib.hid hall
    have HG := Lib.hid hg
    have hsz := hg.size
    clear hall hg
    by_cases hlt : k < n
    · obtain ⟨b, off, rfl, hb, hcell⟩ := HR.out.at_ (by omega)
      have c0 := (grown_cell HG.out (p := ⟨b, off + k, none⟩) (by show b < _; omega) (by simp)).trans (hcell k hlt)
      have HN := Lib.hid (all_no xs k (by omega))
      have HT := Lib.hid (all_step xs k (by omega) HP.out)
      have HE := Lib.hid (fun m => enc_step xs k m (by omega))
      have hel := (encAll_len (xs.take k)).1
      have hkl : (xs.take k).length = k := by simp; omega
      have hL : (encAll (xs.take k)).length + 9 ≤ 200000000000000 := by omega
      have HPK := Lib.hid (HR.out.ok k)
      clear hcell hel hkl
      generalize xs[k]?.getD 0 = p at *
      generalize encAll (xs.take k) = ek at *
      go_wp2_with fail
      refine (RefRate_any p wr).mono ?_
      rintro e w1 ⟨rfl, rfl⟩
      cases hr : rateB p
      · have HN2 := Lib.hid (HN.out hr)
        clear HN HT HE hr
        go_wp2
        go_ret2
        exact ⟨by simp [putL, putE, HN2.out], HG.out⟩
      · obtain ⟨hp0, hp1⟩ := (rateB_iff p).1 hr
        obtain ⟨m, rfl⟩ : ∃ m : Nat, p = (m : Int) := ⟨p.toNat, by omega⟩
        have HT2 := Lib.hid (HT.out hr)
        have HE2 := Lib.hid (HE.out m rfl)
        clear HT HE HN hr
        have hm64 : m < 18446744073709551616 := by omega
        have hb8 := bsize_le m
        have HS1 : Hid (OneRel w m (.string ⟨#[]⟩) (.int .i64 (m : Int)) w1) := ⟨0, Nat.zero_le _, by simp, by simp [bytesOf], HG.out⟩
        go_wp2
        go_loopw [6, 7] (fun o x w2 => OneRel w m o x w2) (fun _ x _ => (intOf x).toNat)
        case atStart => exact HS1.out
        case round =>
          clear HS1 c0
          obtain ⟨j, hj, rfl, rfl, hg2⟩ := hrel
          have HG2 := Lib.hid hg2
          clear hg2
          have hpos := div_pos_iff m j hm64 hj
          by_cases hjl : j < bsize m
          · have hq := hpos.2 hjl
            have HB : Hid (bytesOf (j + 1) m = UInt8.ofNat (m / 256 ^ j % 256) :: bytesOf j m) := rfl
            have HN := Lib.hid (div_next m j)
            have hbl := bytesOf_len j m
            have hqm : m / 256 ^ j ≤ m := Nat.div_le_self _ _
            clear hpos
            generalize bytesOf j m = bj at *
            generalize m / 256 ^ j = q at *
            have HC : Hid ((q : Int) % 256 = ((UInt8.ofNat (q % 256)).toNat : Int)) := by
              rw [toNat_ofNat, Nat.mod_mod]
              show _ = _
              simp
            have hconv : (convert 43 9 (.slice (some ⟨wr.heap.size, 0, none⟩) 1 1)).run Try.prog (wr.alloc (.cells #[.int .u8 ((q : Int) % 256)] 5)) = .ok (.string ⟨#[UInt8.ofNat (q % 256)]⟩) (wr.alloc (.cells #[.int .u8 ((q : Int) % 256)] 5)) := by
              refine run_text1 _ _ _ _ ?_
              rw [← HC.out]
              exact (Own.new wr 5 [.int .u8 ((q : Int) % 256)]).cell 0
            go_wp2
            go_roundw
            case rel =>
              refine ⟨j + 1, hjl, by rw [← HN.out]; simp, ?_, grown_alloc HG2.out _⟩
              rw [HB.out]
              exact congrArg Value.string (ByteArray.mk_append_mk [_] bj)
            case measure => simp [intOf]; omega
          · obtain rfl : j = bsize m := by omega
            have hq : m / 256 ^ bsize m = 0 := by
              rcases Nat.eq_zero_or_pos (m / 256 ^ bsize m) with e | e
              · exact e
              · exact absurd (hpos.1 e) hjl
            rw [hq]
            have HB : Hid (encW m = UInt8.ofNat (bsize m) :: bytesOf (bsize m) m) := rfl
            have hbl := bytesOf_len (bsize m) m
            clear hpos hq
            generalize bytesOf (bsize m) m = bj at *
            have hconv : (convert 43 9 (.slice (some ⟨wr.heap.size, 0, none⟩) 1 1)).run Try.prog (wr.alloc (.cells #[.int .u8 ((bsize m : Nat) : Int)] 5)) = .ok (.string ⟨#[UInt8.ofNat (bsize m)]⟩) (wr.alloc (.cells #[.int .u8 ((bsize m : Nat) : Int)] 5)) := by
              refine run_text1 _ _ _ _ ?_
              rw [toNat_ofNat, Nat.mod_eq_of_lt (by omega)]
              exact (Own.new wr 5 [.int .u8 ((bsize m : Nat) : Int)]).cell 0
            go_wp2
            go_roundw
            case rel =>
              refine ⟨k + 1, by omega, by go_num, HT2.out, ?_, grown_alloc HG2.out _⟩
              rw [HE2.out, HB.out]
              have e1 := ByteArray.mk_append_mk ek [UInt8.ofNat (bsize m)]
              have e2 := ByteArray.mk_append_mk (ek ++ [UInt8.ofNat (bsize m)]) bj
              rw [← e1, List.append_assoc] at e2
              exact congrArg Value.string e2
            case measure => simp [intOf]; omega
    · obtain rfl : k = n := by omega
      have hx : xs.take k = xs := List.take_of_length_le (by omega)
      have hp := HP.out
      rw [hx] at hp ⊢
      have HP2 := Lib.hid hp
      clear hp HP
      go_wp2
      go_ret2
      exact ⟨by simp [putL, putE, HP2.out], HG.out⟩

end Go.Proofs.Ytaiiakgghelajaa
