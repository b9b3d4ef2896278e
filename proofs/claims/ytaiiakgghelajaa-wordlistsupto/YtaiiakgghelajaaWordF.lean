/-
  The reference's Get: the same answers.
-/
import Derived.Test.YtaiiakgghelajaaWordE
namespace Go.Proofs.Ytaiiakgghelajaa
open Go.RowKit

theorem rest_take (s : ByteArray) (q m i : Nat) (hi : i < m) (h : q + 1 + i < s.size) : (restOf (bsOf s) q m).take (i + 1) = (restOf (bsOf s) q m).take i ++ [s[q + 1 + i]] := by
  have hl : i < (restOf (bsOf s) q m).length := by
    have := bsOf_len s
    simp [restOf]; omega
  rw [List.take_succ_eq_append_getElem hl]
  congr 2
  have h2 := bsOf_get s (q + 1 + i) h
  have h3 : (restOf (bsOf s) q m)[i]? = (bsOf s)[q + 1 + i]? := by rw [restOf, List.getElem?_take_of_lt hi, List.getElem?_drop]
  rw [← h2, ← h3, List.getElem?_eq_getElem hl]
  rfl

theorem rest_len (s : ByteArray) (q m : Nat) (h : m ≤ s.size - (q + 1)) : (restOf (bsOf s) q m).length = m := by
  have := bsOf_len s
  simp [restOf]; omega

theorem rest_first (s : ByteArray) (q m : Nat) (hm : 0 < m) (h : q + 1 < s.size) : (restOf (bsOf s) q m)[0]?.getD 0 = s[q + 1] := by
  rw [restOf, List.getElem?_take_of_lt hm, List.getElem?_drop]
  exact bsOf_get s (q + 1) h

theorem not_ok_big (l : List UInt8) (k : Nat) (h : 4611686018427387904 < valW (l.take k)) : readOk l = false := by
  have := valW_take_le l k
  unfold readOk
  have e : decide (valW l ≤ 4611686018427387904) = false := by simp; omega
  rw [e, Bool.and_false]

def RefGetRel (m : Nat) (rs : List UInt8) (x i : Value) : Prop :=
  ∃ k : Nat, k ≤ m ∧ i = .int .i64 (k : Nat) ∧ x = .int .i64 (valW (rs.take k) : Nat) ∧ valW (rs.take k) ≤ 4611686018427387904

theorem RefGet_any (s : ByteArray) (p : Int) (w : World) (hs : s.size ≤ 9223372036854775807) :
    Calls Try.prog 16 #[.string s, .int .i64 p] w (Says w (GetV (bsOf s) p)) := by
  have hl := bsOf_len s
  go_enter Try.func16, Try.ntmps16
  by_cases h1 : p < 0
  · rw [GetV_out _ p (by omega)]
    go_wp2
    go_ret3
    exact ⟨rfl, World.grownBy.refl _ _⟩
  · by_cases h2 : (s.size : Int) < p
    · rw [GetV_out _ p (by omega)]
      go_wp2
      go_ret3
      exact ⟨rfl, World.grownBy.refl _ _⟩
    · obtain ⟨q, rfl⟩ : ∃ q : Nat, p = (q : Int) := ⟨p.toNat, by omega⟩
      by_cases h3 : q = s.size
      · subst h3
        rw [← hl, GetV_end, hl]
        have h4 : (((s.size : Nat) : Int) == ((s.size : Nat) : Int)) = true := by simp
        go_wp2
        go_ret3
        exact ⟨rfl, World.grownBy.refl _ _⟩
      · have hq : q < s.size := by omega
        have h4 : (((q : Nat) : Int) == ((s.size : Nat) : Int)) = false := by simp; omega
        have hm := congrArg UInt8.toNat (bsOf_get s q hq)
        have HV := Lib.hid (GetV_at (bsOf s) q _ (by omega) hm)
        have hb := s[q].toNat_lt
        clear hm
        generalize hm : s[q].toNat = m at *
        by_cases a1 : 8 < m
        · have hv := HV.out
          rw [if_pos a1] at hv
          rw [hv]
          clear hv HV
          have a1' : (8 : Int) < (m : Int) := by omega
          go_wp2
          go_ret3
          exact ⟨rfl, World.grownBy.refl _ _⟩
        · by_cases a2 : s.size - (q + 1) < m
          · have hv := HV.out
            rw [if_neg a1, if_pos (by omega)] at hv
            rw [hv]
            clear hv HV
            have a2' : (s.size : Int) - (q : Int) - 1 < (m : Int) := by omega
            go_wp2
            go_ret3
            exact ⟨rfl, World.grownBy.refl _ _⟩
          · have hv := HV.out
            rw [if_neg a1, if_neg (by omega)] at hv
            have HV2 := Lib.hid hv
            clear hv HV
            have hrl := rest_len s q m (by omega)
            by_cases a3 : 0 < m
            · have hf := rest_first s q m a3 (by omega)
              have hq1 : q + 1 < s.size := by omega
              by_cases a4 : s[q + 1].toNat = 0
              · have e : readOk (restOf (bsOf s) q m) = false := by
                  unfold readOk
                  rw [hrl, hf, a4]
                  simp [a3]
                have hv := HV2.out
                rw [e, if_neg (by decide)] at hv
                rw [hv]
                clear hv HV2 hf e
                have a4' : (((s[q + 1].toNat : Nat) : Int) == 0) = true := by simp [a4]
                go_wp2
                go_ret3
                exact ⟨rfl, World.grownBy.refl _ _⟩
              · have e : readOk (restOf (bsOf s) q m) = decide (valW (restOf (bsOf s) q m) ≤ 4611686018427387904) := by
                  unfold readOk
                  rw [hrl, hf]
                  simp [a4]
                have HOK := Lib.hid e
                have HST := Lib.hid (rest_take s q m)
                have HBIG := Lib.hid (not_ok_big (restOf (bsOf s) q m))
                have a4' : (((s[q + 1].toNat : Nat) : Int) == 0) = false := by simp; omega
                clear hf e
                generalize restOf (bsOf s) q m = rs at *
                go_wp2
                go_loop [8, 9] (fun x i => RefGetRel m rs x i) (fun _ i => m - (intOf i).toNat)
                case atStart => exact ⟨0, Nat.zero_le _, rfl, rfl, by simp [valW]⟩
                case round =>
                  obtain ⟨k, hk, rfl, rfl, hx⟩ := hrel
                  by_cases hlt : k < m
                  · have hin : q + 1 + k < s.size := by omega
                    have HS := Lib.hid ((congrArg valW (HST.out k hlt hin)).trans (valW_app _ _))
                    have hd := s[q + 1 + k].toNat_lt
                    generalize valW (rs.take k) = x at *
                    by_cases a5 : (4611686018427387904 - ((s[q + 1 + k].toNat : Nat) : Int)) / 256 < (x : Int)
                    · have hno := HBIG.out (k + 1) (by rw [HS.out]; omega)
                      have hv := HV2.out
                      rw [hno, if_neg (by decide)] at hv
                      have HVF := Lib.hid hv
                      clear hv HV2 hno
                      go_wp2
                      go_ret3
                      exact ⟨by rw [HVF.out]; rfl, World.grownBy.refl _ _⟩
                    · go_wp2
                      go_round
                      case rel => exact ⟨k + 1, by omega, by go_num, by rw [HS.out]; simp, by rw [HS.out]; omega⟩
                      case measure => simp [intOf]; omega
                  · have hx2 : rs.take k = rs := List.take_of_length_le (by omega)
                    rw [hx2] at hx ⊢
                    have hv := HV2.out
                    rw [HOK.out, if_pos (by simpa using hx)] at hv
                    have HVF := Lib.hid hv
                    obtain rfl : k = m := by omega
                    clear hv HV2 hx2
                    go_wp2
                    go_ret3
                    exact ⟨by rw [HVF.out]; rfl, World.grownBy.refl _ _⟩
            · obtain rfl : m = 0 := by omega
              have e : restOf (bsOf s) q 0 = [] := List.eq_nil_of_length_eq_zero hrl
              have hv := HV2.out
              rw [e, if_pos (by decide)] at hv
              have HVF := Lib.hid hv
              clear hv HV2 hrl e
              go_wp2
              go_loop [8, 9] (fun x i => x = .int .i64 0 ∧ i = .int .i64 0) (fun _ _ => 0)
              case atStart => exact ⟨rfl, rfl⟩
              case round =>
                obtain ⟨rfl, rfl⟩ := hrel
                go_wp2
                go_ret3
                exact ⟨by rw [HVF.out]; rfl, World.grownBy.refl _ _⟩

end Go.Proofs.Ytaiiakgghelajaa
