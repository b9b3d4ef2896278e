/-
  word.Get, word.List: what was put is read. And the reference's.
-/
import Derived.Test.YtaiiakgghelajaaWordA
namespace Go.Proofs.Ytaiiakgghelajaa
open Go.RowKit

def bsOf (s : ByteArray) : List UInt8 := s.data.toList

theorem bsOf_len (s : ByteArray) : (bsOf s).length = s.size := rfl

theorem bsOf_get (s : ByteArray) (k : Nat) (h : k < s.size) : (bsOf s)[k]?.getD 0 = s[k] := by
  have h2 : k < (bsOf s).length := h
  rw [List.getElem?_eq_getElem h2]
  rfl

theorem bsOf_take (s : ByteArray) (k : Nat) (h : k < s.size) : (bsOf s).take (k + 1) = (bsOf s).take k ++ [s[k]] := by
  have h2 : k < (bsOf s).length := h
  rw [List.take_succ_eq_append_getElem h2]
  rfl

theorem toList_nil (s : ByteArray) (h : s.size = 0) : s.toList = [] := by
  rw [ByteArray.toList_eq]
  exact List.eq_nil_of_length_eq_zero h

theorem toList_some (s : ByteArray) (h : ¬ s.size = 0) : ¬ s.toList = [] := by
  rw [ByteArray.toList_eq]
  intro e
  apply h
  show s.data.toList.length = 0
  rw [e]
  rfl

theorem isEmpty_of {α : Type} {l : List α} (h : ¬ l = []) : l.isEmpty = false := by
  cases l
  · exact absurd rfl h
  · rfl

/-- Bytes that are one number's: their number, or none. -/
def readOk (l : List UInt8) : Bool := !(decide (0 < l.length) && decide ((l[0]?.getD 0).toNat = 0)) && decide (valW l ≤ 4611686018427387904)

def readX (l : List UInt8) : Int := if readOk l = true then (valW l : Int) else 0

def ReadRel (s : ByteArray) (x i : Value) : Prop := ∃ k : Nat, k ≤ s.size ∧ i = .int .i64 (k : Nat) ∧ x = .int .u64 (valW ((bsOf s).take k) : Nat)

theorem readRate_any (s : ByteArray) (w : World) (hs : s.size ≤ 8) :
    Calls Try.prog 23 #[.string s] w fun e w' => e = .returned (.tuple #[.int .i64 (readX (bsOf s)), .bool (readOk (bsOf s))]) ∧ w' = w := by
  go_enter Try.func23, Try.ntmps23
  have hl := bsOf_len s
  by_cases h0 : s.size = 0
  · have e1 := toList_nil s h0
    have e3 : bsOf s = [] := List.eq_nil_of_length_eq_zero (hl.trans h0)
    rw [e3]
    clear hl e3
    go_wp2
    go_loop [4, 15] (fun x i => x = .int .u64 0 ∧ i = .int .i64 0) (fun _ _ => 0)
    case atStart => exact ⟨rfl, rfl⟩
    case round =>
      obtain ⟨rfl, rfl⟩ := hrel
      go_wp2
      go_ret2
      exact ⟨rfl, rfl⟩
  · have e1 := toList_some s h0
    have e2 := isEmpty_of e1
    have hpos : 0 < s.size := by omega
    have hget := bsOf_get s 0 hpos
    by_cases hz : s[0].toNat = 0
    · have hz2 : (((s[0].toNat : Nat) : Int) == 0) = true := by simp [hz]
      have e4 : readOk (bsOf s) = false := by unfold readOk; rw [hget]; simp [hl, hpos, hz]
      have e5 : readX (bsOf s) = 0 := by simp [readX, e4]
      rw [e4, e5]
      clear hget e4 e5
      go_wp2
      go_ret2
      exact ⟨rfl, rfl⟩
    · have hz2 : (((s[0].toNat : Nat) : Int) == 0) = false := by simp; omega
      have e4 : readOk (bsOf s) = decide (valW (bsOf s) ≤ 4611686018427387904) := by unfold readOk; rw [hget]; simp [hz]
      have HX : Hid (readX (bsOf s) = if valW (bsOf s) ≤ 4611686018427387904 then (valW (bsOf s) : Int) else 0) := by unfold readX; rw [e4]; show _ = _; simp
      have HO := Lib.hid e4
      clear hget e4
      go_wp2
      go_loop [4, 15] (fun x i => ReadRel s x i) (fun _ i => s.size - (intOf i).toNat)
      case atStart => exact ⟨0, Nat.zero_le _, rfl, rfl⟩
      case round =>
        obtain ⟨k, hk, rfl, rfl⟩ := hrel
        by_cases hlt : k < s.size
        · have hv := valW_lt ((bsOf s).take k)
          have hkl : ((bsOf s).take k).length = k := by simp; omega
          rw [hkl] at hv
          have hp : 256 ^ k ≤ 256 ^ 7 := Nat.pow_le_pow_right (by decide) (by omega)
          have hv2 : valW ((bsOf s).take k) < 72057594037927936 := by omega
          have HS := Lib.hid ((congrArg valW (bsOf_take s k hlt)).trans (valW_app _ _))
          have hb := s[k].toNat_lt
          clear hv hkl hp
          generalize valW ((bsOf s).take k) = x at *
          have hor : bits .or .u64 ((x : Int) * 256) (s[k].toNat : Int) = ((256 * x + s[k].toNat : Nat) : Int) := by
            have h1 := u64_or_nat (x * 256) s[k].toNat (by omega) (by omega)
            rw [nat_join 8 (x * 256) s[k].toNat (by omega) (by omega)] at h1
            rw [Nat.mul_comm 256]
            simpa using h1
          go_wp2
          go_round
          case rel => exact ⟨k + 1, by omega, by go_num, by rw [HS.out]; simp⟩
          case measure => simp [intOf]; omega
        · have hx : (bsOf s).take k = bsOf s := List.take_of_length_le (by omega)
          rw [hx]
          clear hx
          generalize valW (bsOf s) = x at *
          by_cases hle : x ≤ 4611686018427387904
          · go_wp2
            go_ret2
            exact ⟨by rw [HX.out, HO.out]; simp [hle], rfl⟩
          · go_wp2
            go_ret2
            exact ⟨by rw [HX.out, HO.out]; simp [hle], rfl⟩

end Go.Proofs.Ytaiiakgghelajaa
