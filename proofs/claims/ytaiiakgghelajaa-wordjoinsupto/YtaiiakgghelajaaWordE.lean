/-
  word.Get: what stands at a place.
-/
import Derived.Test.YtaiiakgghelajaaWordD
namespace Go.Proofs.Ytaiiakgghelajaa
open Go.RowKit

def restOf (l : List UInt8) (q m : Nat) : List UInt8 := (l.drop (q + 1)).take m

theorem got_at (l : List UInt8) (q m : Nat) (hq : q < l.length) (hm : (l[q]?.getD 0).toNat = m) :
    getV (l.drop q) = if 8 < m then (0, 0, 300) else if l.length - q - 1 < m then (0, 0, 301) else if readOk (restOf l q m) = true then ((valW (restOf l q m) : Int), 1 + m, 0) else (0, 0, 300) := by
  have h0 : (l.drop q)[0]?.getD 0 = l[q]?.getD 0 := by rw [List.getElem?_drop, Nat.add_zero]
  have h1 : (l.drop q)[1]?.getD 0 = l[q + 1]?.getD 0 := by rw [List.getElem?_drop]
  have h2 : (l.drop q).drop 1 = l.drop (q + 1) := by rw [List.drop_drop]
  have h3 : (l.drop q).length = l.length - q := List.length_drop ..
  unfold getV
  rw [h0, h1, h2, h3, hm]
  rw [if_neg (by omega)]
  by_cases a1 : 8 < m
  · rw [if_pos a1, if_pos a1]
  · rw [if_neg a1, if_neg a1]
    by_cases a2 : l.length - q - 1 < m
    · rw [if_pos a2, if_pos a2]
    · rw [if_neg a2, if_neg a2]
      have hl : (restOf l q m).length = m := by simp [restOf]; omega
      have hz : 0 < m → (restOf l q m)[0]?.getD 0 = l[q + 1]?.getD 0 := by
        intro hp
        rw [restOf, List.getElem?_take_of_lt hp, List.getElem?_drop, Nat.add_zero]
      show (if _ then _ else if 4611686018427387904 < valW (restOf l q m) then _ else (((valW (restOf l q m) : Nat) : Int), _, _)) = _
      by_cases a3 : 0 < m ∧ (l[q + 1]?.getD 0).toNat = 0
      · rw [if_pos a3, if_neg]
        unfold readOk
        rw [hl, hz a3.1, a3.2]
        simp [a3.1]
      · rw [if_neg a3]
        have e : readOk (restOf l q m) = decide (valW (restOf l q m) ≤ 4611686018427387904) := by
          unfold readOk
          rw [hl]
          rcases Nat.eq_zero_or_pos m with z | z
          · simp [z]
          · rw [hz z]
            have : ¬ (l[q + 1]?.getD 0).toNat = 0 := fun h => a3 ⟨z, h⟩
            simp [this]
        rw [e]
        by_cases a4 : 4611686018427387904 < valW (restOf l q m)
        · rw [if_pos a4, if_neg (by simp; omega)]
        · rw [if_neg a4, if_pos (by simp; omega)]

def atX (l : List UInt8) (p : Int) : Int := if p < 0 ∨ (l.length : Int) < p then 0 else gotX (l.drop p.toNat)
def atE (l : List UInt8) (p : Int) : Int := if p < 0 ∨ (l.length : Int) < p then 300 else gotE (l.drop p.toNat)
def atN (l : List UInt8) (p : Int) : Int := if p < 0 ∨ (l.length : Int) < p then 0 else if gotE (l.drop p.toNat) = 0 then p + gotK (l.drop p.toNat) else 0

def GetV (l : List UInt8) (p : Int) : Value := .tuple #[.int .i64 (atX l p), .int .i64 (atN l p), .int .i64 (atE l p)]

theorem GetV_out (l : List UInt8) (p : Int) (h : p < 0 ∨ (l.length : Int) < p) : GetV l p = .tuple #[.int .i64 0, .int .i64 0, .int .i64 300] := by
  unfold GetV atX atN atE
  rw [if_pos h, if_pos h, if_pos h]

theorem GetV_in (l : List UInt8) (q : Nat) (h : q ≤ l.length) : GetV l (q : Int) = .tuple #[.int .i64 (gotX (l.drop q)), .int .i64 (if gotE (l.drop q) = 0 then (q : Int) + gotK (l.drop q) else 0), .int .i64 (gotE (l.drop q))] := by
  unfold GetV atX atN atE
  have : ¬ ((q : Int) < 0 ∨ (l.length : Int) < (q : Int)) := by omega
  rw [if_neg this, if_neg this, if_neg this, Int.toNat_natCast]

theorem GetV_end (l : List UInt8) : GetV l (l.length : Int) = .tuple #[.int .i64 0, .int .i64 0, .int .i64 301] := by
  rw [GetV_in l l.length (Nat.le_refl _), List.drop_length]
  rfl

theorem GetV_at (l : List UInt8) (q m : Nat) (hq : q < l.length) (hm : (l[q]?.getD 0).toNat = m) :
    GetV l (q : Int) = if 8 < m then .tuple #[.int .i64 0, .int .i64 0, .int .i64 300] else if l.length - q - 1 < m then .tuple #[.int .i64 0, .int .i64 0, .int .i64 301]
      else if readOk (restOf l q m) = true then .tuple #[.int .i64 (valW (restOf l q m) : Int), .int .i64 ((q : Int) + 1 + m), .int .i64 0] else .tuple #[.int .i64 0, .int .i64 0, .int .i64 300] := by
  rw [GetV_in l q (by omega)]
  unfold gotX gotE gotK
  rw [got_at l q m hq hm]
  repeat' split
  all_goals simp_all [Int.add_assoc]

theorem bsOf_extract (s : ByteArray) (a b : Nat) : bsOf (s.extract a b) = ((bsOf s).drop a).take (b - a) := by
  unfold bsOf
  rw [ByteArray.data_extract, Array.toList_extract]

theorem bsOf_rest (s : ByteArray) (q m : Nat) : bsOf ((s.extract (q + 1) s.size).extract 0 m) = restOf (bsOf s) q m := by
  rw [bsOf_extract, bsOf_extract]
  unfold restOf
  rw [List.drop_zero, Nat.sub_zero]
  congr 1
  exact List.take_of_length_le (by rw [List.length_drop, bsOf_len]; omega)

theorem Get_any (s : ByteArray) (p : Int) (w : World) (hs : s.size ≤ 9223372036854775807) :
    Calls Try.prog 15 #[.string s, .int .i64 p] w (Says w (GetV (bsOf s) p)) := by
  have hl := bsOf_len s
  go_enter Try.func15, Try.ntmps15
  by_cases h1 : p < 0
  · rw [GetV_out _ p (by omega)]
    go_wp2
    go_ret3
    exact ⟨rfl, World.grownBy.refl _ _⟩
  · by_cases h2 : (s.size : Int) < p
    · rw [GetV_out _ p (by omega)]
      go_wp2
      go_ret3
      exact ⟨rfl, World.grownBy.refl _ _⟩
    · obtain ⟨q, rfl⟩ : ∃ q : Nat, p = (q : Int) := ⟨p.toNat, by omega⟩
      by_cases h3 : q = s.size
      · subst h3
        rw [← hl, GetV_end, hl]
        have h4 : (((s.size : Nat) : Int) == ((s.size : Nat) : Int)) = true := by simp
        go_wp2
        go_ret3
        exact ⟨rfl, World.grownBy.refl _ _⟩
      · have hq : q < s.size := by omega
        have h4 : (((q : Nat) : Int) == ((s.size : Nat) : Int)) = false := by simp; omega
        have hm := congrArg UInt8.toNat (bsOf_get s q hq)
        have HV := Lib.hid (GetV_at (bsOf s) q _ (by omega) hm)
        have hb := s[q].toNat_lt
        have HRS := Lib.hid (bsOf_rest s q s[q].toNat)
        clear hm
        generalize hm : s[q].toNat = m at *
        by_cases a1 : 8 < m
        · have hv := HV.out
          rw [if_pos a1] at hv
          rw [hv]
          clear hv HV
          have a1' : (8 : Int) < (m : Int) := by omega
          go_wp2
          go_quiet (fail)
          go_wp2
          go_ret3
          exact ⟨rfl, grown_drewN (World.grownBy.refl _ _) _⟩
        · by_cases a2 : s.size - (q + 1) < m
          · have hv := HV.out
            rw [if_neg a1, if_pos (by omega)] at hv
            rw [hv]
            clear hv HV
            go_wp2
            go_quiet (fail)
            go_wp2
            go_ret3
            exact ⟨rfl, grown_drewN (World.grownBy.refl _ _) _⟩
          · have hv := HV.out
            rw [if_neg a1, if_neg (by omega)] at hv
            have HV2 := Lib.hid hv
            have hsz : ((s.extract (q + 1) s.size).extract 0 m).size ≤ 8 := by simp; omega
            clear hv HV
            go_wp2
            go_quiet (fail)
            go_wp2_with fail
            refine (readRate_any _ _ hsz).mono ?_
            rintro e w1 ⟨rfl, rfl⟩
            rw [HRS.out]
            have HX : Hid (readX (restOf (bsOf s) q m) = if readOk (restOf (bsOf s) q m) = true then (valW (restOf (bsOf s) q m) : Int) else 0) := rfl
            generalize restOf (bsOf s) q m = rs at *
            cases hr : readOk rs
            · have hv := HV2.out
              rw [hr, if_neg (by decide)] at hv
              have HVF := Lib.hid hv
              clear hv HV2
              go_wp2
              go_ret3
              exact ⟨by rw [HVF.out]; rfl, grown_drewN (World.grownBy.refl _ _) _⟩
            · have hv := HV2.out
              rw [hr, if_pos rfl] at hv
              have hx := HX.out
              rw [hr, if_pos rfl] at hx
              rw [hx]
              have HVF := Lib.hid hv
              clear hv HV2 hx
              go_wp2
              go_ret3
              exact ⟨by rw [HVF.out]; rfl, grown_drewN (World.grownBy.refl _ _) _⟩

end Go.Proofs.Ytaiiakgghelajaa
