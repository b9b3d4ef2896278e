/-
  Contracts of NewGauge and of the Gauge's own Add and Room, over the seat's translation.
-/
import Derived.Test.YtccahhfeibnchaaConC
namespace Go.Proofs.Ytccahhfeibnchaa
open Go.RowKit

set_option maxHeartbeats 400000 in
theorem NewGauge_any (m : Int) (w : World) (_hm : -9223372036854775808 ≤ m ∧ m ≤ 9223372036854775807) :
    Calls Try.prog 20 #[.int .i64 m] w fun e w' => e = .returned (.pointer (some ⟨w.heap.size, 0, none⟩)) ∧ w.alloc (.cells #[.int .i64 0, .int .i64 (topOf m)] 43) = w' := by
  by_cases h0 : m < 0
  · have e : topOf m = 0 := by rw [topOf, if_pos h0]
    rw [e]
    go_enter Try.func20, Try.ntmps20
    go_wp2
    go_ret
    exact ⟨rfl, rfl⟩
  · by_cases h1 : 4611686018427387904 < m
    · have e : topOf m = 4611686018427387904 := by rw [topOf, if_neg h0, if_pos h1]
      rw [e]
      go_enter Try.func20, Try.ntmps20
      go_wp2
      go_ret
      exact ⟨rfl, rfl⟩
    · have e : topOf m = m := by rw [topOf, if_neg h0, if_neg h1]
      rw [e]
      go_enter Try.func20, Try.ntmps20
      go_wp2
      go_ret
      exact ⟨rfl, rfl⟩

theorem Row.one {w : World} (x : Int) (hx : -9223372036854775808 ≤ x ∧ x ≤ 9223372036854775807) :
    Row (w.alloc (.cells #[.int .i64 x] 3)) (w.heap.size + 1) (some ⟨w.heap.size, 0, none⟩) 1 [x] := by
  refine ⟨rfl, by omega, fun i => ?_, fun _ => ⟨w.heap.size, 0, rfl, by omega, fun i hi => ?_⟩⟩
  · rcases i with _ | i <;> simp <;> omega
  · have h := (Own.new w 3 [.int .i64 x]).cell i
    rw [Nat.zero_add]
    refine h.trans ?_
    rcases i with _ | i
    · rfl
    · omega

def RoomPost (top t : Int) (w : World) (e : Ending) (w' : World) : Prop := e = .returned (.int .i64 (roomOf top t)) ∧ ∃ n, w' = w.drewN n

set_option maxHeartbeats 400000 in
theorem Room_any (g : Nat) (t top : Int) (w : World) (hc : w.cell? ⟨g, 0, none⟩ = some (.int .i64 t)) (hd : w.cell? ⟨g, 1, none⟩ = some (.int .i64 top))
    (h0 : 0 ≤ t) (h1 : t ≤ 4611686018427387904) (h2 : 0 ≤ top) (h3 : top ≤ 4611686018427387904) :
    Calls Try.prog 22 #[.pointer (some ⟨g, 0, none⟩)] w (RoomPost top t w) := by
  by_cases hlt : top < t
  · go_enter Try.func22, Try.ntmps22
    go_wp2
    go_quiet ((go_at_call 19; exact quiet_left (Total_any g t _ (by go_simp))))
    go_wp2
    go_ret
    exact ⟨ret_int (by rw [roomOf, if_pos hlt]), _, rfl⟩
  · go_enter Try.func22, Try.ntmps22
    go_wp2
    go_quiet ((go_at_call 19; exact quiet_left (Total_any g t _ (by go_simp))))
    go_wp2
    have hw : IntKind.i64.wrap (top - t) = top - t := IntWalk.i64_in _ (by omega)
    go_quiet ((go_at_call 19; exact quiet_more (Total_any g t _ (by go_simp))))
    clear hw
    go_wp2
    go_ret
    exact ⟨ret_int (by rw [roomOf, if_neg (by omega)]), _, World.drewN_drewN _ _ _⟩

theorem grown_drewN {a w : World} {row : Option Nat} (h : a.grownBy w row) (n : Nat) : a.grownBy (w.drewN n) row := ⟨h.os, h.tape, h.output, h.size, h.block⟩
theorem Row.drewN {w : World} {B : Nat} {A : Option Addr} {n : Nat} {xs : List Int} (h : Row w B A n xs) (k : Nat) : Row (w.drewN k) B A n xs := h.keep fun _ _ => rfl

theorem grown_trans {a b c : World} {row : Option Nat} (h : a.grownBy b row) (k : b.grownBy c row) : a.grownBy c row :=
  ⟨k.os.trans h.os, k.tape.trans h.tape, k.output.trans h.output, Nat.le_trans h.size k.size, fun i hi hne => (k.block i (Nat.lt_of_lt_of_le hi h.size) hne).trans (h.block i hi hne)⟩

def OwnPost (w : World) (g : Nat) (T : TypeId) (top t : Int) (xs : List Int) (e : Ending) (w' : World) : Prop :=
  e = .returned (.bool (ownB top t xs)) ∧ Own w' g T [.int .i64 (ownV top t xs), .int .i64 top] ∧ w.grownBy w' (some g)

set_option maxHeartbeats 400000 in
theorem GaugeAdd_any (g : Nat) (T : TypeId) (t top : Int) (A : Option Addr) (n c : Nat) (xs : List Int) (w : World) {B : Nat} (h : Row w B A n xs)
    (ho : Own w g T [.int .i64 t, .int .i64 top]) (h0 : 0 ≤ t) (h1 : t ≤ 4611686018427387904) (h2 : 0 ≤ top) (h3 : top ≤ 4611686018427387904) :
    Calls Try.prog 21 #[.pointer (some ⟨g, 0, none⟩), .slice A n c] w (OwnPost w g T top t xs) := by
  have hc : w.cell? ⟨g, 0, none⟩ = some (.int .i64 t) := ho.cell 0
  have hd : w.cell? ⟨g, 1, none⟩ = some (.int .i64 top) := ho.cell 1
  have hg := ho.lt
  have HO := Lib.hid ho
  have HR := Lib.hid h
  have hb := sumV_bd xs
  clear ho h
  cases hs : sumB xs with
  | false =>
    have HS := Lib.hid hs
    clear hs
    have hno := Lib.hid (own_no top t xs h0 h1 (.inl HS.out))
    go_enter Try.func21, Try.ntmps21
    go_wp2_with fail
    refine (Sum_any A n c xs _ HR.out).mono ?_
    rintro e w' ⟨rfl, rfl⟩
    rw [HS.out]
    go_wp2
    go_quiet (fail)
    go_wp2
    go_ret
    exact ⟨ret_bool hno.out.1, by rw [hno.out.2]; exact HO.out, grown_drewN (World.grownBy.refl _ _) _⟩
  | true =>
    have HS := Lib.hid hs
    clear hs
    by_cases hlt : top - t < sumV xs
    · have hno := Lib.hid (own_no top t xs h0 h1 (.inr hlt))
      go_enter Try.func21, Try.ntmps21
      go_wp2_with fail
      refine (Sum_any A n c xs _ HR.out).mono ?_
      rintro e w' ⟨rfl, rfl⟩
      rw [HS.out]
      go_wp2
      have hw : IntKind.i64.wrap (top - t) = top - t := IntWalk.i64_in _ (by omega)
      go_quiet ((go_at_call 19; exact quiet_left (Total_any g t _ (by go_simp))))
      clear hw
      go_wp2
      go_ret
      exact ⟨ret_bool hno.out.1, by rw [hno.out.2]; exact HO.out, grown_drewN (World.grownBy.refl _ _) _⟩
    · have hyes := Lib.hid (own_yes top t xs h0 h1 h3 HS.out (by omega))
      go_enter Try.func21, Try.ntmps21
      go_wp2_with fail
      refine (Sum_any A n c xs _ HR.out).mono ?_
      rintro e w' ⟨rfl, rfl⟩
      rw [HS.out]
      go_wp2
      have hw : IntKind.i64.wrap (top - t) = top - t := IntWalk.i64_in _ (by omega)
      go_quiet ((go_at_call 19; exact quiet_left (Total_any g t _ (by go_simp))))
      clear hw
      have HRow := Lib.hid (Row.one (w := w.drewN nq) (sumV xs) (by omega))
      go_wp2_with fail
      refine (MeterAdd_any g T t [.int .i64 top] _ 1 1 [sumV xs] _ HRow.out (HO.out.alloc _) h0 h1).mono ?_
      rintro e w' ⟨rfl, ho', hg'⟩
      rw [hyes.out.2.2]
      have HO' := Lib.hid ho'
      have HG' := Lib.hid hg'
      clear ho' hg'
      go_wp2
      go_ret
      exact ⟨ret_bool hyes.out.1, by rw [hyes.out.2.1]; exact HO'.out, grown_trans (grown_alloc (grown_drewN (World.grownBy.refl _ _) nq) _) HG'.out⟩

end Go.Proofs.Ytccahhfeibnchaa
