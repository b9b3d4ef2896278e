/-
  Contracts of the methods of Meter and Gauge.
-/
import Derived.Test.YtlpohlcmjnlbhaaRate
import Derived.Test.YtlpohlcmjnlbhaaInts
set_option maxRecDepth 20000
namespace Go.Proofs.Ytlpohlcmjnlbhaa
open Go.RowKit

theorem Total_any (g : Nat) (t : Int) (w : World) (hc : w.cell? ⟨g, 0, none⟩ = some (.int .i64 t)) :
    Calls Try.prog 60 #[.pointer (some ⟨g, 0, none⟩)] w fun e w' => e = .returned (.int .i64 t) ∧ w = w' := by
  go_enter Try.func60, Try.ntmps60
  go_wp2
  go_ret
  exact ⟨rfl, rfl⟩

def AddPost (w : World) (g : Nat) (T : TypeId) (t : Int) (rest : List Value) (xs : List Int) (e : Ending) (w' : World) : Prop :=
  e = .returned (.bool (addB t xs)) ∧ Own w' g T (.int .i64 (addV t xs) :: rest) ∧ w.grownBy w' (some g)

theorem MeterAdd_any (g : Nat) (T : TypeId) (t : Int) (rest : List Value) (A : Option Addr) (n c : Nat) (xs : List Int) (w : World) {B : Nat} (h : Row w B A n xs)
    (ho : Own w g T (.int .i64 t :: rest)) (h0 : 0 ≤ t) (h1 : t ≤ 4611686018427387904) :
    Calls Try.prog 59 #[.pointer (some ⟨g, 0, none⟩), .slice A n c] w (AddPost w g T t rest xs) := by
  have hc : w.cell? ⟨g, 0, none⟩ = some (.int .i64 t) := ho.cell 0
  have hf : w.frozen? ⟨g, 0, none⟩ = false := ho.frozen 0
  have hg := ho.lt
  have HO := Lib.hid ho
  have HR := Lib.hid h
  have hb := sumV_bd xs
  clear ho h
  cases hs : sumB xs with
  | false =>
    have HS := Lib.hid hs
    clear hs
    go_enter Try.func59, Try.ntmps59
    go_wp2_with fail
    refine (Sum_any A n c xs _ HR.out).mono ?_
    rintro e w' ⟨rfl, rfl⟩
    rw [HS.out]
    go_wp2
    go_ret
    have := add_none t xs h0 h1 HS.out
    refine ⟨ret_bool this.2, by rw [this.1]; exact HO.out, World.grownBy.refl _ _⟩
  | true =>
    have HS := Lib.hid hs
    clear hs
    have hadd := Lib.hid (add_some t xs h0 h1 HS.out)
    have HRow := Lib.hid (Row.two (w := w) t (sumV xs) (by omega) (by omega))
    go_enter Try.func59, Try.ntmps59
    go_wp2_with fail
    refine (Sum_any A n c xs _ HR.out).mono ?_
    rintro e w' ⟨rfl, rfl⟩
    rw [HS.out]
    go_wp2_with fail
    refine (Sum_any _ 2 2 [t, sumV xs] _ HRow.out).mono ?_
    rintro e w' ⟨rfl, rfl⟩
    cases hs2 : sumB [t, sumV xs] with
    | false =>
      go_wp2
      go_ret
      have := hadd.out.2 hs2
      exact ⟨ret_bool this.2, by rw [this.1]; exact HO.out.alloc _, World.grownBy_alloc _ _ _⟩
    | true =>
      go_wp2
      go_ret
      have := hadd.out.1 hs2
      exact ⟨ret_bool this.2, by rw [this.1]; exact HO.out.set0.alloc _, grown_alloc (grown_set (World.grownBy.refl _ _) _) _⟩

def RoomPost (top t : Int) (w : World) (e : Ending) (w' : World) : Prop := e = .returned (.int .i64 (roomOf top t)) ∧ ∃ n, w' = w.drewN n

def OwnPost (w : World) (g : Nat) (T : TypeId) (top t : Int) (xs : List Int) (e : Ending) (w' : World) : Prop :=
  e = .returned (.bool (ownB top t xs)) ∧ Own w' g T [.int .i64 (ownV top t xs), .int .i64 top] ∧ w.grownBy w' (some g)

end Go.Proofs.Ytlpohlcmjnlbhaa
