/-
  Rows of paths compared; rates together; whether paths are sound; meters in a row.
-/
import Derived.Test.YtodjehljnmfbpaaJC
import Derived.Test.YtodjehljnmfbpaaBundleA
set_option maxRecDepth 20000
namespace Go.Proofs.Ytodjehljnmfbpaa
open Go.RowKit

def SPRel (w : World) (n : Nat) (i : Value) (wr : World) : Prop := ∃ k : Nat, k ≤ n ∧ i = .int .i64 (k : Nat) ∧ w.grownBy wr none

def TogRel (w : World) (n : Nat) (ps : List Pth) (o i : Value) (wr : World) : Prop :=
  ∃ k : Nat, k ≤ n ∧ i = .int .i64 (k : Nat) ∧ w.grownBy wr none ∧ Mine wr w.heap.size o k (ratesOf (ps.take k))

theorem rates_app {ps : List Pth} {k : Nat} (h : k < ps.length) : ratesOf (ps.take (k + 1)) = ratesOf (ps.take k) ++ [rt ps k] := by
  rw [ptake_next h, ratesOf, List.map_append]
  rfl

theorem rates_ok {ps : List Pth} (h : ∀ i, bd64 (rt ps i)) (k : Nat) : okI (ratesOf (ps.take k)) := by
  intro i
  by_cases hi : i < (ratesOf (ps.take k)).length
  · have hi2 : i < (ps.take k).length := by simpa [ratesOf] using hi
    have hi3 : i < ps.length := by simp at hi2; omega
    rw [List.getElem?_eq_getElem hi]
    have := h i
    rw [rt, at2_eq hi3] at this
    simpa [ratesOf, bd64] using this
  · rw [List.getElem?_eq_none (by omega)]; simp

theorem zero_isV {V : Int} {L : List Lk} (h : mayG V L = true) : isV V 0 = true := by
  have := may_small h
  exact isV_yes (by omega) (by omega)

theorem walk_form_is {V : Int} {L : List Lk} (h : mayG V L = true) (xs : List Int) : (walkE V L 0 xs == 600) = !linksR L.length xs := by
  have e : formW V L 0 xs = linksR L.length xs := by
    rw [formW, h, zero_isV h, linksR]
    rfl
  rw [walkE, e]
  cases linksR L.length xs
  · rfl
  · cases chain L 0 xs <;> rfl

def SoundRel (w : World) (V : Int) (A : Option Addr) (n c m : Nat) (ps : List Pth) (i : Value) (wr : World) : Prop :=
  ∃ k : Nat, k ≤ m ∧ i = .int .i64 (k : Nat) ∧ w.grownBy wr none ∧ Own wr w.heap.size 24 [.int .i64 V, .slice A n c] ∧ soundL n (ps.take k) = true

theorem TotalAt_any (g i : Nat) (t : Int) (w : World) (hc : w.cell? ⟨g, i, none⟩ = some (.int .i64 t)) :
    Calls Try.prog 59 #[.pointer (some ⟨g, i, none⟩)] w fun e w' => e = .returned (.int .i64 t) ∧ w = w' := by
  go_enter Try.func59, Try.ntmps59
  go_wp2
  go_ret
  exact ⟨rfl, rfl⟩

def AddAtPost (w : World) (g i : Nat) (T : TypeId) (ms xs : List Int) (t : Int) (e : Ending) (w' : World) : Prop :=
  e = .returned (.bool (addB t xs)) ∧ Own w' g T (ints (ms.set i (addV t xs))) ∧ w.grownBy w' (some g)

theorem set_same (ms : List Int) (i : Nat) (hi : i < ms.length) : ms.set i (ms[i]?.getD 0) = ms := by simp [hi]

theorem MeterAddAt_any (g i : Nat) (T : TypeId) (ms : List Int) (A : Option Addr) (n c : Nat) (xs : List Int) (w : World) {B : Nat} (h : Row w B A n xs)
    (ho : Own w g T (ints ms)) (hi : i < ms.length) (h0 : 0 ≤ ms[i]?.getD 0) (h1 : ms[i]?.getD 0 ≤ 4611686018427387904) :
    Calls Try.prog 58 #[.pointer (some ⟨g, i, none⟩), .slice A n c] w (AddAtPost w g i T ms xs (ms[i]?.getD 0)) := by
  have hc : w.cell? ⟨g, i, none⟩ = some (.int .i64 (ms[i]?.getD 0)) := by rw [ho.cell i, ints_get ms i hi]
  have hf : w.frozen? ⟨g, i, none⟩ = false := ho.frozen i
  have hg := ho.lt
  have HO := Lib.hid ho
  have HR := Lib.hid h
  have hb := sumV_bd xs
  have HSM := Lib.hid (set_same ms i hi)
  clear ho h hi
  generalize ms[i]?.getD 0 = t at *
  cases hs : sumB xs with
  | false =>
    have HS := Lib.hid hs
    clear hs
    go_enter Try.func58, Try.ntmps58
    go_wp2_with fail
    refine (Sum_any A n c xs _ HR.out).mono ?_
    rintro e w' ⟨rfl, rfl⟩
    rw [HS.out]
    go_wp2
    go_ret
    have := add_none t xs h0 h1 HS.out
    refine ⟨ret_bool this.2, by rw [this.1, HSM.out]; exact HO.out, World.grownBy.refl _ _⟩
  | true =>
    have HS := Lib.hid hs
    clear hs
    have hadd := Lib.hid (add_some t xs h0 h1 HS.out)
    have HRow := Lib.hid (Row.two (w := w) t (sumV xs) (by omega) (by omega))
    go_enter Try.func58, Try.ntmps58
    go_wp2_with fail
    refine (Sum_any A n c xs _ HR.out).mono ?_
    rintro e w' ⟨rfl, rfl⟩
    rw [HS.out]
    go_wp2_with fail
    refine (Sum_any _ 2 2 [t, sumV xs] _ HRow.out).mono ?_
    rintro e w' ⟨rfl, rfl⟩
    cases hs2 : sumB [t, sumV xs] with
    | false =>
      go_wp2
      go_ret
      have := hadd.out.2 hs2
      exact ⟨ret_bool this.2, by rw [this.1, HSM.out]; exact HO.out.alloc _, World.grownBy_alloc _ _ _⟩
    | true =>
      go_wp2
      go_ret
      have := hadd.out.1 hs2
      exact ⟨ret_bool this.2, by rw [this.1, ← ints_set]; exact (HO.out.setAt _ _).alloc _, grown_alloc (grown_set (World.grownBy.refl _ _) _) _⟩

end Go.Proofs.Ytodjehljnmfbpaa
