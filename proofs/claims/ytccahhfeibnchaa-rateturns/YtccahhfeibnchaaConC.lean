/-
  Contracts of the methods of Meter and Gauge, over the seat's translation.
-/
import Derived.Test.YtccahhfeibnchaaConB
import Derived.Laws.Rows
import Derived.Laws.OwnMore
import Derived.Deep.Draws
import Derived.Deep.QuietTactic
import Derived.BigQuiet
namespace Go.Proofs.Ytccahhfeibnchaa
open Go.RowKit

theorem Row.keep {w w' : World} {B : Nat} {A : Option Addr} {n : Nat} {xs : List Int} (h : Row w B A n xs) (k : ∀ p : Addr, p.block < B → w'.cell? p = w.cell? p) : Row w' B A n xs :=
  ⟨h.len, h.small, h.ok, fun hn => by
    obtain ⟨b, off, hA, hb, hc⟩ := h.at_ hn
    exact ⟨b, off, hA, hb, fun i hi => (k _ hb).trans (hc i hi)⟩⟩
theorem Row.wide {w : World} {B B' : Nat} {A : Option Addr} {n : Nat} {xs : List Int} (h : Row w B A n xs) (k : B ≤ B') : Row w B' A n xs :=
  ⟨h.len, h.small, h.ok, fun hn => by
    obtain ⟨b, off, hA, hb, hc⟩ := h.at_ hn
    exact ⟨b, off, hA, by omega, hc⟩⟩

/-- Block g is just these cells, none of them frozen. -/
def Own (w : World) (g : Nat) (T : TypeId) (vs : List Value) : Prop := w.heap[g]? = some (.cells vs.toArray T (0, 0))
theorem Own.lt {w : World} {g : Nat} {T : TypeId} {vs : List Value} (h : Own w g T vs) : g < w.heap.size := by
  unfold Own at h
  exact (Array.getElem?_eq_some_iff.1 h).1
theorem Own.cell {w : World} {g : Nat} {T : TypeId} {vs : List Value} (h : Own w g T vs) (i : Nat) : w.cell? ⟨g, i, none⟩ = vs[i]? := by
  have := cell_of_row w g i vs.toArray T (0, 0) h
  simpa using this
theorem Own.frozen {w : World} {g : Nat} {T : TypeId} {vs : List Value} (h : Own w g T vs) (i : Nat) : w.frozen? ⟨g, i, none⟩ = false := by
  unfold Own at h
  simp [World.frozen?, h]
theorem Own.keep {w w' : World} {g : Nat} {T : TypeId} {vs : List Value} (h : Own w g T vs) (k : w'.heap[g]? = w.heap[g]?) : Own w' g T vs := k.trans h
theorem Own.alloc {w : World} {g : Nat} {T : TypeId} {vs : List Value} (h : Own w g T vs) (o : Obj) : Own (w.alloc o) g T vs := h.keep (Below.heap_alloc w o g h.lt)
theorem Own.new (w : World) (T : TypeId) (vs : List Value) : Own (w.alloc (.cells vs.toArray T)) w.heap.size T vs := by
  unfold Own
  show (w.heap.push _)[w.heap.size]? = _
  simp
theorem Own.set0 {w : World} {g : Nat} {T : TypeId} {v u : Value} {vs : List Value} (h : Own w g T (v :: vs)) : Own (w.setCell ⟨g, 0, none⟩ u) g T (u :: vs) := by
  unfold Own at h ⊢
  simp [World.setCell, Array.getElem?_modify, h]
theorem grown_alloc {a w : World} {row : Option Nat} (h : a.grownBy w row) (o : Obj) : a.grownBy (w.alloc o) row :=
  ⟨h.os, h.tape, h.output, Nat.le_trans h.size (by simp), fun i hi hne => (Below.heap_alloc w o i (Nat.lt_of_lt_of_le hi h.size)).trans (h.block i hi hne)⟩
theorem grown_set {a w : World} {g i : Nat} (h : a.grownBy w (some g)) (u : Value) : a.grownBy (w.setCell ⟨g, i, none⟩ u) (some g) :=
  ⟨h.os, h.tape, h.output, by simpa [World.setCell] using h.size, fun k hk hne => (Below.heap_setCell w ⟨g, i, none⟩ u k (fun e => hne (by rw [e]))).trans (h.block k hk hne)⟩

theorem Row.two {w : World} (x y : Int) (hx : -9223372036854775808 ≤ x ∧ x ≤ 9223372036854775807) (hy : -9223372036854775808 ≤ y ∧ y ≤ 9223372036854775807) :
    Row (w.alloc (.cells #[.int .i64 x, .int .i64 y] 3)) (w.heap.size + 1) (some ⟨w.heap.size, 0, none⟩) 2 [x, y] := by
  refine ⟨rfl, by omega, fun i => ?_, fun _ => ⟨w.heap.size, 0, rfl, by omega, fun i hi => ?_⟩⟩
  · rcases i with _ | _ | i <;> simp <;> omega
  · have h := (Own.new w 3 [.int .i64 x, .int .i64 y]).cell i
    rw [Nat.zero_add]
    refine h.trans ?_
    rcases i with _ | _ | i
    · rfl
    · rfl
    · omega

set_option maxHeartbeats 400000 in
theorem Total_any (g : Nat) (t : Int) (w : World) (hc : w.cell? ⟨g, 0, none⟩ = some (.int .i64 t)) :
    Calls Try.prog 19 #[.pointer (some ⟨g, 0, none⟩)] w fun e w' => e = .returned (.int .i64 t) ∧ w = w' := by
  go_enter Try.func19, Try.ntmps19
  go_wp2
  go_ret
  exact ⟨rfl, rfl⟩

theorem ret_bool {p q : Bool} (h : q = p) : Ending.returned (.bool p) = .returned (.bool q) := by rw [h]

theorem quiet_left {P : Program} {f : FuncId} {args : Array Value} {w : World} {n : Nat} {v : Value} (h : Calls P f args (w.drewN n) fun e w1 => e = .returned v ∧ w.drewN n = w1) :
    Calls P f args (w.drewN n) fun e w2 => e = .returned v ∧ ∃ m, w2 = w.drewN m :=
  h.mono fun _ _ k => ⟨k.1, n, k.2.symm⟩
theorem quiet_more {P : Program} {f : FuncId} {args : Array Value} {w : World} {a n : Nat} {v : Value} (h : Calls P f args (w.drewN (a + n)) fun e w1 => e = .returned v ∧ w.drewN (a + n) = w1) :
    Calls P f args (w.drewN (a + n)) fun e w2 => e = .returned v ∧ ∃ m, w2 = w.drewN (a + m) :=
  h.mono fun _ _ k => ⟨k.1, n, k.2.symm⟩

def AddPost (w : World) (g : Nat) (T : TypeId) (t : Int) (rest : List Value) (xs : List Int) (e : Ending) (w' : World) : Prop :=
  e = .returned (.bool (addB t xs)) ∧ Own w' g T (.int .i64 (addV t xs) :: rest) ∧ w.grownBy w' (some g)

set_option maxHeartbeats 400000 in
theorem MeterAdd_any (g : Nat) (T : TypeId) (t : Int) (rest : List Value) (A : Option Addr) (n c : Nat) (xs : List Int) (w : World) {B : Nat} (h : Row w B A n xs)
    (ho : Own w g T (.int .i64 t :: rest)) (h0 : 0 ≤ t) (h1 : t ≤ 4611686018427387904) :
    Calls Try.prog 18 #[.pointer (some ⟨g, 0, none⟩), .slice A n c] w (AddPost w g T t rest xs) := by
  have hc : w.cell? ⟨g, 0, none⟩ = some (.int .i64 t) := ho.cell 0
  have hf : w.frozen? ⟨g, 0, none⟩ = false := ho.frozen 0
  have hg := ho.lt
  have HO := Lib.hid ho
  have HR := Lib.hid h
  have hb := sumV_bd xs
  clear ho h
  cases hs : sumB xs with
  | false =>
    have HS := Lib.hid hs
    clear hs
    go_enter Try.func18, Try.ntmps18
    go_wp2_with fail
    refine (Sum_any A n c xs _ HR.out).mono ?_
    rintro e w' ⟨rfl, rfl⟩
    rw [HS.out]
    go_wp2
    go_ret
    have := add_none t xs h0 h1 HS.out
    refine ⟨ret_bool this.2, by rw [this.1]; exact HO.out, World.grownBy.refl _ _⟩
  | true =>
    have HS := Lib.hid hs
    clear hs
    have hadd := Lib.hid (add_some t xs h0 h1 HS.out)
    have HRow := Lib.hid (Row.two (w := w) t (sumV xs) (by omega) (by omega))
    go_enter Try.func18, Try.ntmps18
    go_wp2_with fail
    refine (Sum_any A n c xs _ HR.out).mono ?_
    rintro e w' ⟨rfl, rfl⟩
    rw [HS.out]
    go_wp2_with fail
    refine (Sum_any _ 2 2 [t, sumV xs] _ HRow.out).mono ?_
    rintro e w' ⟨rfl, rfl⟩
    cases hs2 : sumB [t, sumV xs] with
    | false =>
      go_wp2
      go_ret
      have := hadd.out.2 hs2
      exact ⟨ret_bool this.2, by rw [this.1]; exact HO.out.alloc _, World.grownBy_alloc _ _ _⟩
    | true =>
      go_wp2
      go_ret
      have := hadd.out.1 hs2
      exact ⟨ret_bool this.2, by rw [this.1]; exact HO.out.set0.alloc _, grown_alloc (grown_set (World.grownBy.refl _ _) _) _⟩
end Go.Proofs.Ytccahhfeibnchaa
