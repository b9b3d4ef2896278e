/-
  What the contracts share: a slice of integers that reads as a row of numbers, a block that is known whole, worlds that grow. No condition.
-/
import Derived.Test.YtgfehlmiejnonaaRows
import Derived.WalkKit
import Derived.Below
import Derived.Lib.Hide
import Derived.Outline
import Derived.Laws.Rows
import Derived.Laws.OwnMore
import Derived.Deep.Draws
import Derived.Deep.QuietTactic
import Derived.BigQuiet
import Derived.Deep.DeepCutAuto
import Derived.StillTailTactics
import Derived.Deep.RegionLaw
import Derived.Deep.RegionHeld3
set_option maxRecDepth 20000
namespace Go.Proofs.Ytgfehlmiejnonaa
open Go.RowKit

structure Row (w : World) (B : Nat) (A : Option Addr) (n : Nat) (xs : List Int) : Prop where
  len : xs.length = n
  small : n ≤ 9223372036854775807
  ok : ∀ i : Nat, -9223372036854775808 ≤ xs[i]?.getD 0 ∧ xs[i]?.getD 0 ≤ 9223372036854775807
  at_ : 0 < n → ∃ b off, A = some ⟨b, off, none⟩ ∧ b < B ∧ ∀ i, i < n → w.cell? ⟨b, off + i, none⟩ = some (.int .i64 (xs[i]?.getD 0))

theorem Row.keep {w w' : World} {B : Nat} {A : Option Addr} {n : Nat} {xs : List Int} (h : Row w B A n xs) (k : ∀ p : Addr, p.block < B → w'.cell? p = w.cell? p) : Row w' B A n xs :=
  ⟨h.len, h.small, h.ok, fun hn => by
    obtain ⟨b, off, hA, hb, hc⟩ := h.at_ hn
    exact ⟨b, off, hA, hb, fun i hi => (k _ hb).trans (hc i hi)⟩⟩

theorem Row.wide {w : World} {B B' : Nat} {A : Option Addr} {n : Nat} {xs : List Int} (h : Row w B A n xs) (k : B ≤ B') : Row w B' A n xs :=
  ⟨h.len, h.small, h.ok, fun hn => by
    obtain ⟨b, off, hA, hb, hc⟩ := h.at_ hn
    exact ⟨b, off, hA, by omega, hc⟩⟩

theorem Row.below {w w' : World} {B : Nat} {A : Option Addr} {n : Nat} {xs : List Int} (h : Row w B A n xs) (k : Below B w w') : Row w' B A n xs := h.keep fun _ hp => k.cell hp

theorem Row.drewN {w : World} {B : Nat} {A : Option Addr} {n : Nat} {xs : List Int} (h : Row w B A n xs) (k : Nat) : Row (w.drewN k) B A n xs := h.keep fun _ _ => rfl

theorem Row.head {w : World} {B : Nat} {A : Option Addr} {n k : Nat} {xs : List Int} (h : Row w B A n xs) (hk : k ≤ n) : Row w B A k (xs.take k) := by
  have hl := h.len
  refine ⟨by simp; omega, by have := h.small; omega, fun i => ?_, fun hn => ?_⟩
  · by_cases hi : i < k
    · rw [List.getElem?_take_of_lt hi]; exact h.ok i
    · rw [List.getElem?_eq_none (by simp; omega)]; simp
  · obtain ⟨b, off, hA, hb, hc⟩ := h.at_ (by omega)
    exact ⟨b, off, hA, hb, fun i hi => by rw [List.getElem?_take_of_lt hi]; exact hc i (by omega)⟩

theorem Row.tail {w : World} {B : Nat} {A A' : Option Addr} {n k : Nat} {xs : List Int} (h : Row w B A n xs) (hk : k ≤ n) (hA' : k < n → A' = A.map (·.add k)) : Row w B A' (n - k) (xs.drop k) := by
  have hl := h.len
  refine ⟨by simp; omega, by have := h.small; omega, fun i => ?_, fun hn => ?_⟩
  · rw [List.getElem?_drop]; exact h.ok _
  · obtain ⟨b, off, hA, hb, hc⟩ := h.at_ (by omega)
    have e : A' = some ⟨b, off + k, none⟩ := by
      rw [hA' (by omega), hA]
      simp only [Option.map_some, Addr.add]
      by_cases hz : k = 0
      · subst hz; rfl
      · rw [if_neg hz]
    exact ⟨b, off + k, e, hb, fun i hi => by rw [List.getElem?_drop, Nat.add_assoc]; exact hc _ (by omega)⟩

def Own (w : World) (g : Nat) (T : TypeId) (vs : List Value) : Prop := w.heap[g]? = some (.cells vs.toArray T (0, 0))

theorem Own.lt {w : World} {g : Nat} {T : TypeId} {vs : List Value} (h : Own w g T vs) : g < w.heap.size := by
  unfold Own at h
  exact (Array.getElem?_eq_some_iff.1 h).1

theorem Own.cell {w : World} {g : Nat} {T : TypeId} {vs : List Value} (h : Own w g T vs) (i : Nat) : w.cell? ⟨g, i, none⟩ = vs[i]? := by
  have := cell_of_row w g i vs.toArray T (0, 0) h
  simpa using this

theorem Own.frozen {w : World} {g : Nat} {T : TypeId} {vs : List Value} (h : Own w g T vs) (i : Nat) : w.frozen? ⟨g, i, none⟩ = false := by
  unfold Own at h
  simp [World.frozen?, h]

theorem Own.keep {w w' : World} {g : Nat} {T : TypeId} {vs : List Value} (h : Own w g T vs) (k : w'.heap[g]? = w.heap[g]?) : Own w' g T vs := k.trans h

theorem Own.alloc {w : World} {g : Nat} {T : TypeId} {vs : List Value} (h : Own w g T vs) (o : Obj) : Own (w.alloc o) g T vs := h.keep (Below.heap_alloc w o g h.lt)

theorem Own.new (w : World) (T : TypeId) (vs : List Value) : Own (w.alloc (.cells vs.toArray T)) w.heap.size T vs := by
  unfold Own
  show (w.heap.push _)[w.heap.size]? = _
  simp

theorem Own.set0 {w : World} {g : Nat} {T : TypeId} {v u : Value} {vs : List Value} (h : Own w g T (v :: vs)) : Own (w.setCell ⟨g, 0, none⟩ u) g T (u :: vs) := by
  unfold Own at h ⊢
  simp [World.setCell, Array.getElem?_modify, h]

theorem grown_alloc {a w : World} {row : Option Nat} (h : a.grownBy w row) (o : Obj) : a.grownBy (w.alloc o) row :=
  ⟨h.os, h.tape, h.output, Nat.le_trans h.size (by simp), fun i hi hne => (Below.heap_alloc w o i (Nat.lt_of_lt_of_le hi h.size)).trans (h.block i hi hne)⟩

theorem grown_set {a w : World} {g i : Nat} (h : a.grownBy w (some g)) (u : Value) : a.grownBy (w.setCell ⟨g, i, none⟩ u) (some g) :=
  ⟨h.os, h.tape, h.output, by simpa [World.setCell] using h.size, fun k hk hne => (Below.heap_setCell w ⟨g, i, none⟩ u k (fun e => hne (by rw [e]))).trans (h.block k hk hne)⟩

theorem grown_drewN {a w : World} {row : Option Nat} (h : a.grownBy w row) (n : Nat) : a.grownBy (w.drewN n) row := ⟨h.os, h.tape, h.output, h.size, h.block⟩

theorem grown_trans {a b c : World} {row : Option Nat} (h : a.grownBy b row) (k : b.grownBy c row) : a.grownBy c row :=
  ⟨k.os.trans h.os, k.tape.trans h.tape, k.output.trans h.output, Nat.le_trans h.size k.size, fun i hi hne => (k.block i (Nat.lt_of_lt_of_le hi h.size) hne).trans (h.block i hi hne)⟩

theorem below_drewN {B : Nat} {a w : World} (h : Below B a w) (n : Nat) : Below B a (w.drewN n) := ⟨h.os, h.tape, h.output, h.size, h.block⟩

theorem below_step {B g : Nat} {a w w' : World} (h : Below B a w) (hB : B ≤ w.heap.size) (hg : w.grownBy w' (some g)) (hBg : B ≤ g) : Below B a w' :=
  h.grown hg hB (fun _ e => by injection e with e; omega)

theorem below_undrew {B : Nat} {w w' : World} (h : Below B w.drew w') : Below B w w' := ⟨h.os, h.tape, h.output, h.size, h.block⟩

theorem quiet_left {P : Program} {f : FuncId} {args : Array Value} {w : World} {n : Nat} {v : Value} (h : Calls P f args (w.drewN n) fun e w1 => e = .returned v ∧ w.drewN n = w1) :
    Calls P f args (w.drewN n) fun e w2 => e = .returned v ∧ ∃ m, w2 = w.drewN m :=
  h.mono fun _ _ k => ⟨k.1, n, k.2.symm⟩

theorem quiet_more {P : Program} {f : FuncId} {args : Array Value} {w : World} {a n : Nat} {v : Value} (h : Calls P f args (w.drewN (a + n)) fun e w1 => e = .returned v ∧ w.drewN (a + n) = w1) :
    Calls P f args (w.drewN (a + n)) fun e w2 => e = .returned v ∧ ∃ m, w2 = w.drewN (a + m) :=
  h.mono fun _ _ k => ⟨k.1, n, k.2.symm⟩

theorem ret_sum {a b : Int} {p q : Bool} (h : b = a) (k : q = p) : Ending.returned (.tuple #[.int .i64 a, .bool p]) = .returned (.tuple #[.int .i64 b, .bool q]) := by rw [h, k]

theorem ret_int {k : IntKind} {a b : Int} (h : a = b) : Ending.returned (.int k a) = .returned (.int k b) := by rw [h]

theorem ret_bool {p q : Bool} (h : q = p) : Ending.returned (.bool p) = .returned (.bool q) := by rw [h]

theorem wf_bd {n : Int} (h : (Lit.int .i64 n).wf = true) : -9223372036854775808 ≤ n ∧ n ≤ 9223372036854775807 := by
  have h1 : IntKind.i64.min = -9223372036854775808 := by decide
  have h2 : IntKind.i64.max = 9223372036854775807 := by decide
  simp only [Lit.wf, Bool.and_eq_true, decide_eq_true_eq, h1, h2] at h
  exact h

theorem block_lt {w : World} {a : Addr} {v : Value} (h : w.cell? a = some v) : a.block < w.heap.size := by
  rcases Nat.lt_or_ge a.block w.heap.size with k | k
  · exact k
  · simp [World.cell?, Array.getElem?_eq_none k] at h

theorem add_at (b off i : Nat) : (Addr.add ⟨b, off, none⟩ i : Addr) = ⟨b, off + i, none⟩ := by
  unfold Addr.add
  by_cases e : i = 0
  · subst e; rfl
  · rw [if_neg e]

end Go.Proofs.Ytgfehlmiejnonaa
