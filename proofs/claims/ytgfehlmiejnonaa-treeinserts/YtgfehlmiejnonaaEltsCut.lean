/-
  A row of structs, cut: its first ones, those behind.
-/
import Derived.Test.YtgfehlmiejnonaaElts
set_option maxRecDepth 20000
namespace Go.Proofs.Ytgfehlmiejnonaa
open Go.RowKit

theorem Elts.head {α : Type} {E : Elt α} {w : World} {B : Nat} {A : Option Addr} {n k : Nat} {xs : List α} (h : Elts E w B A n xs) (hk : k ≤ n) : Elts E w B A k (xs.take k) := by
  have hl := h.len
  refine ⟨by simp; omega, by have := h.small; omega, fun hn => ?_⟩
  obtain ⟨b, off, hA, hb, hc⟩ := h.at_ (by omega)
  exact ⟨b, off, hA, hb, fun i hi => by rw [List.getElem?_take_of_lt hi]; exact hc i (by omega)⟩

theorem Elts.tail {α : Type} {E : Elt α} {w : World} {B : Nat} {A A' : Option Addr} {n k : Nat} {xs : List α} (h : Elts E w B A n xs) (hk : k ≤ n) (hA' : k < n → A' = A.map (·.add (k * E.size))) : Elts E w B A' (n - k) (xs.drop k) := by
  have hl := h.len
  refine ⟨by simp; omega, by have := h.small; omega, fun hn => ?_⟩
  obtain ⟨b, off, hA, hb, hc⟩ := h.at_ (by omega)
  have e : A' = some ⟨b, off + k * E.size, none⟩ := by
    rw [hA' (by omega), hA]
    simp only [Option.map_some, Addr.add]
    by_cases hz : k * E.size = 0
    · rw [hz]; rfl
    · rw [if_neg hz]
  refine ⟨b, off + k * E.size, e, hb, fun i hi j v hj => ?_⟩
  rw [List.getElem?_drop] at hj
  have := hc (k + i) (by omega) j v hj
  rw [Nat.add_mul] at this
  rw [Nat.add_assoc, ← Nat.add_assoc (k * E.size)]
  exact this

end Go.Proofs.Ytgfehlmiejnonaa
