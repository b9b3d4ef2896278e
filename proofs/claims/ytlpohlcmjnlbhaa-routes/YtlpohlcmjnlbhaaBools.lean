/-
  Rows of Booleans of the call's own; the reference's Room where it is told.
-/
import Derived.Test.YtlpohlcmjnlbhaaJF
import Derived.Test.YtlpohlcmjnlbhaaJC
set_option maxRecDepth 20000
namespace Go.Proofs.Ytlpohlcmjnlbhaa
open Go.RowKit

theorem room_nonneg {caps f : List Int} (h : ratesB caps f = true) {a : Nat} (ha : a < 2 * caps.length) : 0 ≤ roomI caps f (a : Int) := by
  obtain ⟨h1, h2⟩ := ratesB_parts h
  have := h2 (a / 2) (by omega)
  unfold capI at this
  rcases Nat.mod_two_eq_zero_or_one a with e | e
  · rw [room_even (i := a / 2) (by omega) (by omega)]
    omega
  · rw [room_odd (i := a / 2) (by omega) (by omega)]
    omega

def bools (bs : List Bool) : List Value := bs.map Value.bool

theorem bools_set (bs : List Bool) (i : Nat) (b : Bool) : (bools bs).set i (.bool b) = bools (bs.set i b) := by simp [bools, List.map_set]

theorem bools_at {bs : List Bool} {i : Nat} (h : i < bs.length) : (bools bs)[i]? = some (.bool (bs[i]?.getD false)) := by simp [bools, h]

theorem info4 : (Try.prog.info? 4).map (fun i => (i.zero, i.size, i.bytes)) = some (some (.bool false), 1, 1) := by kernel_rfl

theorem held2L {w w1 : World} {k : Nat} {x0 x1 : Value} (g : w.grownBy w1 none) (h : (fun w' : World => w'.cell? ⟨k, 0, none⟩ = some x0 ∧ w'.cell? ⟨k, 1, none⟩ = some x1) w) :
    (fun w' : World => w'.cell? ⟨k, 0, none⟩ = some x0 ∧ w'.cell? ⟨k, 1, none⟩ = some x1) w1 := ⟨kept g h.1, kept g h.2⟩

theorem rep_bools (n : Nat) : List.replicate n (Value.bool false) = bools (List.replicate n false) := by simp [bools]

end Go.Proofs.Ytlpohlcmjnlbhaa
