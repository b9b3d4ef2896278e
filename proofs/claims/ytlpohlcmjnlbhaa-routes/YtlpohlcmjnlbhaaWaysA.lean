/-
  The reference's Ways and Cyclic, walked: they answer just whether there is a way, a cycle.
-/
import Derived.Test.YtlpohlcmjnlbhaaJB
import Derived.Test.YtlpohlcmjnlbhaaLevelG
import Derived.Test.YtlpohlcmjnlbhaaBools
import Derived.Test.YtlpohlcmjnlbhaaJI
set_option maxRecDepth 20000
namespace Go.Proofs.Ytlpohlcmjnlbhaa
open Go.RowKit

/-- Answers a Boolean that is true just if p holds; nothing that was there turned. -/
def Tells (w : World) (p : Prop) (e : Ending) (w' : World) : Prop := ∃ z, e = .returned (.bool z) ∧ (z = true ↔ p) ∧ w.grownBy w' none

structure SeenM (w : World) (vn : Nat) (A : Option Addr) (n c : Nat) (gb : Nat) (bs : List Bool) (gs : Nat) (S : List Bool) (wr : World) : Prop where
  g : w.grownBy wr none
  ob : Own wr w.heap.size 24 [.int .i64 (vn : Nat), .slice A n c]
  bb : Own wr gb 4 (bools bs)
  os : Own wr gs 4 (bools S)

theorem SeenM.grown {w : World} {vn : Nat} {A : Option Addr} {n c : Nat} {gb : Nat} {bs : List Bool} {gs : Nat} {S : List Bool} {wr w' : World} (h : SeenM w vn A n c gb bs gs S wr) (k : wr.grownBy w' none) : SeenM w vn A n c gb bs gs S w' :=
  ⟨grown_trans h.g k, h.ob.kept k, h.bb.kept k, h.os.kept k⟩

theorem SeenM.put {w : World} {vn : Nat} {A : Option Addr} {n c : Nat} {gb : Nat} {bs : List Bool} {gs : Nat} {S : List Bool} {wr : World} (h : SeenM w vn A n c gb bs gs S wr) (h1 : w.heap.size < gs) (h2 : gb < w.heap.size) (v : Nat) : SeenM w vn A n c gb bs gs (S.set v true) (wr.setCell ⟨gs, v, none⟩ (.bool true)) := by
  refine ⟨grown_new h.g (by omega) _, h.ob.setOther (by omega) _, h.bb.setOther (by omega) _, ?_⟩
  have := h.os.put (i := v) (.bool true)
  rw [bools_set] at this
  exact this

def OutRel (w : World) (vn : Nat) (A : Option Addr) (n c : Nat) (ls : List Lk) (gb : Nat) (bs : List Bool) (gs : Nat) (s : Int) (i : Value) (wr : World) : Prop :=
  ∃ (k : Nat) (S : List Bool), k ≤ vn ∧ i = .int .i64 (k : Nat) ∧ SeenM w vn A n c gb bs gs S wr ∧ OutI ls bs (2 * n) vn s k S

def InnRel (w : World) (vn : Nat) (A : Option Addr) (n c : Nat) (ls : List Lk) (gb : Nat) (bs : List Bool) (gs : Nat) (s : Int) (S0 : List Bool) (i : Value) (wr : World) : Prop :=
  ∃ (a : Nat) (T : List Bool), a ≤ 2 * n ∧ i = .int .i64 (a : Nat) ∧ SeenM w vn A n c gb bs gs T wr ∧ InnI ls bs (2 * n) vn s S0 a T

end Go.Proofs.Ytlpohlcmjnlbhaa
