/-
  path.Simple.
-/
import Derived.Test.YtmodkhcfihlhgaaPathD
namespace Go.Proofs.Ytmodkhcfihlhgaa
open Go.RowKit

def SimRel (w : World) (V : Int) (A : Option Addr) (n c : Nat) (L : List Lk) (s : Int) (m : Nat) (xs : List Int) (o p i : Value) (wr : World) : Prop :=
  ∃ k : Nat, k ≤ m ∧ i = .int .i64 (k : Nat) ∧ w.grownBy wr none ∧ Own wr w.heap.size 24 [.int .i64 V, .slice A n c] ∧ Duo wr (w.heap.size + 1) o p (simK L s (xs.take k)) (vsOf L s (simK L s (xs.take k)))

theorem Mine.two {w : World} {base : Nat} {v : Value} {n : Nat} {xs : List Int} (h : Mine w base v n xs) : (v = .slice none 0 0 ∧ n = 0) ∨ ∃ g c, v = .slice (some ⟨g, 0, none⟩) n c ∧ n ≤ c ∧ base ≤ g ∧ c ≤ 9223372036854775807 := by
  rcases h.2 with h | ⟨g, cap, cur, rfl, hb, _, hnc, hm, _⟩
  · exact .inl h
  · exact .inr ⟨g, cap, rfl, hnc, hb, by unfold maxLen at hm; omega⟩

theorem Duo.cut {w : World} {base : Nat} {A A' : Option Addr} {c c' i : Nat} {n n' : Nat} {s o s' o' : List Int} (t : Duo w base (.slice A n c) (.slice A' n' c') s o) (hn : n = s.length) (hn' : n' = o.length) (e : s' = s.take i) (e' : o' = o.take (i + 1)) (hi : i ≤ s.length) (hi' : i + 1 ≤ o.length) :
    Duo w base (.slice A i c) (.slice A' (i + 1) c') s' o' := by
  subst e e' hn hn'
  refine ⟨?_, ?_, apart_cut t.so⟩
  · have := t.S.take hi
    rw [List.length_take, Nat.min_eq_left hi]
    exact this
  · have := t.O.take hi'
    rw [List.length_take, Nat.min_eq_left hi']
    exact this

theorem Duo.drewN {w : World} {base : Nat} {x y : Value} {s o : List Int} (t : Duo w base x y s o) (k : Nat) : Duo (w.drewN k) base x y s o := t.kept (grown_drewN (World.grownBy.refl w none) k)

end Go.Proofs.Ytmodkhcfihlhgaa
