/-
  An append of a row of numbers onto a row of the call's own, whatever the source slice is.
-/
import Derived.Test.YtccahhfeibnchaaFrame
import Derived.Maps.AppendAt
import Derived.OwnWalk
namespace Go.Proofs.Ytccahhfeibnchaa
open Go.RowKit

theorem Row.head {w : World} {B : Nat} {A : Option Addr} {n k : Nat} {xs : List Int} (h : Row w B A n xs) (hk : k ≤ n) : Row w B A k (xs.take k) := by
  have hl := h.len
  refine ⟨by simp; omega, by have := h.small; omega, fun i => ?_, fun hn => ?_⟩
  · by_cases hi : i < k
    · rw [List.getElem?_take_of_lt hi]; exact h.ok i
    · rw [List.getElem?_eq_none (by simp; omega)]; simp
  · obtain ⟨b, off, hA, hb, hc⟩ := h.at_ (by omega)
    exact ⟨b, off, hA, hb, fun i hi => by rw [List.getElem?_take_of_lt hi]; exact hc i (by omega)⟩
theorem Row.tail {w : World} {B : Nat} {A A' : Option Addr} {n k : Nat} {xs : List Int} (h : Row w B A n xs) (hk : k ≤ n) (hA' : k < n → A' = A.map (·.add k)) : Row w B A' (n - k) (xs.drop k) := by
  have hl := h.len
  refine ⟨by simp; omega, by have := h.small; omega, fun i => ?_, fun hn => ?_⟩
  · rw [List.getElem?_drop]; exact h.ok _
  · obtain ⟨b, off, hA, hb, hc⟩ := h.at_ (by omega)
    have e : A' = some ⟨b, off + k, none⟩ := by
      rw [hA' (by omega), hA]
      simp only [Option.map_some, Addr.add]
      by_cases hz : k = 0
      · subst hz; rfl
      · rw [if_neg hz]
    exact ⟨b, off + k, e, hb, fun i hi => by rw [List.getElem?_drop, Nat.add_assoc]; exact hc _ (by omega)⟩


def ints (xs : List Int) : List Value := xs.map (Value.int .i64)
theorem ints_app (a b : List Int) : ints (a ++ b) = ints a ++ ints b := List.map_append
theorem ints_len (xs : List Int) : (ints xs).length = xs.length := by simp [ints]
theorem ints_one (xs : List Int) : ∀ u ∈ ints xs, u.oneCell' = true := by
  intro u hu
  obtain ⟨x, _, rfl⟩ := List.mem_map.1 hu
  rfl
theorem ints_get (xs : List Int) (i : Nat) (h : i < xs.length) : (ints xs)[i]? = some (.int .i64 (xs[i]?.getD 0)) := by
  simp [ints, h]

theorem info3 : (Try.prog.info? 3).map (fun i => (i.zero, i.size, i.bytes)) = some (some (.int .i64 0), 1, 8) := by kernel_rfl

/-- What the call owns, as a row of numbers. -/
def Mine (w : World) (base : Nat) (v : Value) (n : Nat) (xs : List Int) : Prop := w.ownsRow base 3 1 v n (ints xs)

theorem Mine.lit {w : World} {base g : Nat} {vs : Array Value} (xs : List Int) (n : Nat) (hg : g = w.heap.size) (hv : vs = (ints xs).toArray) (hn : n = xs.length) (hb : base ≤ w.heap.size) (hl : xs.length ≤ 1000) :
    Mine (w.alloc (.cells vs 3)) base (.slice (some ⟨g, 0, none⟩) n n) n xs := by
  subst hg hv hn
  have h := World.ownsRow_lit (base := base) (e := 3) (size := 1) w (ints xs).toArray xs.length hb (by unfold maxLen; omega) (by simp [ints])
  simpa [Mine] using h

/-- Append's own run, the source nil or not. -/
theorem run_app (w : World) (base ty : Nat) (v : Value) (n : Nat) (ys : List Int) (hown : Mine w base v n ys) {B : Nat} (A : Option Addr) (m c : Nat) (xs : List Int) (hr : Row w B A m xs)
    (hnil : A = none → c = 0) (hbytes : (n + m) * 8 ≤ 140737488355328) (hbase : base ≤ w.heap.size) :
    ∃ v' w', (Builtin.append_ #[22, 22] ty #[v, .slice A m c]).run Try.prog w = .ok v' w' ∧ Mine w' base v' (n + m) (ys ++ xs) ∧ w.grownBy w' v.ownBlock ∧ (v'.ownBlock = v.ownBlock ∨ v'.ownBlock = some w.heap.size) := by
  obtain ⟨i0, hi, hz0, hz1, hz2⟩ := info_parts info3
  cases A with
  | none =>
    obtain rfl : c = 0 := hnil rfl
    have hm : m = 0 := by
      rcases Nat.eq_zero_or_pos m with h0 | h0
      · exact h0
      · obtain ⟨b, off, h, _⟩ := hr.at_ h0
        cases h
    subst hm
    have hx : xs = [] := List.eq_nil_of_length_eq_zero hr.len
    subst hx
    exact ⟨v, w, run_append_owned_none (P := Try.prog) w base 22 ty 3 i0 1 Try.underlying22 hi v n (ints ys) hown, by simpa [Mine] using hown, World.grownBy.refl w _, .inl rfl⟩
  | some ad =>
    have hcells : ∀ j u, (ints xs)[j]? = some u → w.cell? (ad.add j) = some u := by
      intro j u hu
      have hj : j < xs.length := by
        rcases Nat.lt_or_ge j xs.length with h | h
        · exact h
        · rw [List.getElem?_eq_none (by rw [ints_len]; exact h)] at hu; cases hu
      obtain ⟨b, off, h, _, hc⟩ := hr.at_ (by have := hr.len; omega)
      injection h with h
      subst h
      rw [ints_get xs j hj] at hu
      rw [add_at, hc j (by have := hr.len; omega)]
      exact hu
    obtain ⟨v', w', hrun, h2, h3, _, h5⟩ := run_append_own_at (P := Try.prog) w base 22 ty 3 i0 (.int .i64 0) 1 8 Try.underlying22 hi hz0 hz1 hz2 rfl (by decide) v n (ints ys) hown ad m c (ints xs)
      (by rw [ints_len, hr.len]; omega) hcells (ints_one xs) (by unfold maxLen; omega) hbytes hbase
    exact ⟨v', w', hrun, by unfold Mine; rw [ints_app]; exact h2, h3, h5⟩

theorem wpList_app {ops : Array Oper} {rest : List Oper} {o : Oper} {a : Act} {Q : Exit → Act → World → Prop} (w : World) (hgd : o.guard = none) (s x : Operand)
    (ho : o.op = .call { callee := .builtin .append, args := #[s, x], argTypes := #[22, 22] }) (base : Nat) (v : Value) (n : Nat) (ys : List Int) (hs : a.eval s = v) (hown : Mine w base v n ys)
    {B : Nat} (A : Option Addr) (m c : Nat) (xs : List Int) (hx : a.eval x = .slice A m c) (hr : Row w B A m xs) (hnil : A = none → c = 0) (hbytes : (n + m) * 8 ≤ 140737488355328) (hbase : base ≤ w.heap.size)
    (h : ∀ v' w', Mine w' base v' (n + m) (ys ++ xs) → w.grownBy w' v.ownBlock → (v'.ownBlock = v.ownBlock ∨ v'.ownBlock = some w.heap.size) → wpList Try.prog ops Q rest (a.put o.dst v') w') : wpList Try.prog ops Q (o :: rest) a w := by
  refine wpList_plain hgd fun K hK => ?_
  obtain ⟨v', w', hrun, h2, h3, h4⟩ := run_app w base o.type v n ys hown A m c xs hr hnil hbytes hbase
  unfold Oper.wp execOp
  simp only [ho, resolve, invoke, builtin, Sem.run_bind, Sem.run_pure, Result.andThen_ok, List.map_toArray, List.map_cons, List.map_nil, hs, hx, hrun]
  exact hK _ _ (h v' w' h2 h3 h4)

theorem Mine.row {w : World} {base : Nat} {v : Value} {n : Nat} {xs : List Int} (h : Mine w base v n xs) (hok : ∀ i : Nat, -9223372036854775808 ≤ xs[i]?.getD 0 ∧ xs[i]?.getD 0 ≤ 9223372036854775807) :
    ∃ A c, v = .slice A n c ∧ n ≤ c ∧ Row w w.heap.size A n xs := by
  obtain ⟨hl, h2⟩ := h
  rw [ints_len] at hl
  rcases h2 with ⟨rfl, rfl⟩ | ⟨g, cap, cur, rfl, _, hh, hnc, hm, hsz, htk⟩
  · exact ⟨none, 0, rfl, Nat.le_refl _, by omega, by omega, hok, fun k => absurd k (by omega)⟩
  · refine ⟨some ⟨g, 0, none⟩, cap, rfl, hnc, by omega, by unfold maxLen at hm; omega, hok, fun _ => ⟨g, 0, rfl, ?_, fun i hi => ?_⟩⟩
    · exact (Array.getElem?_eq_some_iff.1 hh).1
    · have := cell_of_row w g i cur 3 (0, 0) hh
      rw [Nat.zero_add, this, ← ints_get xs i (by omega), ← htk, List.getElem?_take_of_lt (by omega)]
      simp
end Go.Proofs.Ytccahhfeibnchaa
