/-
  Contracts of the helpers of the laws: copies of rows, rows lent with marked room behind them, rows compared.
-/
import Derived.Test.YtappjdljgbnkoaaFrame
namespace Go.Proofs.Ytappjdljgbnkoaa
open Go.RowKit

def CopyPost (w : World) (n : Nat) (xs : List Int) (e : Ending) (w' : World) : Prop :=
  ∃ v, e = .returned v ∧ Mine w' w.heap.size v n xs ∧ Below w.heap.size w w'

def LendPost (w : World) (n : Nat) (xs : List Int) (e : Ending) (w' : World) : Prop :=
  ∃ g c, e = .returned (.slice (some ⟨g, 0, none⟩) n c) ∧ n + 2 ≤ c ∧ Row w' w'.heap.size (some ⟨g, 0, none⟩) (n + 2) (xs ++ [-7777, -8888]) ∧ Below w.heap.size w w'

theorem marked_ok (xs : List Int) (h : ∀ i : Nat, -9223372036854775808 ≤ xs[i]?.getD 0 ∧ xs[i]?.getD 0 ≤ 9223372036854775807) :
    ∀ i : Nat, -9223372036854775808 ≤ (xs ++ [-7777, -8888])[i]?.getD 0 ∧ (xs ++ [-7777, -8888])[i]?.getD 0 ≤ 9223372036854775807 := by
  intro i
  rcases Nat.lt_or_ge i xs.length with hi | hi
  · rw [List.getElem?_append_left hi]; exact h i
  · rw [List.getElem?_append_right hi]
    rcases i - xs.length with _ | _ | j <;> simp

def sameB (xs ys : List Int) : Bool := decide (xs = ys)

theorem same_no (xs ys : List Int) (k : Nat) (h : xs[k]?.getD 0 ≠ ys[k]?.getD 0) : sameB xs ys = false := by
  simp only [sameB, decide_eq_false_iff_not]
  rintro rfl
  exact h rfl

theorem same_len (xs ys : List Int) (h : xs.length ≠ ys.length) : sameB xs ys = false := by
  simp only [sameB, decide_eq_false_iff_not]
  rintro rfl
  exact h rfl

theorem same_yes (xs ys : List Int) (hl : xs.length = ys.length) (h : ∀ i, i < xs.length → xs[i]?.getD 0 = ys[i]?.getD 0) : sameB xs ys = true := by
  simp only [sameB, decide_eq_true_eq]
  refine List.ext_getElem hl fun i h1 h2 => ?_
  have := h i h1
  rw [List.getElem?_eq_getElem h1, List.getElem?_eq_getElem h2] at this
  simpa using this

def SamePost (w : World) (q : Bool) (e : Ending) (w' : World) : Prop := e = .returned (.bool q) ∧ ∃ j, w' = w.drewN j

def SameRel (w : World) (n : Nat) (xs ys : List Int) (i : Value) (wr : World) : Prop :=
  ∃ k j : Nat, k ≤ n ∧ i = .int .i64 k ∧ wr = w.drewN j ∧ ∀ i, i < k → xs[i]?.getD 0 = ys[i]?.getD 0

theorem SameInts_any (A : Option Addr) (n c : Nat) (xs : List Int) (A' : Option Addr) (n' c' : Nat) (ys : List Int) (w : World) {B B' : Nat} (h : Row w B A n xs) (h' : Row w B' A' n' ys) :
    Calls Try.prog 26 #[.slice A n c, .slice A' n' c'] w (SamePost w (sameB xs ys)) := by
  have hn := h.small
  have hn' := h'.small
  have HR := Lib.hid h
  have HR' := Lib.hid h'
  clear h h'
  by_cases hne : n = n'
  · subst hne
    go_enter Try.func26, Try.ntmps26
    go_wp2
    go_loopw [5] (fun i wr => SameRel w n xs ys i wr) (fun i _ => n - (intOf i).toNat)
    case atStart => exact ⟨0, 0, Nat.zero_le _, rfl, rfl, fun i hi => absurd hi (by omega)⟩
    case round =>
      obtain ⟨k, j, hk, rfl, rfl, hall⟩ := hrel
      have HALL := Lib.hid hall
      clear hall
      by_cases hlt : k < n
      · obtain ⟨b, off, hA, _, hcell⟩ := HR.out.at_ (by omega)
        obtain ⟨b', off', hA', _, hcell'⟩ := HR'.out.at_ (by omega)
        subst hA hA'
        have hc := hcell k hlt
        have hc' := hcell' k hlt
        have HN := Lib.hid (same_no xs ys k)
        have HX : Hid (xs[k]?.getD 0 = ys[k]?.getD 0 → ∀ i, i < k + 1 → xs[i]?.getD 0 = ys[i]?.getD 0) := fun hx i hi => by
          rcases Nat.lt_or_ge i k with h | h
          · exact HALL.out i h
          · obtain rfl : i = k := by omega
            exact hx
        clear hcell hcell'
        generalize xs[k]?.getD 0 = x at *
        generalize ys[k]?.getD 0 = y at *
        by_cases hxy : x = y
        · have HX2 := Lib.hid (HX.out hxy)
          clear HX HN
          subst hxy
          go_wp2
          go_quiet (fail)
          go_wp2
          go_roundw
          case rel => exact ⟨k + 1, _, by omega, by go_num, rfl, HX2.out⟩
          case measure => simp [intOf]; omega
        · have hb : (x != y) = true := by simp [hxy]
          go_wp2
          go_quiet (fail)
          go_wp2
          go_ret
          exact ⟨ret_bool (HN.out hxy), _, World.drewN_drewN _ _ _⟩
      · go_wp2
        go_ret
        exact ⟨ret_bool (same_yes xs ys (by rw [HR.out.len, HR'.out.len]) (fun i hi => HALL.out i (by rw [HR.out.len] at hi; omega))), j, rfl⟩
  · have hb : ((n : Int) != (n' : Int)) = true := by simp; omega
    go_enter Try.func26, Try.ntmps26
    go_wp2
    go_ret
    exact ⟨ret_bool (same_len xs ys (by rw [HR.out.len, HR'.out.len]; exact hne)), 0, rfl⟩

theorem SameInts0_any (A : Option Addr) (n c : Nat) (xs : List Int) (A' : Option Addr) (n' c' : Nat) (ys : List Int) (w : World) {B B' : Nat} (h : Row w B A n xs) (h' : Row w B' A' n' ys) :
    Calls Try.prog 15 #[.slice A n c, .slice A' n' c'] w (SamePost w (sameB xs ys)) := by
  have HR := Lib.hid h
  have HR' := Lib.hid h'
  clear h h'
  go_enter Try.func15, Try.ntmps15
  go_wp2_with fail
  refine (SameInts_any A n c xs A' n' c' ys _ HR.out HR'.out).mono ?_
  rintro e w1 ⟨rfl, j, rfl⟩
  go_wp2
  go_ret
  exact ⟨rfl, j, rfl⟩

theorem mark_get (xs : List Int) (n : Nat) (h : xs.length = n) : (xs ++ [-7777, -8888])[n]?.getD 0 = -7777 ∧ (xs ++ [-7777, -8888])[n + 1]?.getD 0 = -8888 := by
  subst h
  simp

end Go.Proofs.Ytappjdljgbnkoaa
