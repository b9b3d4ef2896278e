/-
  Numbers that name one of so many things: within.areBelow, Verts, Links, Arcs.
-/
import Derived.Test.YtlpohlcmjnlbhaaGrow
import Derived.Test.YtlpohlcmjnlbhaaJA
set_option maxRecDepth 20000
namespace Go.Proofs.Ytlpohlcmjnlbhaa
open Go.RowKit

/-- A row that is read, its numbers of any size. -/
structure Raw (w : World) (X : Option Addr) (m : Nat) (xs : List Int) : Prop where
  len : xs.length = m
  small : m ≤ 9223372036854775807
  at_ : 0 < m → ∃ b off, X = some ⟨b, off, none⟩ ∧ ∀ i, i < m → w.cell? ⟨b, off + i, none⟩ = some (.int .i64 (xs[i]?.getD 0))

theorem Row.raw {w : World} {B : Nat} {X : Option Addr} {m : Nat} {xs : List Int} (h : Row w B X m xs) : Raw w X m xs :=
  ⟨h.len, h.small, fun hm => by obtain ⟨b, off, e, _, c⟩ := h.at_ hm; exact ⟨b, off, e, c⟩⟩

theorem Raw.kept {w w' : World} {X : Option Addr} {m : Nat} {xs : List Int} (h : Raw w X m xs) (k : w.grownBy w' none) : Raw w' X m xs :=
  ⟨h.len, h.small, fun hm => by obtain ⟨b, off, e, c⟩ := h.at_ hm; exact ⟨b, off, e, fun i hi => Go.Proofs.Ytlpohlcmjnlbhaa.kept k (c i hi)⟩⟩

theorem Raw.lit {w : World} (xs : List Int) (hl : xs.length ≤ 1000) : Raw (w.alloc (.cells (ints xs).toArray 3)) (some ⟨w.heap.size, 0, none⟩) xs.length xs := by
  refine ⟨rfl, by omega, fun _ => ⟨w.heap.size, 0, rfl, fun i hi => ?_⟩⟩
  have h := (Own.new w 3 (ints xs)).cell i
  rw [Nat.zero_add]
  exact h.trans (ints_get xs i hi)

def allV (M : Int) (xs : List Int) : Bool := xs.all (isV M)

theorem allV_one (M v : Int) : allV M [v] = isV M v := by simp [allV]
theorem allV_two (M v u : Int) : allV M [v, u] = (isV M v && isV M u) := by simp [allV]
theorem allV_stop {M : Int} {xs : List Int} {k : Nat} (h : k < xs.length) (e : isV M (xs[k]?.getD 0) = false) : allV M xs = false := by
  rw [List.getElem?_eq_getElem h, Option.getD_some] at e
  cases c : allV M xs
  · rfl
  · rw [List.all_eq_true.1 c _ (List.getElem_mem h)] at e
    cases e
theorem allV_all {M : Int} {xs : List Int} (h : ∀ j, j < xs.length → isV M (xs[j]?.getD 0) = true) : allV M xs = true := by
  refine List.all_eq_true.2 fun x hx => ?_
  obtain ⟨i, hi, e⟩ := List.getElem_of_mem hx
  have := h i hi
  rw [List.getElem?_eq_getElem hi, Option.getD_some, e] at this
  exact this
theorem allV_at {M : Int} {xs : List Int} (h : allV M xs = true) {j : Nat} (hj : j < xs.length) : isV M (xs[j]?.getD 0) = true := by
  rw [List.getElem?_eq_getElem hj, Option.getD_some]
  exact List.all_eq_true.1 h _ (List.getElem_mem hj)

theorem isV_no0 {V v : Int} (h : ¬ 0 ≤ v) : isV V v = false := by simp [isV, h]
theorem isV_no1 {V v : Int} (h : ¬ v < V) : isV V v = false := by simp [isV, h]
theorem isV_yes {V v : Int} (h : 0 ≤ v) (k : v < V) : isV V v = true := by simp [isV, h, k]

def BelRel (w : World) (m : Nat) (M : Int) (xs : List Int) (i : Value) (wr : World) : Prop :=
  ∃ k : Nat, k ≤ m ∧ i = .int .i64 (k : Nat) ∧ w.grownBy wr none ∧ ∀ j, j < k → isV M (xs[j]?.getD 0) = true

theorem areBelow_any (M : Int) (X : Option Addr) (m d : Nat) (xs : List Int) (w : World) (h : Raw w X m xs) :
    Calls Try.prog 67 #[.int .i64 M, .slice X m d] w (Says w (.bool (allV M xs))) := by
  have hn := h.small
  have HL := Lib.hid h.len
  have HR := Lib.hid h
  clear h
  have HS : Hid (BelRel w m M xs (.int .i64 0) w) := ⟨0, Nat.zero_le _, rfl, World.grownBy.refl w none, by omega⟩
  go_enter Try.func67, Try.ntmps67
  go_wp2
  go_loopw [9] (fun i wr => BelRel w m M xs i wr) (fun i _ => m - (intOf i).toNat)
  case atStart => exact HS.out
  case round =>
    clear HS
    obtain ⟨k, hk, rfl, hg, hno⟩ := hrel
    have G := Lib.hid hg
    have HNO := Lib.hid hno
    by_cases hlt : k < m
    · obtain ⟨b, off, hA, hcell⟩ := HR.out.at_ (by omega)
      subst hA
      have d0 := kept hg (hcell k hlt)
      have HX := Lib.hid (allV_stop (M := M) (xs := xs) (k := k) (by rw [HL.out]; exact hlt))
      have HY : Hid (isV M (xs[k]?.getD 0) = true → ∀ j, j < k + 1 → isV M (xs[j]?.getD 0) = true) := fun e j hj => by
        rcases Nat.lt_or_ge j k with a | a
        · exact HNO.out j a
        · obtain rfl : j = k := by omega
          exact e
      clear hcell hg hno HNO
      generalize xs[k]?.getD 0 = y at *
      by_cases h0 : y < 0
      · have E : Hid (allV M xs = false) := HX.out (isV_no0 (by omega))
        clear HX HY
        go_wp2
        go_ret
        exact ⟨ret_bool E.out, G.out⟩
      · by_cases h1 : y < M
        · have E := Lib.hid (HY.out (isV_yes (by omega) h1))
          clear HX HY
          go_wp2
          go_roundw
          case rel => exact ⟨k + 1, by omega, by go_num, G.out, E.out⟩
          case measure => simp [intOf]; omega
        · have E : Hid (allV M xs = false) := HX.out (isV_no1 h1)
          clear HX HY
          go_wp2
          go_ret
          exact ⟨ret_bool E.out, G.out⟩
    · obtain rfl : k = m := by omega
      have E : Hid (allV M xs = true) := allV_all (by rw [HL.out]; exact HNO.out)
      clear hg hno
      go_wp2
      go_ret
      exact ⟨ret_bool E.out, G.out⟩

theorem Verts_any (V : Int) (A : Option Addr) (n c : Nat) (X : Option Addr) (m d : Nat) (xs : List Int) (w : World) (h : Raw w X m xs) :
    Calls Try.prog 42 #[.agg #[.int .i64 V, .slice A n c], .slice X m d] w (Says w (.bool (allV V xs))) := by
  have HR := Lib.hid (h.kept (grow0 w (.cells #[.int .i64 V, .slice A n c] 24)))
  clear h
  go_enter Try.func42, Try.ntmps42
  go_wp2_with fail
  refine (areBelow_any V X m d xs _ HR.out).mono ?_
  rintro e w1 ⟨rfl, g1⟩
  have G := Lib.hid (grown_trans (grow0 w (.cells #[.int .i64 V, .slice A n c] 24)) g1)
  clear g1
  go_wp2
  go_ret
  exact ⟨rfl, G.out⟩

theorem Links_any (V : Int) (A : Option Addr) (n c : Nat) (X : Option Addr) (m d : Nat) (xs : List Int) (w : World) (h : Raw w X m xs) :
    Calls Try.prog 82 #[.agg #[.int .i64 V, .slice A n c], .slice X m d] w (Says w (.bool (allV (n : Int) xs))) := by
  have HR := Lib.hid (h.kept (grow0 w (.cells #[.int .i64 V, .slice A n c] 24)))
  clear h
  go_enter Try.func82, Try.ntmps82
  go_wp2_with fail
  refine (areBelow_any (n : Int) X m d xs _ HR.out).mono ?_
  rintro e w1 ⟨rfl, g1⟩
  have G := Lib.hid (grown_trans (grow0 w (.cells #[.int .i64 V, .slice A n c] 24)) g1)
  clear g1
  go_wp2
  go_ret
  exact ⟨rfl, G.out⟩

theorem Arcs_any (V : Int) (A : Option Addr) (n c : Nat) (X : Option Addr) (m d : Nat) (xs : List Int) (w : World) (h : Raw w X m xs) (hn : n ≤ 1000) :
    Calls Try.prog 91 #[.agg #[.int .i64 V, .slice A n c], .slice X m d] w (Says w (.bool (allV (2 * (n : Int)) xs))) := by
  have HR := Lib.hid (h.kept (grow0 w (.cells #[.int .i64 V, .slice A n c] 24)))
  have hw : IntKind.i64.wrap (2 * (n : Int)) = 2 * (n : Int) := IntWalk.i64_in _ (by omega)
  clear h
  go_enter Try.func91, Try.ntmps91
  go_wp2_with fail
  refine (areBelow_any (2 * (n : Int)) X m d xs _ HR.out).mono ?_
  rintro e w1 ⟨rfl, g1⟩
  have G := Lib.hid (grown_trans (grow0 w (.cells #[.int .i64 V, .slice A n c] 24)) g1)
  clear g1
  go_wp2
  go_ret
  exact ⟨rfl, G.out⟩

/-- One number, laid as a literal for the call. -/
theorem Vert1_any (V v : Int) (A : Option Addr) (n c : Nat) (w : World) {g : Nat} (hg : g = w.heap.size) :
    Calls Try.prog 42 #[.agg #[.int .i64 V, .slice A n c], .slice (some ⟨g, 0, none⟩) 1 1] (w.alloc (.cells #[.int .i64 v] 3)) (Says w (.bool (isV V v))) := by
  subst hg
  have r : Raw (w.alloc (.cells #[.int .i64 v] 3)) (some ⟨w.heap.size, 0, none⟩) 1 [v] := Raw.lit [v] (by simp)
  refine (Verts_any V A n c _ 1 1 [v] _ r).mono ?_
  rintro e w1 ⟨he, g1⟩
  rw [allV_one] at he
  exact ⟨he, grown_trans (grow0 _ _) g1⟩

theorem Vert2_any (V v u : Int) (A : Option Addr) (n c : Nat) (w : World) {g : Nat} (hg : g = w.heap.size) :
    Calls Try.prog 42 #[.agg #[.int .i64 V, .slice A n c], .slice (some ⟨g, 0, none⟩) 2 2] (w.alloc (.cells #[.int .i64 v, .int .i64 u] 3)) (Says w (.bool (isV V v && isV V u))) := by
  subst hg
  have r : Raw (w.alloc (.cells #[.int .i64 v, .int .i64 u] 3)) (some ⟨w.heap.size, 0, none⟩) 2 [v, u] := Raw.lit [v, u] (by simp)
  refine (Verts_any V A n c _ 2 2 [v, u] _ r).mono ?_
  rintro e w1 ⟨he, g1⟩
  rw [allV_two] at he
  exact ⟨he, grown_trans (grow0 _ _) g1⟩

theorem Arc1_any (V v : Int) (A : Option Addr) (n c : Nat) (w : World) {g : Nat} (hg : g = w.heap.size) (hn : n ≤ 1000) :
    Calls Try.prog 91 #[.agg #[.int .i64 V, .slice A n c], .slice (some ⟨g, 0, none⟩) 1 1] (w.alloc (.cells #[.int .i64 v] 3)) (Says w (.bool (isV (2 * (n : Int)) v))) := by
  subst hg
  have r : Raw (w.alloc (.cells #[.int .i64 v] 3)) (some ⟨w.heap.size, 0, none⟩) 1 [v] := Raw.lit [v] (by simp)
  refine (Arcs_any V A n c _ 1 1 [v] _ r hn).mono ?_
  rintro e w1 ⟨he, g1⟩
  rw [allV_one] at he
  exact ⟨he, grown_trans (grow0 _ _) g1⟩

end Go.Proofs.Ytlpohlcmjnlbhaa
