/-
  Contracts of the helpers of the laws: copies of rows, rows lent with marked room behind them, rows compared.
-/
import Derived.Test.YtefgnaldiggnnaaFrame
set_option maxRecDepth 20000
namespace Go.Proofs.Ytefgnaldiggnnaa
open Go.RowKit

def CopyPost (w : World) (n : Nat) (xs : List Int) (e : Ending) (w' : World) : Prop :=
  ∃ v, e = .returned v ∧ Mine w' w.heap.size v n xs ∧ Below w.heap.size w w'

theorem CopyInts_any (A : Option Addr) (n c : Nat) (xs : List Int) (w : World) {B : Nat} (h : Row w B A n xs) (hB : B ≤ w.heap.size) (hnil : A = none → c = 0) (hr : n * 8 ≤ 140737488355328) :
    Calls Try.prog 23 #[.slice A n c] w (CopyPost w n xs) := by
  have HR := Lib.hid h
  have HNIL := Lib.hid hnil
  have HMINE := Lib.hid (Mine.lit (w := w) (base := w.heap.size) [] 0 rfl rfl rfl (Nat.le_refl _) (by simp))
  clear h hnil
  go_enter Try.func23, Try.ntmps23
  go_wp2_with (first | (at_builtin; refine wpList_app _ rfl _ _ rfl w.heap.size _ 0 [] rfl HMINE.out (B := B) A n c xs rfl ?_ HNIL.out (by omega) (by simp) ?_))
  · exact HR.out.keep fun p hp => World.cell?_alloc_lt _ _ _ (by omega)
  intro v1 w2 hmine hg _
  have hm2 : Mine w2 w.heap.size v1 n xs := by simpa using hmine
  have HM2 := Lib.hid hm2
  have HB2 := Lib.hid (below_step ((Below.refl w.heap.size w).alloc (Nat.le_refl _) (.cells #[] 3)) (by simp) hg (Nat.le_refl _))
  clear hmine hg hm2
  go_wp2
  go_ret
  exact ⟨_, rfl, HM2.out, HB2.out⟩

def LendPost (w : World) (n : Nat) (xs : List Int) (e : Ending) (w' : World) : Prop :=
  ∃ g c, e = .returned (.slice (some ⟨g, 0, none⟩) n c) ∧ n + 2 ≤ c ∧ Row w' w'.heap.size (some ⟨g, 0, none⟩) (n + 2) (xs ++ [-7777, -8888]) ∧ Below w.heap.size w w'

theorem marked_ok (xs : List Int) (h : ∀ i : Nat, -9223372036854775808 ≤ xs[i]?.getD 0 ∧ xs[i]?.getD 0 ≤ 9223372036854775807) :
    ∀ i : Nat, -9223372036854775808 ≤ (xs ++ [-7777, -8888])[i]?.getD 0 ∧ (xs ++ [-7777, -8888])[i]?.getD 0 ≤ 9223372036854775807 := by
  intro i
  rcases Nat.lt_or_ge i xs.length with hi | hi
  · rw [List.getElem?_append_left hi]; exact h i
  · rw [List.getElem?_append_right hi]
    rcases i - xs.length with _ | _ | j <;> simp

theorem LendInts_any (A : Option Addr) (n c : Nat) (xs : List Int) (w : World) {B : Nat} (h : Row w B A n xs) (hB : B ≤ w.heap.size) (hnil : A = none → c = 0) (hr : n * 8 ≤ 140737488351232) :
    Calls Try.prog 8 #[.slice A n c] w (LendPost w n xs) := by
  have HR := Lib.hid h
  have HNIL := Lib.hid hnil
  clear h hnil
  go_enter Try.func8, Try.ntmps8
  go_wp2_with fail
  refine (CopyInts_any A n c xs _ HR.out hB HNIL.out (by omega)).mono ?_
  rintro e w1 ⟨v, rfl, hm, hb⟩
  have HM := Lib.hid hm
  have HB := Lib.hid hb
  have hsz := hb.size
  clear hm hb
  have HR2 := Lib.hid (Row.two (w := w1) (-7777) (-8888) (by omega) (by omega))
  have HM1 : Hid (Mine (w1.alloc (.cells #[.int .i64 (-7777), .int .i64 (-8888)] 3)) w.heap.size v n xs) := World.ownsRow.alloc HM.out _
  go_wp2_with (first | (at_builtin; refine wpList_app _ rfl _ _ rfl w.heap.size _ n xs rfl HM1.out (B := w1.heap.size + 1) _ 2 2 [-7777, -8888] rfl ?_ (by simp) (by omega) (by simp; omega) ?_))
  · exact HR2.out
  intro v2 w2 hmine hg _
  obtain ⟨g, c2, hv, hc2, _, hrow⟩ := hmine.shape (by omega) (marked_ok xs HR.out.ok)
  have HB2 := Lib.hid ((HB.out.alloc hsz (.cells #[.int .i64 (-7777), .int .i64 (-8888)] 3)).grown hg (by simp; omega) HM.out.own_ge)
  have HROW := Lib.hid hrow
  rw [hv]
  clear hv hmine hg hrow HM HM1 HR2
  go_wp2
  go_ret
  exact ⟨g, c2, rfl, hc2, HROW.out, HB2.out⟩

def sameB (xs ys : List Int) : Bool := decide (xs = ys)

theorem same_no (xs ys : List Int) (k : Nat) (h : xs[k]?.getD 0 ≠ ys[k]?.getD 0) : sameB xs ys = false := by
  simp only [sameB, decide_eq_false_iff_not]
  rintro rfl
  exact h rfl

theorem same_len (xs ys : List Int) (h : xs.length ≠ ys.length) : sameB xs ys = false := by
  simp only [sameB, decide_eq_false_iff_not]
  rintro rfl
  exact h rfl

theorem same_yes (xs ys : List Int) (hl : xs.length = ys.length) (h : ∀ i, i < xs.length → xs[i]?.getD 0 = ys[i]?.getD 0) : sameB xs ys = true := by
  simp only [sameB, decide_eq_true_eq]
  refine List.ext_getElem hl fun i h1 h2 => ?_
  have := h i h1
  rw [List.getElem?_eq_getElem h1, List.getElem?_eq_getElem h2] at this
  simpa using this

def SamePost (w : World) (q : Bool) (e : Ending) (w' : World) : Prop := e = .returned (.bool q) ∧ ∃ j, w' = w.drewN j

def SameRel (w : World) (n : Nat) (xs ys : List Int) (i : Value) (wr : World) : Prop :=
  ∃ k j : Nat, k ≤ n ∧ i = .int .i64 k ∧ wr = w.drewN j ∧ ∀ i, i < k → xs[i]?.getD 0 = ys[i]?.getD 0

theorem SameInts_any (A : Option Addr) (n c : Nat) (xs : List Int) (A' : Option Addr) (n' c' : Nat) (ys : List Int) (w : World) {B B' : Nat} (h : Row w B A n xs) (h' : Row w B' A' n' ys) :
    Calls Try.prog 32 #[.slice A n c, .slice A' n' c'] w (SamePost w (sameB xs ys)) := by
  have hn := h.small
  have hn' := h'.small
  have HR := Lib.hid h
  have HR' := Lib.hid h'
  clear h h'
  by_cases hne : n = n'
  · subst hne
    go_enter Try.func32, Try.ntmps32
    go_wp2
    go_loopw [5] (fun i wr => SameRel w n xs ys i wr) (fun i _ => n - (intOf i).toNat)
    case atStart => exact ⟨0, 0, Nat.zero_le _, rfl, rfl, fun i hi => absurd hi (by omega)⟩
    case round =>
      obtain ⟨k, j, hk, rfl, rfl, hall⟩ := hrel
      have HALL := Lib.hid hall
      clear hall
      by_cases hlt : k < n
      · obtain ⟨b, off, hA, _, hcell⟩ := HR.out.at_ (by omega)
        obtain ⟨b', off', hA', _, hcell'⟩ := HR'.out.at_ (by omega)
        subst hA hA'
        have hc := hcell k hlt
        have hc' := hcell' k hlt
        have HN := Lib.hid (same_no xs ys k)
        have HX : Hid (xs[k]?.getD 0 = ys[k]?.getD 0 → ∀ i, i < k + 1 → xs[i]?.getD 0 = ys[i]?.getD 0) := fun hx i hi => by
          rcases Nat.lt_or_ge i k with h | h
          · exact HALL.out i h
          · obtain rfl : i = k := by omega
            exact hx
        clear hcell hcell'
        generalize xs[k]?.getD 0 = x at *
        generalize ys[k]?.getD 0 = y at *
        by_cases hxy : x = y
        · have HX2 := Lib.hid (HX.out hxy)
          clear HX HN
          subst hxy
          go_wp2
          go_quiet (fail)
          go_wp2
          go_roundw
          case rel => exact ⟨k + 1, _, by omega, by go_num, rfl, HX2.out⟩
          case measure => simp [intOf]; omega
        · have hb : (x != y) = true := by simp [hxy]
          go_wp2
          go_quiet (fail)
          go_wp2
          go_ret
          exact ⟨ret_bool (HN.out hxy), _, World.drewN_drewN _ _ _⟩
      · go_wp2
        go_ret
        exact ⟨ret_bool (same_yes xs ys (by rw [HR.out.len, HR'.out.len]) (fun i hi => HALL.out i (by rw [HR.out.len] at hi; omega))), j, rfl⟩
  · have hb : ((n : Int) != (n' : Int)) = true := by simp; omega
    go_enter Try.func32, Try.ntmps32
    go_wp2
    go_ret
    exact ⟨ret_bool (same_len xs ys (by rw [HR.out.len, HR'.out.len]; exact hne)), 0, rfl⟩

theorem SameInts0_any (A : Option Addr) (n c : Nat) (xs : List Int) (A' : Option Addr) (n' c' : Nat) (ys : List Int) (w : World) {B B' : Nat} (h : Row w B A n xs) (h' : Row w B' A' n' ys) :
    Calls Try.prog 20 #[.slice A n c, .slice A' n' c'] w (SamePost w (sameB xs ys)) := by
  have HR := Lib.hid h
  have HR' := Lib.hid h'
  clear h h'
  go_enter Try.func20, Try.ntmps20
  go_wp2_with fail
  refine (SameInts_any A n c xs A' n' c' ys _ HR.out HR'.out).mono ?_
  rintro e w1 ⟨rfl, j, rfl⟩
  go_wp2
  go_ret
  exact ⟨rfl, j, rfl⟩

theorem mark_get (xs : List Int) (n : Nat) (h : xs.length = n) : (xs ++ [-7777, -8888])[n]?.getD 0 = -7777 ∧ (xs ++ [-7777, -8888])[n + 1]?.getD 0 = -8888 := by
  subst h
  simp

theorem KeptInts_any (g n c : Nat) (xs : List Int) (A' : Option Addr) (c' : Nat) (w : World) {B B' : Nat} (h : Row w B (some ⟨g, 0, none⟩) (n + 2) (xs ++ [-7777, -8888])) (hx : xs.length = n) (hc : n + 2 ≤ c) (h' : Row w B' A' n xs) :
    Calls Try.prog 16 #[.slice (some ⟨g, 0, none⟩) n c, .slice A' n c'] w (SamePost w true) := by
  have hn := h.small
  have HR : Hid (Row w B (some ⟨g, 0, none⟩) n xs) := by
    have := h.head (k := n) (by omega)
    rw [List.take_left' hx] at this
    exact this
  have HR' := Lib.hid h'
  obtain ⟨b, off, hA, _, hcell⟩ := h.at_ (by omega)
  injection hA with hA
  injection hA with e1 e2
  subst e1 e2
  have hc1 := hcell n (by omega)
  have hc2 := hcell (n + 1) (by omega)
  rw [(mark_get xs n hx).1] at hc1
  rw [(mark_get xs n hx).2] at hc2
  simp only [Nat.zero_add] at hc1 hc2
  have HSB : Hid (sameB xs xs = true) := by show _ = _; simp [sameB]
  clear hcell h h'
  have HX := Lib.hid hx
  clear hx
  go_enter Try.func16, Try.ntmps16
  go_wp2_with fail
  refine (SameInts0_any _ n c xs A' n c' xs _ HR.out HR'.out).mono ?_
  rintro e w1 ⟨rfl, j, rfl⟩
  rw [HSB.out]
  go_wp2
  go_ret
  exact ⟨rfl, j, rfl⟩

end Go.Proofs.Ytefgnaldiggnnaa
