import Derived.Test.YthblaieneglddaaElts
import Derived.Test.YthblaieneglddaaSpanA
namespace Go.Proofs.Ythblaieneglddaa
open Go.RowKit

def spanE : Elt (Int × Int) where
  z := (0, 0)
  enc p := [.int .i64 p.1, .int .i64 p.2]
  T := 23
  L := 31
  size := 2
  bytes := 16
  len _ := rfl
  one _ u hu := by
    simp only [List.mem_cons, List.not_mem_nil, or_false] at hu
    rcases hu with rfl | rfl <;> rfl
  pos := by decide
  und := Try.underlying31
  info := by kernel_rfl

abbrev Sps (w : World) (B : Nat) (A : Option Addr) (n : Nat) (xs : List (Int × Int)) : Prop := Elts spanE w B A n xs

def at2 (xs : List (Int × Int)) (i : Nat) : Int × Int := xs[i]?.getD (0, 0)

theorem Sps_cells {w : World} {B : Nat} {A : Option Addr} {n : Nat} {xs : List (Int × Int)} (h : Sps w B A n xs) (hn : 0 < n) :
    ∃ b off, A = some ⟨b, off, none⟩ ∧ b < B ∧ ∀ i, i < n → w.cell? ⟨b, off + i * 2, none⟩ = some (.int .i64 (at2 xs i).1) ∧ w.cell? ⟨b, off + i * 2 + 1, none⟩ = some (.int .i64 (at2 xs i).2) := by
  obtain ⟨b, off, hA, hb, hc⟩ := h.at_ hn
  exact ⟨b, off, hA, hb, fun i hi => ⟨hc i hi 0 _ rfl, hc i hi 1 _ rfl⟩⟩

theorem Sps_len {w : World} {B : Nat} {A : Option Addr} {n : Nat} {xs : List (Int × Int)} (h : Sps w B A n xs) : xs.length = n := h.len

def sameS (xs ys : List (Int × Int)) : Bool := decide (xs = ys)

theorem sameS_no (xs ys : List (Int × Int)) (k : Nat) (h : at2 xs k ≠ at2 ys k) : sameS xs ys = false := by
  simp only [sameS, decide_eq_false_iff_not]
  rintro rfl
  exact h rfl

theorem sameS_len (xs ys : List (Int × Int)) (h : xs.length ≠ ys.length) : sameS xs ys = false := by
  simp only [sameS, decide_eq_false_iff_not]
  rintro rfl
  exact h rfl

theorem sameS_yes (xs ys : List (Int × Int)) (hl : xs.length = ys.length) (h : ∀ i, i < xs.length → at2 xs i = at2 ys i) : sameS xs ys = true := by
  simp only [sameS, decide_eq_true_eq]
  refine List.ext_getElem hl fun i h1 h2 => ?_
  have := h i h1
  simp only [at2, List.getElem?_eq_getElem h1, List.getElem?_eq_getElem h2] at this
  simpa using this

def SameSPost (w : World) (q : Bool) (e : Ending) (w' : World) : Prop := e = .returned (.bool q) ∧ ∃ j, w' = w.drewN j

def SameSRel (w : World) (n : Nat) (xs ys : List (Int × Int)) (i : Value) (wr : World) : Prop :=
  ∃ k j : Nat, k ≤ n ∧ i = .int .i64 k ∧ wr = w.drewN j ∧ ∀ i, i < k → at2 xs i = at2 ys i

theorem SameSpans_any (A : Option Addr) (n c : Nat) (xs : List (Int × Int)) (A' : Option Addr) (n' c' : Nat) (ys : List (Int × Int)) (w : World) {B B' : Nat} (h : Sps w B A n xs) (h' : Sps w B' A' n' ys) :
    Calls Try.prog 19 #[.slice A n c, .slice A' n' c'] w (SameSPost w (sameS xs ys)) := by
  have hn := h.small
  have hn' := h'.small
  have HR := Lib.hid h
  have HR' := Lib.hid h'
  clear h h'
  by_cases hne : n = n'
  · subst hne
    go_enter Try.func19, Try.ntmps19
    go_wp2
    go_loopw [5] (fun i wr => SameSRel w n xs ys i wr) (fun i _ => n - (intOf i).toNat)
    case atStart => exact ⟨0, 0, Nat.zero_le _, rfl, rfl, fun i hi => absurd hi (by omega)⟩
    case round =>
      obtain ⟨k, j, hk, rfl, rfl, hall⟩ := hrel
      have HALL := Lib.hid hall
      clear hall
      by_cases hlt : k < n
      · obtain ⟨b, off, hA, _, hcell⟩ := Sps_cells HR.out (by omega)
        obtain ⟨b', off', hA', _, hcell'⟩ := Sps_cells HR'.out (by omega)
        subst hA hA'
        obtain ⟨c0, c1⟩ := hcell k hlt
        obtain ⟨d0, d1⟩ := hcell' k hlt
        have HN := Lib.hid (sameS_no xs ys k)
        have HX : Hid (at2 xs k = at2 ys k → ∀ i, i < k + 1 → at2 xs i = at2 ys i) := fun hx i hi => by
          rcases Nat.lt_or_ge i k with h | h
          · exact HALL.out i h
          · obtain rfl : i = k := by omega
            exact hx
        clear hcell hcell'
        generalize at2 xs k = x at *
        generalize at2 ys k = y at *
        by_cases hxy : x = y
        · have HX2 := Lib.hid (HX.out hxy)
          clear HX HN
          subst hxy
          go_wp2
          go_quiet (fail)
          go_wp2
          go_roundw
          case rel => exact ⟨k + 1, _, by omega, by go_num, rfl, HX2.out⟩
          case measure => simp [intOf]; omega
        · have HXY := Lib.hid hxy
          obtain ⟨x1, x2⟩ := x
          obtain ⟨y1, y2⟩ := y
          have hb : ¬ (x1 = y1 ∧ x2 = y2) := by simpa using hxy
          clear hxy
          by_cases h1 : x1 = y1
          · subst h1
            have h2 : ¬ x2 = y2 := by simpa using hb
            have h3 : (x2 == y2) = false := by simp [h2]
            clear hb
            go_wp2
            go_quiet (fail)
            go_wp2
            go_ret
            exact ⟨ret_bool (HN.out HXY.out), _, World.drewN_drewN _ _ _⟩
          · have h3 : (x1 == y1) = false := by simp [h1]
            clear hb
            go_wp2
            go_quiet (fail)
            go_wp2
            go_ret
            exact ⟨ret_bool (HN.out HXY.out), _, World.drewN_drewN _ _ _⟩
      · go_wp2
        go_ret
        exact ⟨ret_bool (sameS_yes xs ys (by rw [Sps_len HR.out, Sps_len HR'.out]) (fun i hi => HALL.out i (by rw [Sps_len HR.out] at hi; omega))), j, rfl⟩
  · have hb : ((n : Int) != (n' : Int)) = true := by simp; omega
    go_enter Try.func19, Try.ntmps19
    go_wp2
    go_ret
    exact ⟨ret_bool (sameS_len xs ys (by rw [Sps_len HR.out, Sps_len HR'.out]; exact hne)), 0, rfl⟩

end Go.Proofs.Ythblaieneglddaa
