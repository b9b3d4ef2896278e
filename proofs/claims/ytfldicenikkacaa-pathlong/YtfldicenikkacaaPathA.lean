/-
  slices.Index, slices.Contains, the reference's links and twice.
-/
import Derived.Test.YtfldicenikkacaaOwnB
import Derived.Test.YtfldicenikkacaaMathPath
namespace Go.Proofs.Ytfldicenikkacaa
open Go.RowKit

def IdxRel (w : World) (n : Nat) (x : Int) (xs : List Int) (i : Value) (wr : World) : Prop :=
  ∃ k : Nat, k ≤ n ∧ i = .int .i64 (k : Nat) ∧ w.grownBy wr none ∧ ∀ j, j < k → ¬ xs[j]?.getD 0 = x

theorem Index_any (x : Int) (A : Option Addr) (n c : Nat) (xs : List Int) (w : World) {B : Nat} (h : Row w B A n xs) :
    Calls Try.prog 61 #[.slice A n c, .int .i64 x] w (Says w (.int .i64 (idxV x xs))) := by
  have hn := h.small
  have HL := Lib.hid h.len
  have HR := Lib.hid h
  clear h
  have HS : Hid (IdxRel w n x xs (.int .i64 0) w) := ⟨0, Nat.zero_le _, rfl, World.grownBy.refl w none, by omega⟩
  go_enter Try.func61, Try.ntmps61
  go_wp2
  go_loopw [8] (fun i wr => IdxRel w n x xs i wr) (fun i _ => n - (intOf i).toNat)
  case atStart => exact HS.out
  case round =>
    clear HS
    obtain ⟨k, hk, rfl, hg, hno⟩ := hrel
    have G := Lib.hid hg
    have HNO := Lib.hid hno
    by_cases hlt : k < n
    · obtain ⟨b, off, hA, hb, hcell⟩ := HR.out.at_ (by omega)
      subst hA
      have d0 := kept hg (hcell k hlt)
      clear hcell hg hno
      by_cases he : xs[k]?.getD 0 = x
      · have E := Lib.hid (idxV_some (by rw [HL.out]; exact hlt) he HNO.out)
        rw [he] at d0
        clear he
        have hxx : (x == x) = true := by simp
        go_wp2
        go_ret
        exact ⟨ret_int E.out.symm, G.out⟩
      · have HN := Lib.hid he
        have hxx : (x == xs[k]?.getD 0) = false := by simp; exact fun e => he e.symm
        have HNO2 : Hid (∀ j, j < k + 1 → ¬ xs[j]?.getD 0 = x) := fun j hj => by
          rcases Nat.lt_or_ge j k with a | a
          · exact HNO.out j a
          · obtain rfl : j = k := by omega
            exact HN.out
        clear he HN HNO
        generalize xs[k]?.getD 0 = y at *
        go_wp2
        go_roundw
        case rel => exact ⟨k + 1, by omega, by go_num, G.out, HNO2.out⟩
        case measure => simp [intOf]; omega
    · obtain rfl : k = n := by omega
      have E := Lib.hid (idxV_none (x := x) (xs := xs) (by rw [HL.out]; exact HNO.out))
      clear hg hno
      go_wp2
      go_ret
      exact ⟨ret_int E.out.symm, G.out⟩

theorem Contains_any (x : Int) (A : Option Addr) (n c : Nat) (xs : List Int) (w : World) {B : Nat} (h : Row w B A n xs) :
    Calls Try.prog 58 #[.slice A n c, .int .i64 x] w (Says w (.bool (decide (x ∈ xs)))) := by
  have HR := Lib.hid h
  clear h
  go_enter Try.func58, Try.ntmps58
  go_wp2_with fail
  refine (Index_any x A n c xs _ HR.out).mono ?_
  rintro e w1 ⟨rfl, g1⟩
  have E := Lib.hid (idxV_ge x xs)
  generalize idxV x xs = y at *
  go_wp2
  go_ret
  exact ⟨ret_bool E.out.symm, g1⟩

def AreRel (w : World) (V : Int) (A : Option Addr) (n c m : Nat) (xs : List Int) (i : Value) (wr : World) : Prop :=
  ∃ k : Nat, k ≤ m ∧ i = .int .i64 (k : Nat) ∧ w.grownBy wr none ∧ Own wr w.heap.size 24 [.int .i64 V, .slice A n c] ∧ allL n (xs.take k) = true

theorem allV_links (n : Nat) (xs : List Int) : allV (n : Int) xs = allL n xs := rfl

def linksR (n : Nat) (xs : List Int) : Bool := decide (xs.length ≤ 64) && allL n xs

theorem links_any (V : Int) (A : Option Addr) (n c : Nat) (X : Option Addr) (m d : Nat) (xs : List Int) (w : World) {B : Nat} (h : Row w B X m xs) :
    Calls Try.prog 57 #[.agg #[.int .i64 V, .slice A n c], .slice X m d] w (Says w (.bool (linksR n xs))) := by
  have hm := h.small
  have HL := Lib.hid h.len
  have HR := Lib.hid h
  clear h
  by_cases hmm : m ≤ 64
  · have HQ : Hid (linksR n xs = allL n xs) := by rw [Hid, linksR, HL.out]; simp [hmm]
    have HS : Hid (AreRel w V A n c m xs (.int .i64 0) (w.alloc (.cells #[.int .i64 V, .slice A n c] 24))) := ⟨0, Nat.zero_le _, rfl, grow0 _ _, Own.new w 24 [.int .i64 V, .slice A n c], rfl⟩
    go_enter Try.func57, Try.ntmps57
    go_wp2
    go_loopw [5] (fun i wr => AreRel w V A n c m xs i wr) (fun i _ => m - (intOf i).toNat)
    case atStart => exact HS.out
    case round =>
      clear HS
      obtain ⟨k, hk, rfl, hg, ob, hall⟩ := hrel
      have G := Lib.hid hg
      have HA := Lib.hid hall
      obtain ⟨c0, c1⟩ := ob.two
      have O := Lib.hid ob
      by_cases hlt : k < m
      · obtain ⟨b, off, hA, hb, hcell⟩ := HR.out.at_ (by omega)
        subst hA
        have d0 := kept hg (hcell k hlt)
        have HN := Lib.hid (allL_step (n := n) (xs := xs) (k := k) (by rw [HL.out]; exact hlt))
        have HX := Lib.hid (allL_no (n := n) (xs := xs) (k := k) (by rw [HL.out]; exact hlt))
        have hbd := HR.out.ok k
        clear hcell hg hall ob
        generalize xs[k]?.getD 0 = y at *
        by_cases h0 : y < 0
        · have E : Hid (linksR n xs = false) := HQ.out.trans (HX.out (by simp [linkB]; omega))
          clear HN HX HQ
          go_wp2_with fail
          go_quiet (fail)
          go_wp2
          go_ret
          exact ⟨ret_bool E.out, grown_drewN G.out _⟩
        · by_cases h1 : y < (n : Int)
          · have E : Hid (allL n (xs.take (k + 1)) = true) := by rw [Hid, HN.out, HA.out]; simp [linkB]; omega
            clear HN HX
            go_wp2_with fail
            go_quiet (fail)
            go_wp2
            go_roundw
            case rel => exact ⟨k + 1, by omega, by go_num, grown_drewN G.out _, O.out.drewN _, E.out⟩
            case measure => simp [intOf]; omega
          · have E : Hid (linksR n xs = false) := HQ.out.trans (HX.out (by simp [linkB]; omega))
            clear HN HX HQ
            go_wp2_with fail
            go_quiet (fail)
            go_wp2
            go_ret
            exact ⟨ret_bool E.out, grown_drewN G.out _⟩
      · obtain rfl : k = m := by omega
        have E : Hid (linksR n xs = true) := by
          have := HA.out
          rw [List.take_of_length_le (by rw [HL.out]; exact Nat.le_refl _)] at this
          exact HQ.out.trans this
        clear hg hall ob HQ
        go_wp2
        go_ret
        exact ⟨ret_bool E.out, G.out⟩
  · have E : Hid (linksR n xs = false) := by rw [Hid, linksR, HL.out]; simp [hmm]
    go_enter Try.func57, Try.ntmps57
    go_wp2
    go_ret
    exact ⟨ret_bool E.out, grow0 _ _⟩

def TwiceRel (w : World) (n : Nat) (xs : List Int) (i : Value) (wr : World) : Prop :=
  ∃ k : Nat, k ≤ n ∧ i = .int .i64 (k : Nat) ∧ w.grownBy wr none ∧ noDup (xs.take k) = true

def TwiceIn (w : World) (k : Nat) (x : Int) (xs : List Int) (i : Value) (wr : World) : Prop :=
  ∃ j : Nat, j ≤ k ∧ i = .int .i64 (j : Nat) ∧ w.grownBy wr none ∧ ∀ t, t < j → ¬ xs[t]?.getD 0 = x

theorem nodup_next {xs : List Int} {k : Nat} (hk : k < xs.length) (h : noDup (xs.take k) = true) (n : ∀ t, t < k → ¬ xs[t]?.getD 0 = xs[k]?.getD 0) : noDup (xs.take (k + 1)) = true := by
  rw [nodup_step hk, h]
  have : ¬ xs[k]?.getD 0 ∈ xs.take k := not_mem_of fun j hj => by
    rw [List.length_take] at hj
    rw [List.getElem?_take_of_lt (by omega)]
    exact n j (by omega)
  simp [this]

theorem twice_any (A : Option Addr) (n c : Nat) (xs : List Int) (w : World) {B : Nat} (h : Row w B A n xs) :
    Calls Try.prog 59 #[.slice A n c] w (Says w (.bool (!noDup xs))) := by
  have hn := h.small
  have HL := Lib.hid h.len
  have HR := Lib.hid h
  clear h
  have HS : Hid (TwiceRel w n xs (.int .i64 0) w) := ⟨0, Nat.zero_le _, rfl, World.grownBy.refl w none, rfl⟩
  go_enter Try.func59, Try.ntmps59
  go_wp2
  go_loopw [3] (fun i wr => TwiceRel w n xs i wr) (fun i _ => n - (intOf i).toNat)
  case atStart => exact HS.out
  case round =>
    clear HS
    obtain ⟨k, hk, rfl, hg, hno⟩ := hrel
    have G := Lib.hid hg
    have HNO := Lib.hid hno
    by_cases hlt : k < n
    · obtain ⟨b, off, hA, hb, hcell⟩ := HR.out.at_ (by omega)
      subst hA
      have HC := Lib.hid hcell
      have HN := Lib.hid (nodup_next (xs := xs) (k := k) (by rw [HL.out]; exact hlt) hno)
      have HX : Hid (∀ t, t < k → xs[t]?.getD 0 = xs[k]?.getD 0 → noDup xs = false) := fun t ht e => nodup_stop (k := k) (by rw [HL.out]; exact hlt) (e ▸ mem_take_of ht (by rw [HL.out]; omega))
      have HC0 := Lib.hid (hcell k hlt)
      have HS : Hid (TwiceIn w k (xs[k]?.getD 0) xs (.int .i64 0) wr) := ⟨0, Nat.zero_le _, rfl, hg, by omega⟩
      clear hcell hg hno HNO
      generalize xs[k]?.getD 0 = y at *
      go_wp2
      go_loopw [4] (fun i wr => TwiceIn w k y xs i wr) (fun i _ => k - (intOf i).toNat)
      case atStart => exact HS.out
      case round =>
        clear HS G
        obtain ⟨j, hj, rfl, hg, hnj⟩ := hrel
        have d0 := kept hg HC0.out
        have G := Lib.hid hg
        have HNJ := Lib.hid hnj
        by_cases hlj : j < k
        · have d1 := kept hg (HC.out j (by omega))
          clear hg hnj
          by_cases he : xs[j]?.getD 0 = y
          · have E := Lib.hid (HX.out j hlj he)
            have hyy : (y == y) = true := by simp
            rw [he] at d1
            clear he HN HX HC HC0
            go_wp2_with fail
            go_quiet (fail)
            go_wp2
            go_ret
            exact ⟨ret_bool (by rw [E.out]; rfl), grown_drewN G.out _⟩
          · have HNO2 : Hid (∀ t, t < j + 1 → ¬ xs[t]?.getD 0 = y) := fun t ht => by
              rcases Nat.lt_or_ge t j with a | a
              · exact HNJ.out t a
              · obtain rfl : t = j := by omega
                exact he
            have hyy : (y == xs[j]?.getD 0) = false := by simp; exact fun e => he e.symm
            clear he HNJ
            generalize xs[j]?.getD 0 = z at *
            go_wp2_with fail
            go_quiet (fail)
            go_wp2
            go_roundw
            case rel => exact ⟨j + 1, by omega, by go_num, grown_drewN G.out _, HNO2.out⟩
            case measure => simp [intOf]; omega
        · obtain rfl : j = k := by omega
          have E := Lib.hid (HN.out HNJ.out)
          clear hg hnj d0
          go_wp2
          go_roundw
          case rel => exact ⟨j + 1, by omega, by go_num, G.out, E.out⟩
          case measure => simp [intOf]; omega
    · obtain rfl : k = n := by omega
      have E : Hid (noDup xs = true) := by
        have := HNO.out
        rwa [List.take_of_length_le (by rw [HL.out]; exact Nat.le_refl _)] at this
      clear hg hno
      go_wp2
      go_ret
      exact ⟨ret_bool (by rw [E.out]; rfl), G.out⟩

end Go.Proofs.Ytfldicenikkacaa
