/-
  Rows of items and of nodes; the reference's Less, ItemMay, Rate.
-/
import Derived.Test.YtgfehlmiejnonaaJC
import Derived.Test.YtgfehlmiejnonaaJA
import Derived.Test.YtgfehlmiejnonaaSpanA
set_option maxRecDepth 20000
namespace Go.Proofs.Ytgfehlmiejnonaa
open Go.RowKit

def itemE : Elt It where
  z := it0
  enc p := [.int .i64 p.1, .int .i64 p.2.1, .int .i64 p.2.2]
  T := 50
  L := 29
  size := 3
  bytes := 24
  len _ := rfl
  one _ u hu := by
    simp only [List.mem_cons, List.not_mem_nil, or_false] at hu
    rcases hu with rfl | rfl | rfl <;> rfl
  pos := by decide
  und := Try.underlying29
  info := by kernel_rfl

def nodeE : Elt Nd where
  z := nd0
  enc p := [.int .i64 p.1.1, .int .i64 p.1.2.1, .int .i64 p.1.2.2, .int .i64 p.2.1, .int .i64 p.2.2.1, .int .i64 p.2.2.2.1, .int .i64 p.2.2.2.2]
  T := 64
  L := 22
  size := 7
  bytes := 56
  len _ := rfl
  one _ u hu := by
    simp only [List.mem_cons, List.not_mem_nil, or_false] at hu
    rcases hu with rfl | rfl | rfl | rfl | rfl | rfl | rfl <;> rfl
  pos := by decide
  und := Try.underlying22
  info := by kernel_rfl

/-- An item as a value. -/
def itemV (x : It) : Value := .agg #[.int .i64 x.1, .int .i64 x.2.1, .int .i64 x.2.2]

theorem Elts.its {w : World} {B : Nat} {A : Option Addr} {n : Nat} {xs : List It} (h : Elts itemE w B A n xs) (hn : 0 < n) :
    ∃ b off, A = some ⟨b, off, none⟩ ∧ b < B ∧ ∀ i, i < n → w.cell? ⟨b, off + i * 3, none⟩ = some (.int .i64 (it xs i).1) ∧ w.cell? ⟨b, off + i * 3 + 1, none⟩ = some (.int .i64 (it xs i).2.1) ∧ w.cell? ⟨b, off + i * 3 + 2, none⟩ = some (.int .i64 (it xs i).2.2) := by
  obtain ⟨b, off, hA, hb, hc⟩ := h.at_ hn
  exact ⟨b, off, hA, hb, fun i hi => ⟨hc i hi 0 _ rfl, hc i hi 1 _ rfl, hc i hi 2 _ rfl⟩⟩

theorem Elts.nds {w : World} {B : Nat} {A : Option Addr} {n : Nat} {xs : List Nd} (h : Elts nodeE w B A n xs) (hn : 0 < n) :
    ∃ b off, A = some ⟨b, off, none⟩ ∧ b < B ∧ ∀ i, i < n → w.cell? ⟨b, off + i * 7, none⟩ = some (.int .i64 (nd xs i).1.1) ∧ w.cell? ⟨b, off + i * 7 + 1, none⟩ = some (.int .i64 (nd xs i).1.2.1) ∧ w.cell? ⟨b, off + i * 7 + 2, none⟩ = some (.int .i64 (nd xs i).1.2.2) ∧
      w.cell? ⟨b, off + i * 7 + 3, none⟩ = some (.int .i64 (nd xs i).2.1) ∧ w.cell? ⟨b, off + i * 7 + 4, none⟩ = some (.int .i64 (nd xs i).2.2.1) ∧ w.cell? ⟨b, off + i * 7 + 5, none⟩ = some (.int .i64 (nd xs i).2.2.2.1) ∧ w.cell? ⟨b, off + i * 7 + 6, none⟩ = some (.int .i64 (nd xs i).2.2.2.2) := by
  obtain ⟨b, off, hA, hb, hc⟩ := h.at_ hn
  exact ⟨b, off, hA, hb, fun i hi => ⟨hc i hi 0 _ rfl, hc i hi 1 _ rfl, hc i hi 2 _ rfl, hc i hi 3 _ rfl, hc i hi 4 _ rfl, hc i hi 5 _ rfl, hc i hi 6 _ rfl⟩⟩

theorem Less_any (a1 a2 a3 b1 b2 b3 : Int) (w : World) :
    Calls Try.prog 36 #[.agg #[.int .i64 a1, .int .i64 a2, .int .i64 a3], .agg #[.int .i64 b1, .int .i64 b2, .int .i64 b3]] w (Says w (.bool (lessB (a1, a2, a3) (b1, b2, b3)))) := by
  have HB := Lib.hid (box2 (w := w) (T := 50) (U := 50) [.int .i64 a1, .int .i64 a2, .int .i64 a3] [.int .i64 b1, .int .i64 b2, .int .i64 b3] (World.grownBy.refl _ none))
  go_enter Try.func36, Try.ntmps36
  by_cases h1 : a1 = b1
  · subst h1
    by_cases h2 : a2 = b2
    · subst h2
      go_wp2
      go_ret
      exact ⟨ret_bool (by simp [lessB]), HB.out.1⟩
    · have e2 : (a2 != b2) = true := by simpa using h2
      go_wp2
      go_ret
      exact ⟨ret_bool (by simp [lessB, h2]), HB.out.1⟩
  · have e1 : (a1 != b1) = true := by simpa using h1
    go_wp2
    go_ret
    exact ⟨ret_bool (by simp [lessB, h1]), HB.out.1⟩

theorem RRate_says (x : Int) (w : World) : Calls Try.prog 53 #[.int .i64 x] w (Says w (.bool (decide (0 ≤ x) && decide (x ≤ 4611686018427387904)))) := by
  go_enter Try.func53, Try.ntmps53
  by_cases h : 0 ≤ x
  · go_wp2
    go_ret
    exact ⟨ret_bool (by simp [h]), World.grownBy.refl _ _⟩
  · go_wp2
    go_ret
    exact ⟨ret_bool (by simp; omega), World.grownBy.refl _ _⟩

set_option maxHeartbeats 1000000 in
theorem ItemMay_any (a b c : Int) (w : World) :
    Calls Try.prog 32 #[.agg #[.int .i64 a, .int .i64 b, .int .i64 c]] w (Says w (.bool (itB (a, b, c)))) := by
  go_enter Try.func32, Try.ntmps32
  go_wp2_with fail
  refine (SpanMay_any a b _).mono ?_
  rintro e w1 ⟨rfl, g1⟩
  obtain ⟨g, o2⟩ := box1 [.int .i64 a, .int .i64 b, .int .i64 c] g1
  obtain ⟨c0, c1, c2⟩ := o2.three
  have G := Lib.hid g
  clear g1 g o2
  cases hs : spanMay a b
  · go_wp2
    go_ret
    exact ⟨ret_bool (by simp [itB, hs]), G.out⟩
  · go_wp2_with fail
    refine (RRate_says c _).mono ?_
    rintro e w2 ⟨rfl, g2⟩
    have G := Lib.hid (grown_trans G.out g2)
    clear g2
    go_wp2
    go_ret
    exact ⟨ret_bool (by simp [itB, hs]), G.out⟩

end Go.Proofs.Ytgfehlmiejnonaa
