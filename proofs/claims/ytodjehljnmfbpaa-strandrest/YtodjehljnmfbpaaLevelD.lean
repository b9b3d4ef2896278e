/-
  level.Levels.
-/
import Derived.Test.YtodjehljnmfbpaaLevelC
set_option maxRecDepth 20000
namespace Go.Proofs.Ytodjehljnmfbpaa
open Go.RowKit

def LvPost (w : World) (V : Int) (ls : List Lk) (caps f : List Int) (s : Int) (e : Ending) (w' : World) : Prop := ∃ M z, LvIs V ls caps f s M z ∧ SelPost w M z e w'

def LevRel (w : World) (g vn : Nat) (hd : Int → List Int) (s : Int) (o i : Value) (wr : World) : Prop :=
  ∃ (a : Nat) (M Q : List Int) (Aq : Option Addr) (cq : Nat), a ≤ Q.length ∧ i = .int .i64 (a : Nat) ∧ o = .slice Aq Q.length cq ∧ w.grownBy wr none ∧ Own wr g 3 (ints M) ∧ Mine wr (g + 1) (.slice Aq Q.length cq) Q.length Q ∧ Bfs vn hd s M Q a 0

def LvIn (w : World) (g vn : Nat) (hd : Int → List Int) (s : Int) (a : Nat) (v : Int) (o i : Value) (wr : World) : Prop :=
  ∃ (j : Nat) (M Q : List Int) (Aq : Option Addr) (cq : Nat), j ≤ (hd v).length ∧ i = .int .i64 (j : Nat) ∧ o = .slice Aq Q.length cq ∧ w.grownBy wr none ∧ Own wr g 3 (ints M) ∧ Mine wr (g + 1) (.slice Aq Q.length cq) Q.length Q ∧ Bfs vn hd s M Q a j ∧ a < Q.length ∧ qAt Q a = v

theorem bfs_ok {V : Nat} {hd : Int → List Int} {s : Int} {M Q : List Int} {a j : Nat} (b : Bfs V hd s M Q a j) (h8 : V ≤ 8) : okI Q := by
  intro i
  by_cases hi : i < Q.length
  · have := b.isin i hi
    have h1 := this.1
    have h2 := this.2
    unfold qAt at h1 h2
    omega
  · rw [List.getElem?_eq_none (by omega)]
    simp

theorem lv_cell {w : World} {g : Nat} {T : TypeId} {M : List Int} {v : Nat} (h : Own w g T (ints M)) (hv : v < M.length) : w.cell? ⟨g, v, none⟩ = some (.int .i64 (lvAt M (v : Int))) := by
  rw [h.cell v, ints_get M v hv]
  simp [lvAt]

theorem lvB_may {V : Int} {ls : List Lk} {caps f : List Int} {s : Int} (h : mayG V ls = false) : lvB V ls caps f s = false := by simp [lvB, fitsF, h]
theorem lvB_caps {V : Int} {ls : List Lk} {caps f : List Int} {s : Int} (h : capsB ls caps = false) : lvB V ls caps f s = false := by simp [lvB, fitsF, h]
theorem lvB_rates {V : Int} {ls : List Lk} {caps f : List Int} {s : Int} (h : ratesB caps f = false) : lvB V ls caps f s = false := by simp [lvB, fitsF, h]
theorem lvB_src {V : Int} {ls : List Lk} {caps f : List Int} {s : Int} (h : isV V s = false) : lvB V ls caps f s = false := by simp [lvB, h]
theorem lvB_all {V : Int} {ls : List Lk} {caps f : List Int} {s : Int} (h1 : mayG V ls = true) (h2 : capsB ls caps = true) (h3 : ratesB caps f = true) (h4 : isV V s = true) : lvB V ls caps f s = true := by simp [lvB, fitsF, h1, h2, h3, h4]

theorem lv_bad {w w' : World} {V : Int} {ls : List Lk} {caps f : List Int} {s : Int} (h : lvB V ls caps f s = false) (g : w.grownBy w' none) : LvPost w V ls caps f s (.returned (.tuple #[.slice none 0 0, .int .i64 1000])) w' :=
  ⟨[], 1000, lev_no h, _, rfl, Mine.nil _ _, g⟩

end Go.Proofs.Ytodjehljnmfbpaa
