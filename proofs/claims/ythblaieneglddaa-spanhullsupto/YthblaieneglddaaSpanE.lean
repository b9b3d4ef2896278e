import Derived.Test.YthblaieneglddaaSpanD
import Derived.Test.YthblaieneglddaaHelpInts
namespace Go.Proofs.Ythblaieneglddaa
open Go.RowKit

theorem Num_any (x : Int) (w : World) : Calls Try.prog 18 #[.int .i64 x] w fun e w' => e = .returned (.int .i64 x) ∧ w = w' := by
  go_enter Try.func18, Try.ntmps18
  go_wp2
  go_ret
  exact ⟨rfl, rfl⟩

def CopySPost (w : World) (n : Nat) (xs : List (Int × Int)) (e : Ending) (w' : World) : Prop :=
  ∃ v, e = .returned v ∧ MineE spanE w' w.heap.size v n xs ∧ w.grownBy w' none

theorem grown_none {a w w' : World} {row : Option Nat} (h : a.grownBy w none) (k : w.grownBy w' row) (hr : ∀ g, row = some g → a.heap.size ≤ g) : a.grownBy w' none :=
  ⟨k.os.trans h.os, k.tape.trans h.tape, k.output.trans h.output, Nat.le_trans h.size k.size, fun i hi hne => (k.block i (Nat.lt_of_lt_of_le hi h.size) (fun e => by have := hr i e.symm; omega)).trans (h.block i hi hne)⟩

theorem CopySpans_any (A : Option Addr) (n c : Nat) (xs : List (Int × Int)) (w : World) {B : Nat} (h : Sps w B A n xs) (hB : B ≤ w.heap.size) (hnil : A = none → c = 0) (hr : n * 16 ≤ 140737488355328) :
    Calls Try.prog 15 #[.slice A n c] w (CopySPost w n xs) := by
  have HR := Lib.hid (h.grown hB (grow0 w (.cells #[] 23)))
  have HNIL := Lib.hid hnil
  have HMINE := Lib.hid (MineE.lit (E := spanE) (w := w) (base := w.heap.size) [] 0 rfl rfl rfl (Nat.le_refl _) (by simp))
  clear h hnil
  go_enter Try.func15, Try.ntmps15
  go_wp2_with (first | (at_builtin; refine wpList_appE spanE _ rfl _ _ rfl w.heap.size _ 0 [] rfl HMINE.out (B := B) A n c xs rfl HR.out HNIL.out (by unfold maxLen; omega) (by show (0 + n) * 16 ≤ _; omega) (by simp) ?_))
  intro v1 w2 hmine hg _
  have hm2 : MineE spanE w2 w.heap.size v1 n xs := hmine
  have HM2 := Lib.hid hm2
  have HB2 := Lib.hid (grown_none (grow0 w (.cells #[] 23)) hg (HMINE.out.own_ge))
  clear hmine hg hm2
  go_wp2
  go_ret
  exact ⟨_, rfl, HM2.out, HB2.out⟩

def SpoilRel (w : World) (g n cap : Nat) (i : Value) (wr : World) : Prop :=
  ∃ k cur, k ≤ n ∧ i = .int .i64 (k : Nat) ∧ w.grownBy wr (some g) ∧ wr.heap[g]? = some (.cells cur 23 (0, 0)) ∧ cur.size = cap * 2

theorem block_set {w : World} {g i : Nat} {cur : Array Value} {T : TypeId} {fr : Nat × Nat} (h : w.heap[g]? = some (.cells cur T fr)) (u : Value) :
    ∃ cur', (w.setCell ⟨g, i, none⟩ u).heap[g]? = some (.cells cur' T fr) ∧ cur'.size = cur.size := by
  refine ⟨cur.setIfInBounds i u, ?_, by simp⟩
  simp [World.setCell, Array.getElem?_modify, h]

theorem block_get {w : World} {g i : Nat} {cur : Array Value} {T : TypeId} (h : w.heap[g]? = some (.cells cur T (0, 0))) (hi : i < cur.size) : ∃ u, w.cell? ⟨g, i, none⟩ = some u ∧ w.frozen? ⟨g, i, none⟩ = false := by
  refine ⟨cur[i], ?_, by simp [World.frozen?, h]⟩
  rw [cell_of_row w g i cur T (0, 0) h]
  simp [hi]

def SpoilPost (w : World) (row : Option Nat) (e : Ending) (w' : World) : Prop := e = .returned (.tuple #[]) ∧ w.grownBy w' row

theorem SpoilSpans_any (v : Value) (n : Nat) (xs : List (Int × Int)) (w : World) {base : Nat} (h : MineE spanE w base v n xs) :
    Calls Try.prog 23 #[v] w (SpoilPost w v.ownBlock) := by
  rcases h.2 with ⟨rfl, rfl⟩ | ⟨g, cap, cur, rfl, _, hh, hnc, hm, hsz, _⟩
  · clear h
    go_enter Try.func23, Try.ntmps23
    go_wp2
    go_rounds 1
    go_end0
    exact ⟨rfl, World.grownBy.refl w _⟩
  · have hbig : n ≤ 9223372036854775807 := by unfold maxLen at hm; omega
    have HS : Hid (SpoilRel w g n cap (.int .i64 0) w) := ⟨0, cur, Nat.zero_le _, rfl, World.grownBy.refl w _, hh, hsz⟩
    clear h hh hsz hm
    go_enter Try.func23, Try.ntmps23
    go_wp2
    go_loopw [2] (fun i wr => SpoilRel w g n cap i wr) (fun i _ => n - (intOf i).toNat)
    case atStart => exact HS.out
    case round =>
      clear HS
      obtain ⟨k, cur, hk, rfl, hg, hh, hsz⟩ := hrel
      have G := Lib.hid hg
      clear hg
      by_cases hlt : k < n
      · obtain ⟨u0, c0, f0⟩ := block_get (i := k * 2) hh (by omega)
        obtain ⟨u1, c1, f1⟩ := block_get (i := k * 2 + 1) hh (by omega)
        obtain ⟨cur1, hh1, hs1⟩ := block_set (i := k * 2) hh (.int .i64 (-3))
        obtain ⟨cur2, hh2, hs2⟩ := block_set (i := k * 2 + 1) hh1 (.int .i64 (-5))
        have HH2 := Lib.hid hh2
        have hs : cur2.size = cap * 2 := by omega
        clear hh hh1 hh2
        go_wp2
        go_roundw
        case rel => exact ⟨k + 1, cur2, by omega, by go_num, grown_set (grown_set G.out _) _, HH2.out, hs⟩
        case measure => simp [intOf]; omega
      · go_wp2
        go_end0
        exact ⟨rfl, G.out⟩

end Go.Proofs.Ythblaieneglddaa
