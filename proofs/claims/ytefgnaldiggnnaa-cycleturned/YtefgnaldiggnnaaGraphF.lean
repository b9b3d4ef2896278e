/-
  CopyGraph, SameGraph.
-/
import Derived.Test.YtefgnaldiggnnaaGraphE
set_option maxRecDepth 20000
namespace Go.Proofs.Ytefgnaldiggnnaa
open Go.RowKit

theorem far {w w' : World} {row : Option Nat} {b i : Nat} {v : Value} (h : w.grownBy w' row) (hr : row ≠ some b) (k : w.cell? ⟨b, i, none⟩ = some v) : w'.cell? ⟨b, i, none⟩ = some v :=
  (grown_cell h (block_lt k) hr).trans k

def CopyGPost (w : World) (V : Int) (n : Nat) (ls : List Lk) (e : Ending) (w' : World) : Prop :=
  ∃ v, e = .returned (.agg #[.int .i64 V, v]) ∧ MineE linkE w' w.heap.size v n ls ∧ w.grownBy w' none

theorem CopyGraph_any (V : Int) (A : Option Addr) (n c : Nat) (ls : List Lk) (w : World) {B : Nat} (h : Lks w B A n ls) (hB : B ≤ w.heap.size) (hnil : A = none → c = 0) (hr : n * 24 ≤ 140737488355328) :
    Calls Try.prog 22 #[.agg #[.int .i64 V, .slice A n c]] w (CopyGPost w V n ls) := by
  obtain ⟨g0, o1, o2⟩ := box2 [.int .i64 V, .slice A n c] [.int .i64 0, .slice none 0 0] (World.grownBy.refl ((w.alloc (.cells #[.int .i64 V, .slice A n c] 24)).alloc (.cells #[.int .i64 0, .slice none 0 0] 24)) none)
  have hsz : ((w.alloc (.cells #[.int .i64 V, .slice A n c] 24)).alloc (.cells #[.int .i64 0, .slice none 0 0] 24)).heap.size = w.heap.size + 2 := by simp
  have HNIL := Lib.hid hnil
  clear hnil
  go_enter Try.func22, Try.ntmps22
  go_upto_region 1 with fail
  generalize (w.alloc (.cells #[.int .i64 V, .slice A n c] 24)).alloc (.cells #[.int .i64 0, .slice none 0 0] 24) = w2 at *
  obtain ⟨c0, c1⟩ := o1.two
  obtain ⟨d0, d1⟩ := o2.two
  have HR := Lib.hid (h.row.grown hB g0)
  have G := Lib.hid g0
  have O2 := Lib.hid o2
  have f0 := o2.frozen 0
  have f1 := o2.frozen 1
  clear h g0 o1 o2
  have hmine : MineE linkE (w2.alloc (.cells #[] 42)).drew (w.heap.size + 2) (.slice (some ⟨w.heap.size + 2, 0, none⟩) 0 0) 0 [] := MineE.lit (E := linkE) (w := w2.drew) (base := w.heap.size + 2) (g := w.heap.size + 2) [] 0 hsz.symm rfl rfl (by show _ ≤ w2.heap.size; omega) (by simp)
  have hrow : Elts linkE (w2.alloc (.cells #[] 42)).drew B A n ls := HR.out.grown (by omega) (grown_drew (grow0 _ _))
  have HM := Lib.hid hmine
  have HR1 := Lib.hid hrow
  have q0 : (w2.alloc (.cells #[] 42)).drew.cell? ⟨w.heap.size, 0, none⟩ = some (.int .i64 V) := kept (grown_drew (grow0 _ _)) c0
  have q1 : (w2.alloc (.cells #[] 42)).drew.cell? ⟨w.heap.size, 1, none⟩ = some (.slice A n c) := kept (grown_drew (grow0 _ _)) c1
  have Q0 := Lib.hid q0
  have Q1 := Lib.hid q1
  have GA : Hid (w.grownBy (w2.alloc (.cells #[] 42)).drew none) := grown_drew (grown_alloc G.out _)
  have OA : Hid (Own (w2.alloc (.cells #[] 42)).drew (w.heap.size + 1) 24 [.int .i64 0, .slice none 0 0]) := O2.out.kept (grown_drew (grow0 _ _))
  clear hmine hrow q0 q1
  go_region_held3 (fun w' : World => w'.cell? ⟨w.heap.size, 0, none⟩ = some (.int .i64 V) ∧ w'.cell? ⟨w.heap.size, 1, none⟩ = some (.slice A n c)) (go_keep)
    ((refine step_appE linkE rfl _ _ (by rfl) (w.heap.size + 2) _ 0 [] (by rfl) HM.out A n c ls (by rfl) HR1.out HNIL.out (by unfold maxLen; omega) (by show _ * 24 ≤ _; omega) (by simp; omega) ?_; intro v1 w3 hm3 hg3; have k0 := far hg3 (by simp [Value.ownBlock]) Q0.out; have k1 := far hg3 (by simp [Value.ownBlock]) Q1.out; have o3 := OA.out.kept' hg3 (by simp [Value.ownBlock]); have e0 := o3.two.1; have e1 := o3.two.2; have t0 := o3.frozen 0; have t1 := o3.frozen 1; have G3 := Lib.hid (grown_none GA.out hg3 (by intro g hg; simp [Value.ownBlock] at hg; omega)); have hm4 : MineE linkE w3 (w.heap.size + 2) v1 n ls := (by simpa using hm3); have HM3 := Lib.hid hm4; obtain ⟨A1, c3, rfl, _, _, _⟩ := hm4.row; clear hm3 hm4 hg3 o3))
  all_goals go_wp2
  refine post_graph rfl rfl (set_get e0 e1).1 (set_get e0 e1).2 rfl ⟨_, rfl, ?_, ?_⟩
  · have hap : ∀ g, (Value.slice A1 n c3).ownBlock = some g → some (w.heap.size + 1) ≠ some g := by
      intro g hg e
      have := HM3.out.own_ge g hg
      injection e with e
      omega
    exact ((HM3.out.kept' (grown_set (World.grownBy.refl _ (some (w.heap.size + 1))) _) hap).kept' (grown_set (World.grownBy.refl _ (some (w.heap.size + 1))) _) hap).wide (by omega)
  · exact grown_new (grown_new G3.out (by omega) _) (by omega) _

def SameGRel (w : World) (V : Int) (A A' : Option Addr) (n c c' : Nat) (i : Value) (wr : World) : Prop :=
  ∃ k : Nat, k ≤ n ∧ i = .int .i64 (k : Nat) ∧ w.grownBy wr none ∧ Own wr w.heap.size 24 [.int .i64 V, .slice A n c] ∧ Own wr (w.heap.size + 1) 24 [.int .i64 V, .slice A' n c']

end Go.Proofs.Ytefgnaldiggnnaa
