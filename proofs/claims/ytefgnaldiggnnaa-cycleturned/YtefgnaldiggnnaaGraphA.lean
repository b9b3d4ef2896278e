/-
  Rows of links; joins, and the reference's Vertex.
-/
import Derived.Test.YtefgnaldiggnnaaGrow
import Derived.Test.YtefgnaldiggnnaaWithinA
import Derived.Test.YtefgnaldiggnnaaMeter
set_option maxRecDepth 20000
namespace Go.Proofs.Ytefgnaldiggnnaa
open Go.RowKit

def linkE : Elt Lk where
  z := (0, 0, 0)
  enc p := [.int .i64 p.1, .int .i64 p.2.1, .int .i64 p.2.2]
  T := 42
  L := 22
  size := 3
  bytes := 24
  len _ := rfl
  one _ u hu := by
    simp only [List.mem_cons, List.not_mem_nil, or_false] at hu
    rcases hu with rfl | rfl | rfl <;> rfl
  pos := by decide
  und := Try.underlying22
  info := by kernel_rfl

def bd64 (x : Int) : Prop := -9223372036854775808 ≤ x ∧ x ≤ 9223372036854775807

structure Lks (w : World) (B : Nat) (A : Option Addr) (n : Nat) (ls : List Lk) : Prop where
  row : Elts linkE w B A n ls
  ok : ∀ i : Nat, bd64 (at3 ls i).1 ∧ bd64 (at3 ls i).2.1 ∧ bd64 (at3 ls i).2.2

theorem Lks.len {w : World} {B : Nat} {A : Option Addr} {n : Nat} {ls : List Lk} (h : Lks w B A n ls) : ls.length = n := h.row.len

theorem Lks.small {w : World} {B : Nat} {A : Option Addr} {n : Nat} {ls : List Lk} (h : Lks w B A n ls) : n ≤ 9223372036854775807 := h.row.small

theorem Lks.grown {w w' : World} {B : Nat} {A : Option Addr} {n : Nat} {ls : List Lk} (h : Lks w B A n ls) (hB : B ≤ w.heap.size) (k : w.grownBy w' none) : Lks w' B A n ls := ⟨h.row.grown hB k, h.ok⟩

theorem Lks.wide {w : World} {B B' : Nat} {A : Option Addr} {n : Nat} {ls : List Lk} (h : Lks w B A n ls) (k : B ≤ B') : Lks w B' A n ls := ⟨h.row.wide k, h.ok⟩

theorem Lks.drewN {w : World} {B : Nat} {A : Option Addr} {n : Nat} {ls : List Lk} (h : Lks w B A n ls) (k : Nat) : Lks (w.drewN k) B A n ls := ⟨h.row.drewN k, h.ok⟩

theorem Lks.cells {w : World} {B : Nat} {A : Option Addr} {n : Nat} {ls : List Lk} (h : Lks w B A n ls) (hn : 0 < n) :
    ∃ b off, A = some ⟨b, off, none⟩ ∧ b < B ∧ ∀ i, i < n → w.cell? ⟨b, off + i * 3, none⟩ = some (.int .i64 (at3 ls i).1) ∧ w.cell? ⟨b, off + i * 3 + 1, none⟩ = some (.int .i64 (at3 ls i).2.1) ∧ w.cell? ⟨b, off + i * 3 + 2, none⟩ = some (.int .i64 (at3 ls i).2.2) := by
  obtain ⟨b, off, hA, hb, hc⟩ := h.row.at_ hn
  exact ⟨b, off, hA, hb, fun i hi => ⟨hc i hi 0 _ rfl, hc i hi 1 _ rfl, hc i hi 2 _ rfl⟩⟩

def InG (w : World) (A : Option Addr) (n c : Nat) (ls : List Lk) : Prop := Lks w w.heap.size A n ls ∧ n ≤ c ∧ c * 24 ≤ 140737488351232 ∧ (A = none → c = 0)

theorem box1 {w w1 : World} {T : TypeId} (vs : List Value) (h : (w.alloc (.cells vs.toArray T)).grownBy w1 none) : w.grownBy w1 none ∧ Own w1 w.heap.size T vs :=
  ⟨grown_trans (grow0 w _) h, (Own.new w T vs).kept h⟩

theorem box2 {w w1 : World} {T U : TypeId} (vs us : List Value) (h : ((w.alloc (.cells vs.toArray T)).alloc (.cells us.toArray U)).grownBy w1 none) :
    w.grownBy w1 none ∧ Own w1 w.heap.size T vs ∧ Own w1 (w.heap.size + 1) U us := by
  obtain ⟨g, o⟩ := box1 us h
  obtain ⟨g', o'⟩ := box1 vs g
  have e : (w.alloc (.cells vs.toArray T)).heap.size = w.heap.size + 1 := by simp
  rw [e] at o
  exact ⟨g', o', o⟩

theorem Own.three {w : World} {g : Nat} {T : TypeId} {x y z : Value} (h : Own w g T [x, y, z]) : w.cell? ⟨g, 0, none⟩ = some x ∧ w.cell? ⟨g, 1, none⟩ = some y ∧ w.cell? ⟨g, 2, none⟩ = some z := ⟨h.cell 0, h.cell 1, h.cell 2⟩

theorem RVertex_any (V v : Int) (A : Option Addr) (n c : Nat) (w : World) :
    Calls Try.prog 34 #[.agg #[.int .i64 V, .slice A n c], .int .i64 v] w (Says w (.bool (isV V v))) := by
  by_cases h0 : 0 ≤ v
  · by_cases h1 : v < V
    · go_enter Try.func34, Try.ntmps34
      go_wp2
      go_ret
      exact ⟨ret_bool (isV_yes h0 h1), grow0 _ _⟩
    · go_enter Try.func34, Try.ntmps34
      go_wp2
      go_ret
      exact ⟨ret_bool (isV_no1 (by omega)), grow0 _ _⟩
  · go_enter Try.func34, Try.ntmps34
    go_wp2
    go_ret
    exact ⟨ret_bool (isV_no0 (by omega)), grow0 _ _⟩

theorem joins_any (V f t cp : Int) (A : Option Addr) (n c : Nat) (w : World) :
    Calls Try.prog 45 #[.agg #[.int .i64 V, .slice A n c], .agg #[.int .i64 f, .int .i64 t, .int .i64 cp]] w (Says w (.bool (joinsB V f t))) := by
  go_enter Try.func45, Try.ntmps45
  go_wp2_with fail
  refine (Vert2_any V f t A n c _ (by simp)).mono ?_
  rintro e w1 ⟨rfl, g1⟩
  obtain ⟨g, o2, o3⟩ := box2 [.int .i64 V, .slice A n c] [.int .i64 f, .int .i64 t, .int .i64 cp] g1
  obtain ⟨c0, c1⟩ := o2.two
  obtain ⟨d0, d1, d2⟩ := o3.three
  have G := Lib.hid g
  clear g g1 o2 o3
  have HJ : Hid (joinsB V f t = ((isV V f && isV V t) && !(f == t))) := rfl
  cases hf : (isV V f && isV V t)
  · have HJ2 : Hid (joinsB V f t = false) := by rw [HJ.out, hf]; rfl
    clear HJ hf
    go_wp2
    go_ret
    exact ⟨ret_bool HJ2.out, G.out⟩
  · by_cases hft : f = t
    · have hb : (f == t) = true := by simp [hft]
      have HJ2 : Hid (joinsB V f t = false) := by rw [HJ.out, hf, hb]; rfl
      clear HJ hf
      subst hft
      go_wp2
      go_ret
      exact ⟨ret_bool HJ2.out, G.out⟩
    · have hb : (f == t) = false := by simp [hft]
      have HJ2 : Hid (joinsB V f t = true) := by rw [HJ.out, hf, hb]; rfl
      have hb2 : (f != t) = true := by simp [hft]
      clear HJ hf
      go_wp2
      go_ret
      exact ⟨ret_bool HJ2.out, G.out⟩

end Go.Proofs.Ytefgnaldiggnnaa
