/-
  level.heads: of each vertex those to which its arcs with room go.
-/
import Derived.Test.YtodjehljnmfbpaaLevelA
import Derived.Test.YtodjehljnmfbpaaJB
import Derived.Test.YtodjehljnmfbpaaJF
import Derived.Test.YtodjehljnmfbpaaJE
set_option maxRecDepth 20000
namespace Go.Proofs.Ytodjehljnmfbpaa
open Go.RowKit

def isSl : Value → Bool
  | .slice _ _ _ => true
  | _ => false

/-- A row of numbers lies in no block of slices. -/
theorem Row.off {w : World} {B : Nat} {A : Option Addr} {n : Nat} {xs : List Int} {g i : Nat} {T : TypeId} {vs : List Value} (h : Row w B A n xs) (o : Own w g T vs) (hs : ∀ u ∈ vs, isSl u = true) (u : Value) : Row (w.setCell ⟨g, i, none⟩ u) B A n xs := by
  refine ⟨h.len, h.small, h.ok, fun hn => ?_⟩
  obtain ⟨b, off, hA, hb, hc⟩ := h.at_ hn
  refine ⟨b, off, hA, hb, fun j hj => other_get (fun e => ?_) (hc j hj)⟩
  subst e
  have h0 := hc 0 hn
  rw [o.cell] at h0
  have := hs _ (List.mem_of_getElem? h0)
  simp [isSl] at this

theorem Rows3.off {w : World} {B : Nat} {Ax Ay Az : Option Addr} {s o h : List Int} {g i : Nat} {T : TypeId} {vs : List Value} (t : Rows3 w B Ax Ay Az s o h) (ow : Own w g T vs) (hs : ∀ u ∈ vs, isSl u = true) (u : Value) : Rows3 (w.setCell ⟨g, i, none⟩ u) B Ax Ay Az s o h :=
  ⟨t.S.off ow hs u, t.O.off ow hs u, t.H.off ow hs u⟩

theorem Rows3.wide {w : World} {B B' : Nat} {Ax Ay Az : Option Addr} {s o h : List Int} (t : Rows3 w B Ax Ay Az s o h) (k : B ≤ B') : Rows3 w B' Ax Ay Az s o h := ⟨t.S.wide k, t.O.wide k, t.H.wide k⟩

/-- The first k of these values are the rows of hd. -/
def Nexts (w : World) (B : Nat) (vs : List Value) (hd : Nat → List Int) (k : Nat) : Prop := ∀ v, v < k → ∃ A c, vs[v]? = some (.slice A (hd v).length c) ∧ Row w B A (hd v).length (hd v)

theorem Nexts.grown' {w w' : World} {B : Nat} {vs : List Value} {hd : Nat → List Int} {k : Nat} {row : Option Nat} (t : Nexts w B vs hd k) (hB : B ≤ w.heap.size) (g : w.grownBy w' row) (hr : ∀ g, row = some g → B ≤ g) : Nexts w' B vs hd k := by
  intro v hv
  obtain ⟨A, c, e, r⟩ := t v hv
  exact ⟨A, c, e, r.grown' hB g hr⟩

theorem Nexts.off {w : World} {B : Nat} {vs us : List Value} {hd : Nat → List Int} {k g i : Nat} {T : TypeId} (t : Nexts w B vs hd k) (o : Own w g T us) (hs : ∀ u ∈ us, isSl u = true) (u : Value) : Nexts (w.setCell ⟨g, i, none⟩ u) B vs hd k := by
  intro v hv
  obtain ⟨A, c, e, r⟩ := t v hv
  exact ⟨A, c, e, r.off o hs u⟩

theorem Nexts.next {w : World} {B B' : Nat} {vs : List Value} {hd : Nat → List Int} {k : Nat} {A : Option Addr} {c : Nat} (t : Nexts w B vs hd k) (hB : B ≤ B') (hk : k < vs.length) (r : Row w B' A (hd k).length (hd k)) : Nexts w B' (vs.set k (.slice A (hd k).length c)) hd (k + 1) := by
  intro v hv
  by_cases e : v = k
  · subst e
    exact ⟨A, c, by rw [List.getElem?_set_self hk], r⟩
  · obtain ⟨A', c', e', r'⟩ := t v (by omega)
    exact ⟨A', c', by rw [List.getElem?_set_ne (by omega)]; exact e', r'.wide hB⟩

def HeadsPost (w : World) (vn : Nat) (hd : Nat → List Int) (e : Ending) (w' : World) : Prop :=
  ∃ g vs, e = .returned (.slice (some ⟨g, 0, none⟩) vn vn) ∧ w.heap.size ≤ g ∧ Own w' g 25 vs ∧ vs.length = vn ∧ Nexts w' w'.heap.size vs hd vn ∧ w.grownBy w' none

theorem info25 : (Try.prog.info? 25).map (fun i => (i.zero, i.size, i.bytes)) = some (some (.slice none 0 0), 1, 24) := by kernel_rfl

theorem ord_mono (ls : List Lk) (n a : Nat) : ∀ b, a ≤ b → (ordA ls n a).length ≤ (ordA ls n b).length
  | 0, h => by
    obtain rfl : a = 0 := by omega
    exact Nat.le_refl _
  | b + 1, h => by
    by_cases e : a = b + 1
    · rw [e]; exact Nat.le_refl _
    · have := ord_mono ls n a b (by omega)
      rw [ordA, List.length_append]
      omega

theorem ord_at (ls : List Lk) (n : Nat) : ∀ (vn k j : Nat), k < vn → j < (rowA ls (k : Int) (2 * n)).length → (ordA ls n vn)[(ordA ls n k).length + j]?.getD 0 = (rowA ls (k : Int) (2 * n))[j]?.getD 0
  | 0, _, _, h, _ => by omega
  | vn + 1, k, j, h, hj => by
    have hl : (ordA ls n (k + 1)).length = (ordA ls n k).length + (rowA ls (k : Int) (2 * n)).length := by rw [ordA, List.length_append]
    by_cases e : k < vn
    · rw [ordA, List.getElem?_append_left ?_]
      · exact ord_at ls n vn k j e hj
      · have := ord_mono ls n (k + 1) vn (by omega)
        omega
    · obtain rfl : k = vn := by omega
      rw [ordA, List.getElem?_append_right (by omega)]
      congr 2
      omega

def HdMid (wr : World) (k : Nat) (row : List Int) (a b c d : Value) (wx : World) : Prop :=
  ∃ Ar cr, a = .int .i64 (k : Nat) ∧ b = .slice Ar row.length cr ∧ c = .int .i64 (row.length : Nat) ∧ d = .int .i64 0 ∧ Row wr wr.heap.size Ar row.length row ∧ wr.grownBy wx none

theorem row_cut {w : World} {B : Nat} {A A' : Option Addr} {n c : Nat} {xs : List Int} {s r : Nat} {row : List Int} (h : Row w B A n xs) (hs : s + r ≤ n) (hc : n ≤ c) (hr : row.length = r) (he : ∀ j, j < r → xs[s + j]?.getD 0 = row[j]?.getD 0) (hA : ¬ c = s → A' = A.map (·.add s)) : Row w B A' r row := by
  have e : row = (xs.drop s).take r := by
    refine List.ext_getElem ?_ fun i h1 h2 => ?_
    · have := h.len
      simp; omega
    · have := he i (by omega)
      rw [List.getElem?_eq_getElem h1] at this
      rw [List.getElem_take, List.getElem_drop]
      have h3 : s + i < xs.length := by have := h.len; omega
      rw [List.getElem?_eq_getElem h3] at this
      exact this.symm
  rw [e]
  by_cases k : c = s
  · obtain rfl : r = 0 := by omega
    refine ⟨by simp, by omega, fun i => by simp, fun hn => by omega⟩
  · exact (h.tail (k := s) (by omega) (fun _ => hA k)).head (by omega)

theorem set_sl {vs : List Value} {k : Nat} {x : Value} (h : ∀ u ∈ vs, isSl u = true) (hx : isSl x = true) : ∀ u ∈ vs.set k x, isSl u = true := by
  intro u hu
  rcases List.mem_or_eq_of_mem_set hu with e | e
  · exact h u e
  · rw [e]; exact hx

theorem set_self {vs : List Value} {k : Nat} {x : Value} (h : vs[k]? = some x) : vs.set k x = vs := by
  apply List.ext_getElem?
  intro i
  by_cases e : i = k
  · subst e
    rw [List.getElem?_set_self (List.getElem?_eq_some_iff.1 h).1, h]
  · rw [List.getElem?_set_ne (by omega)]

theorem hd_in {vn n : Nat} {ls : List Lk} {caps f : List Int} (hm : mayG (vn : Nat) ls = true) (hl : ls.length = n) (v : Int) : ∀ x ∈ hdOf ls caps f n v, inV vn x := fun x hx => (leads_in hm hl v x (hd_mem.2 hx)).2

theorem hd_ok {vn n : Nat} {ls : List Lk} {caps f : List Int} (hm : mayG (vn : Nat) ls = true) (hl : ls.length = n) (v : Int) : okI (hdOf ls caps f n v) :=
  get_ok fun x hx => by
    have := hd_in hm hl v x hx
    have h8 := may_small hm
    have h1 := this.1
    have h2 := this.2
    omega

end Go.Proofs.Ytodjehljnmfbpaa
