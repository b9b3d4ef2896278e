import Derived.Test.YthblaieneglddaaSpanB
namespace Go.Proofs.Ythblaieneglddaa
open Go.RowKit

def cov : List (Int × Int) → Int → Int → Option (Int × Int)
  | [], a, b => some (a, b)
  | p :: r, a, b => if spanMay p.1 p.2 then cov r (if p.1 < a then p.1 else a) (if b < p.2 then p.2 else b) else none

def coverOf (xs : List (Int × Int)) : Option (Int × Int) :=
  match xs with
  | [] => none
  | p :: r => cov (p :: r) p.1 p.2

def covP (o : Option (Int × Int)) : Int × Int := o.getD (0, 0)
def covE (o : Option (Int × Int)) : Int := if o.isSome then 0 else 200

def covV (o : Option (Int × Int)) : Value := .tuple #[span (covP o).1 (covP o).2, .int .i64 (covE o)]

theorem coverOf_pos {xs : List (Int × Int)} (h : 0 < xs.length) : coverOf xs = cov (xs.drop 0) (at2 xs 0).1 (at2 xs 0).2 := by
  cases xs with
  | nil => simp at h
  | cons p r => rfl

theorem cov_step {xs : List (Int × Int)} {k : Nat} (h : k < xs.length) (a b : Int) :
    cov (xs.drop k) a b = if spanMay (at2 xs k).1 (at2 xs k).2 then cov (xs.drop (k + 1)) (if (at2 xs k).1 < a then (at2 xs k).1 else a) (if b < (at2 xs k).2 then (at2 xs k).2 else b) else none := by
  rw [List.drop_eq_getElem_cons h]
  simp only [cov, at2, List.getElem?_eq_getElem h, Option.getD_some]

theorem Own.setAt0 {w : World} {g : Nat} {T : TypeId} {x y : Value} (h : Own w g T [x, y]) (u : Value) : Own (w.setCell ⟨g, 0, none⟩ u) g T [u, y] := h.set0

theorem Own.setAt1 {w : World} {g : Nat} {T : TypeId} {x y : Value} (h : Own w g T [x, y]) (u : Value) : Own (w.setCell ⟨g, 1, none⟩ u) g T [x, u] := by
  unfold Own at h ⊢
  simp [World.setCell, Array.getElem?_modify, h]

theorem Own.drewN {w : World} {g : Nat} {T : TypeId} {vs : List Value} (h : Own w g T vs) (k : Nat) : Own (w.drewN k) g T vs := h

theorem Own.setOther {w : World} {g k j : Nat} {T : TypeId} {vs : List Value} (h : Own w g T vs) (n : ¬ k = g) (u : Value) : Own (w.setCell ⟨k, j, none⟩ u) g T vs :=
  h.keep (Below.heap_setCell w ⟨k, j, none⟩ u g (by show g ≠ k; omega))

def CoverRel (w : World) (n : Nat) (xs : List (Int × Int)) (i : Value) (wr : World) : Prop :=
  ∃ k a b, k ≤ n ∧ i = .int .i64 (k : Nat) ∧ w.grownBy wr none ∧ Own wr w.heap.size 23 [.int .i64 0, .int .i64 0] ∧ Own wr (w.heap.size + 1) 23 [.int .i64 a, .int .i64 b] ∧ cov (xs.drop k) a b = coverOf xs

theorem Cover_nil (A : Option Addr) (c : Nat) (w : World) : Calls Try.prog 16 #[.slice A 0 c] w (Says w (covV (coverOf []))) := by
  go_enter Try.func16, Try.ntmps16
  go_wp2
  have o := Own.new w 23 [.int .i64 0, .int .i64 0]
  refine post_cell2 rfl rfl o.two.1 o.two.2 rfl ⟨rfl, grow0 _ _⟩

theorem Cover_any (A : Option Addr) (n c : Nat) (xs : List (Int × Int)) (w : World) {B : Nat} (h : Sps w B A n xs) (hB : B ≤ w.heap.size) :
    Calls Try.prog 16 #[.slice A n c] w (Says w (covV (coverOf xs))) := by
  have hn := h.small
  have hlen := Sps_len h
  rcases Nat.eq_zero_or_pos n with h0 | hpos
  · subst h0
    obtain rfl : xs = [] := List.eq_nil_of_length_eq_zero hlen
    exact Cover_nil A c w
  have HR := Lib.hid h
  have HL := Lib.hid hlen
  obtain ⟨b, off, hA, hb, hcell⟩ := Sps_cells h hpos
  subst hA
  have HC := Lib.hid hcell
  clear h hlen
  obtain ⟨d0, d1⟩ := hcell 0 hpos
  rw [Nat.zero_mul, Nat.add_zero] at d0 d1
  have HS : Hid (CoverRel w n xs (.int .i64 0) ((w.alloc (.cells #[.int .i64 0, .int .i64 0] 23)).alloc (.cells #[.int .i64 (at2 xs 0).1, .int .i64 (at2 xs 0).2] 23))) := by
    obtain ⟨h1, h2, h3⟩ := boxes2 (World.grownBy.refl ((w.alloc (.cells #[.int .i64 0, .int .i64 0] 23)).alloc (.cells #[.int .i64 (at2 xs 0).1, .int .i64 (at2 xs 0).2] 23)) none)
    exact ⟨0, _, _, Nat.zero_le _, rfl, h1, h2, h3, (coverOf_pos (by rw [HL.out]; exact hpos)).symm⟩
  have e0 : (w.alloc (.cells #[.int .i64 0, .int .i64 0] 23)).cell? ⟨b, off, none⟩ = some (.int .i64 (at2 xs 0).1) := by rw [World.cell?_alloc_lt _ _ _ (by show b < _; omega)]; exact d0
  have e1 : (w.alloc (.cells #[.int .i64 0, .int .i64 0] 23)).cell? ⟨b, off + 1, none⟩ = some (.int .i64 (at2 xs 0).2) := by rw [World.cell?_alloc_lt _ _ _ (by show b < _; omega)]; exact d1
  clear hcell d0 d1
  generalize at2 xs 0 = p0 at *
  have hnz : ((n : Int) == 0) = false := by simp; omega
  go_enter Try.func16, Try.ntmps16
  go_wp2
  go_loopw [16] (fun i wr => CoverRel w n xs i wr) (fun i _ => n - (intOf i).toNat)
  case atStart => exact HS.out
  case round =>
    clear HS e0 e1
    obtain ⟨k, x, y, hk, rfl, hg, o2, o4, hcov⟩ := hrel
    have G := Lib.hid hg
    have hsz := hg.size
    have l2 := o2.lt
    have l4 := o4.lt
    by_cases hlt : k < n
    · obtain ⟨d0, d1⟩ := HC.out k hlt
      have d0 := kept hg d0
      have d1 := kept hg d1
      have HCOV := Lib.hid ((cov_step (by rw [HL.out]; exact hlt) x y).symm.trans hcov)
      clear hcov hg
      generalize at2 xs k = p at *
      obtain ⟨p, q⟩ := p
      go_wp2_with fail
      refine (May_any p q _).mono ?_
      rintro e w2 ⟨rfl, hg2⟩
      obtain ⟨g2, o6⟩ := boxes1 hg2
      have o2 := o2.kept g2
      have o4 := o4.kept g2
      have G2 := Lib.hid (grown_trans G.out g2)
      obtain ⟨c2, c3⟩ := o2.two
      obtain ⟨c4, c5⟩ := o4.two
      obtain ⟨c6, c7⟩ := o6.two
      have f2 := o2.frozen 0
      have f3 := o2.frozen 1
      have f4 := o4.frozen 0
      have f5 := o4.frozen 1
      have n1 : ¬ wr.heap.size = w.heap.size := by omega
      have n2 : ¬ wr.heap.size = w.heap.size + 1 := by omega
      have n3 : ¬ w.heap.size = wr.heap.size := by omega
      have n4 : ¬ w.heap.size + 1 = wr.heap.size := by omega
      have n5 : ¬ w.heap.size + 1 = w.heap.size := by omega
      have O2 := Lib.hid o2
      have O4 := Lib.hid o4
      clear o2 o4 o6 g2 hg2 d0 d1 G
      cases hm : spanMay p q
      · have HCV := HCOV.out
        simp only [hm] at HCV
        go_wp2
        refine post_cell2 rfl rfl (set_get c2 c3).1 (set_get c2 c3).2 rfl ⟨?_, grown_new (grown_new G2.out (Nat.le_refl _) _) (Nat.le_refl _) _⟩
        rw [← HCV]
        rfl
      · have HCV := HCOV.out
        simp only [hm, if_true] at HCV
        clear HCOV
        by_cases h1 : p < x
        · by_cases h2 : y < q
          · rw [if_pos h1, if_pos h2] at HCV
            have HCV := Lib.hid HCV
            go_wp2
            go_roundw
            case rel => exact ⟨k + 1, _, _, by omega, by go_num, grown_new (grown_new G2.out (by omega) _) (by omega) _, (O2.out.setOther n5 _).setOther n5 _, (O4.out.setAt0 _).setAt1 _, HCV.out⟩
            case measure => simp [intOf]; omega
          · rw [if_pos h1, if_neg h2] at HCV
            have HCV := Lib.hid HCV
            go_wp2
            go_roundw
            case rel => exact ⟨k + 1, _, _, by omega, by go_num, grown_new G2.out (by omega) _, O2.out.setOther n5 _, O4.out.setAt0 _, HCV.out⟩
            case measure => simp [intOf]; omega
        · by_cases h2 : y < q
          · rw [if_neg h1, if_pos h2] at HCV
            have HCV := Lib.hid HCV
            go_wp2
            go_roundw
            case rel => exact ⟨k + 1, _, _, by omega, by go_num, grown_new G2.out (by omega) _, O2.out.setOther n5 _, O4.out.setAt1 _, HCV.out⟩
            case measure => simp [intOf]; omega
          · rw [if_neg h1, if_neg h2] at HCV
            have HCV := Lib.hid HCV
            go_wp2
            go_roundw
            case rel => exact ⟨k + 1, _, _, by omega, by go_num, G2.out, O2.out, O4.out, HCV.out⟩
            case measure => simp [intOf]; omega
    · have hd : xs.drop k = [] := List.drop_eq_nil_of_le (by rw [HL.out]; omega)
      have HCV : Hid (coverOf xs = some (x, y)) := by rw [hd] at hcov; exact hcov.symm
      have n5 : ¬ w.heap.size + 1 = w.heap.size := by omega
      obtain ⟨c2, c3⟩ := o2.two
      obtain ⟨c4, c5⟩ := o4.two
      have f2 := o2.frozen 0
      have f3 := o2.frozen 1
      clear hcov hd o2 o4
      go_wp2
      refine post_cell2 rfl rfl (set_get c2 c3).1 (set_get c2 c3).2 rfl ⟨?_, grown_new (grown_new G.out (Nat.le_refl _) _) (Nat.le_refl _) _⟩
      rw [HCV.out]
      rfl

end Go.Proofs.Ythblaieneglddaa
