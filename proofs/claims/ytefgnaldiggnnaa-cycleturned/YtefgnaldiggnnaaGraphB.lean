/-
  Total and May.
-/
import Derived.Test.YtefgnaldiggnnaaGraphA
set_option maxRecDepth 20000
namespace Go.Proofs.Ytefgnaldiggnnaa
open Go.RowKit

def totV (V : Int) (ls : List Lk) : Value := .tuple #[.int .i64 (totX V ls), .int .i64 (totE V ls)]

theorem ret_two {a b c d : Int} (h : c = a) (k : d = b) : Ending.returned (.tuple #[.int .i64 a, .int .i64 b]) = .returned (.tuple #[.int .i64 c, .int .i64 d]) := by rw [h, k]

theorem ret_fit {p q : Bool} {a b : Int} (h : q = p) (k : b = a) : Ending.returned (.tuple #[.bool p, .int .i64 a]) = .returned (.tuple #[.bool q, .int .i64 b]) := by rw [h, k]

theorem tot_none {V : Int} {ls : List Lk} (h : totalOf V ls = none) : totX V ls = 0 ∧ totE V ls = 400 := by simp [totX, totE, mayG, h]
theorem tot_some {V s : Int} {ls : List Lk} (h : totalOf V ls = some s) : totX V ls = s ∧ totE V ls = 0 := by simp [totX, totE, mayG, h]

theorem tot_form {V : Int} {ls : List Lk} {n : Nat} (hl : ls.length = n) (h : V < 2 ∨ 8 < V ∨ 16 < n) : totX V ls = 0 ∧ totE V ls = 400 := by
  refine tot_none ?_
  unfold totalOf
  rw [if_neg]
  simp only [formOk, decide_eq_true_eq]
  omega

theorem tot_go {V : Int} {ls : List Lk} {n : Nat} (hl : ls.length = n) (h0 : 2 ≤ V) (h1 : V ≤ 8) (h2 : n ≤ 16) : totalOf V ls = capsFrom V 0 ls := by
  unfold totalOf
  rw [if_pos]
  simp only [formOk, decide_eq_true_eq]
  omega

def TotRel (w : World) (V : Int) (A : Option Addr) (n c : Nat) (ls : List Lk) (i : Value) (wr : World) : Prop :=
  ∃ (k : Nat) (acc : Int), k ≤ n ∧ i = .int .i64 (k : Nat) ∧ w.grownBy wr none ∧ Own wr w.heap.size 24 [.int .i64 V, .slice A n c] ∧ Own wr (w.heap.size + 1) 58 [.int .i64 acc] ∧
    capsFrom V acc (ls.drop k) = totalOf V ls ∧ 0 ≤ acc ∧ acc ≤ 4611686018427387904

theorem GTotal_any (V : Int) (A : Option Addr) (n c : Nat) (ls : List Lk) (w : World) {B : Nat} (h : Lks w B A n ls) :
    Calls Try.prog 42 #[.agg #[.int .i64 V, .slice A n c]] w (Says w (totV V ls)) := by
  have hn := h.small
  have hlen := h.len
  by_cases h1 : V < 2
  · obtain ⟨e1, e2⟩ := tot_form (V := V) hlen (.inl h1)
    have E1 := Lib.hid e1
    have E2 := Lib.hid e2
    clear h hlen e1 e2
    go_enter Try.func42, Try.ntmps42
    go_wp2
    go_ret2
    exact ⟨ret_two E1.out E2.out, grow0 _ _⟩
  by_cases h2 : 8 < V
  · obtain ⟨e1, e2⟩ := tot_form (V := V) hlen (.inr (.inl h2))
    have E1 := Lib.hid e1
    have E2 := Lib.hid e2
    clear h hlen e1 e2
    go_enter Try.func42, Try.ntmps42
    go_wp2
    go_ret2
    exact ⟨ret_two E1.out E2.out, grow0 _ _⟩
  by_cases h3 : 16 < n
  · obtain ⟨e1, e2⟩ := tot_form (V := V) hlen (.inr (.inr h3))
    have E1 := Lib.hid e1
    have E2 := Lib.hid e2
    clear h hlen e1 e2
    go_enter Try.func42, Try.ntmps42
    go_wp2
    go_ret2
    exact ⟨ret_two E1.out E2.out, grow0 _ _⟩
  have hn16 : ¬ (16 : Int) < (n : Int) := by omega
  have hd16 : decide ((16 : Int) < (n : Int)) = false := by simp; omega
  have HGO := Lib.hid (tot_go (V := V) hlen (by omega) (by omega) (by omega))
  have HL := Lib.hid hlen
  have HR := Lib.hid h
  have HS : Hid (TotRel w V A n c ls (.int .i64 0) ((w.alloc (.cells #[.int .i64 V, .slice A n c] 24)).alloc (.cells #[.int .i64 0] 58))) := by
    obtain ⟨a, b, d⟩ := box2 [.int .i64 V, .slice A n c] [.int .i64 0] (World.grownBy.refl ((w.alloc (.cells #[.int .i64 V, .slice A n c] 24)).alloc (.cells #[.int .i64 0] 58)) none)
    exact ⟨0, 0, Nat.zero_le _, rfl, a, b, d, by rw [HGO.out]; rfl, by omega, by omega⟩
  clear h hlen HGO
  go_enter Try.func42, Try.ntmps42
  go_wp2
  go_loopw [24] (fun i wr => TotRel w V A n c ls i wr) (fun i _ => n - (intOf i).toNat)
  case atStart => exact HS.out
  case round =>
    clear HS
    obtain ⟨k, acc, hk, rfl, hg, o1, o4, hcap, ha0, ha1⟩ := hrel
    have G := Lib.hid hg
    have hsz := hg.size
    have l4 := o4.lt
    have l1 := o1.lt
    by_cases hlt : k < n
    · obtain ⟨b, off, hA, hb, hcell⟩ := HR.out.cells (by omega)
      subst hA
      obtain ⟨d0, d1, d2⟩ := hcell k hlt
      have d0 := kept hg d0
      have d1 := kept hg d1
      have d2 := kept hg d2
      have HBD := Lib.hid (HR.out.ok k).2.2
      have HOK := Lib.hid (fun x => (caps_step (V := V) (acc := acc) (ls := ls) (k := k) (by rw [HL.out]; exact hlt) x).symm.trans hcap)
      have HNO := Lib.hid (fun x => (caps_stop (V := V) (acc := acc) (ls := ls) (k := k) (by rw [HL.out]; exact hlt) x).symm.trans hcap)
      obtain ⟨c1, c2⟩ := o1.two
      have O1 := Lib.hid o1
      have O4 := Lib.hid o4
      clear hcell hcap hg o1 o4
      generalize at3 ls k = l at *
      obtain ⟨f, t, cp⟩ := l
      simp only at d0 d1 d2
      go_wp2_with fail
      refine (joins_any V f t cp (some ⟨b, off, none⟩) n c _).mono ?_
      rintro e w2 ⟨rfl, hg2⟩
      obtain ⟨g2, o6⟩ := box1 [.int .i64 f, .int .i64 t, .int .i64 cp] hg2
      have O1 := Lib.hid (O1.out.kept g2)
      have O4 := Lib.hid (O4.out.kept g2)
      have G2 := Lib.hid (grown_trans G.out g2)
      have hsz2 := g2.size
      have l6 := o6.lt
      obtain ⟨c6, c7, c8⟩ := o6.three
      clear o6 g2 hg2 d0 d1 d2 G c1 c2
      cases hj : joinsB V f t
      · have E := Lib.hid (tot_none (HNO.out (by simp [linkOk, hj])).symm)
        clear HNO HOK
        go_wp2
        go_ret2
        exact ⟨ret_two E.out.1 E.out.2, G2.out⟩
      · have HRow := Lib.hid (Row.one (w := w2) cp HBD.out)
        go_wp2_with fail
        refine (MeterAdd_any (w.heap.size + 1) 58 acc [] _ 1 1 [cp] _ HRow.out (O4.out.alloc _) ha0 ha1).mono ?_
        rintro e w3 ⟨rfl, ho', hg'⟩
        have g3 : w2.grownBy w3 (some (w.heap.size + 1)) := grown_trans (grown_alloc (World.grownBy.refl _ _) _) hg'
        have G3 := Lib.hid (grown_none G2.out g3 (by intro g hg; injection hg with hg; omega))
        by_cases hc : 0 ≤ cp ∧ cp ≤ 4611686018427387904 - acc
        · obtain ⟨ea, eb⟩ := add_one hc
          rw [ea] at ho'
          have O4' := Lib.hid ho'
          have O1' := Lib.hid (O1.out.kept' g3 (by simp))
          have HC := Lib.hid (HOK.out (by simp [linkOk, hj, hc]))
          rw [eb]
          clear ea eb ho' hg' g3 HNO HOK
          go_wp2
          go_roundw
          case rel => exact ⟨k + 1, acc + cp, by omega, by go_num, G3.out, O1'.out, O4'.out, HC.out, by omega, by omega⟩
          case measure => simp [intOf]; omega
        · have eb := add_one_no hc
          have E := Lib.hid (tot_none (HNO.out (by simp [linkOk, hj, hc])).symm)
          rw [eb]
          clear eb ho' hg' g3 HNO HOK hc
          go_wp2
          go_ret2
          exact ⟨ret_two E.out.1 E.out.2, G3.out⟩
    · have E := Lib.hid (tot_some ((caps_end (V := V) (acc := acc) (ls := ls) (k := k) (by rw [HL.out]; omega)).symm.trans hcap).symm)
      have c4 : wr.cell? ⟨w.heap.size + 1, 0, none⟩ = some (.int .i64 acc) := o4.cell 0
      clear hcap o1 o4 hg
      go_wp2_with fail
      refine (Total_any (w.heap.size + 1) acc _ c4).mono ?_
      rintro e w2 ⟨rfl, rfl⟩
      go_wp2
      go_ret2
      exact ⟨ret_two E.out.1 E.out.2, G.out⟩

theorem GMay_any (V : Int) (A : Option Addr) (n c : Nat) (ls : List Lk) (w : World) {B : Nat} (h : Lks w B A n ls) (hB : B ≤ w.heap.size) :
    Calls Try.prog 35 #[.agg #[.int .i64 V, .slice A n c]] w (Says w (.bool (mayG V ls))) := by
  have HR := Lib.hid (h.grown hB (grow0 w (.cells #[.int .i64 V, .slice A n c] 24)))
  clear h
  go_enter Try.func35, Try.ntmps35
  go_wp2_with fail
  refine (GTotal_any V A n c ls _ HR.out).mono ?_
  rintro e w1 ⟨rfl, g1⟩
  have G := Lib.hid (box1 [.int .i64 V, .slice A n c] g1).1
  unfold totV
  have e1 : (totE V ls == 0) = mayG V ls := by
    unfold totE
    cases mayG V ls <;> rfl
  clear g1
  go_wp2
  go_ret
  exact ⟨ret_bool rfl, G.out⟩

end Go.Proofs.Ytefgnaldiggnnaa
