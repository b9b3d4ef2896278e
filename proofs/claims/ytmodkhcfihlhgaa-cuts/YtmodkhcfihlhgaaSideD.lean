/-
  cut.Leaving and the reference's.
-/
import Derived.Test.YtmodkhcfihlhgaaSideC
namespace Go.Proofs.Ytmodkhcfihlhgaa
open Go.RowKit

def LvRel (w : World) (V : Int) (A : Option Addr) (n c : Nat) (L : List Lk) (vs : List Int) (o i : Value) (wr : World) : Prop :=
  ∃ k : Nat, k ≤ n ∧ i = .int .i64 (k : Nat) ∧ w.grownBy wr none ∧ Own wr w.heap.size 24 [.int .i64 V, .slice A n c] ∧ Mine wr (w.heap.size + 1) o (lv L vs k).length (lv L vs k)

theorem leav_may {V : Int} {L : List Lk} {vs : List Int} (h : mayG V L = false) : leavV V L vs = [] ∧ leavE V L vs = 800 := leav_no (by simp [leavB, h])
theorem leav_verts {V : Int} {L : List Lk} {vs : List Int} (h : vertsB V vs = false) : leavV V L vs = [] ∧ leavE V L vs = 800 := leav_no (by simp [leavB, h])
theorem leav_goes {V : Int} {L : List Lk} {vs : List Int} (h : mayG V L = true) (k : vertsB V vs = true) : leavV V L vs = lv L vs L.length ∧ leavE V L vs = 0 := leav_yes (by simp [leavB, h, k])
theorem leaves_from {vs : List Int} {f t cp : Int} (h : decide (f ∈ vs) = false) : leaves vs (f, t, cp) = false := by simp only [leaves, h, Bool.false_and]
theorem leaves_to {vs : List Int} {f t cp : Int} (h : decide (t ∈ vs) = true) : leaves vs (f, t, cp) = false := by simp only [leaves, h, Bool.not_true, Bool.and_false]
theorem leaves_yes {vs : List Int} {f t cp : Int} (h : decide (f ∈ vs) = true) (k : decide (t ∈ vs) = false) : leaves vs (f, t, cp) = true := by simp only [leaves, h, k, Bool.not_false, Bool.and_true]

set_option maxHeartbeats 2000000 in
theorem Leaving_any (V : Int) (A : Option Addr) (n c : Nat) (L : List Lk) (X : Option Addr) (m d : Nat) (vs : List Int) (w : World) {B B' : Nat} (h : Lks w B A n L) (hB : B ≤ w.heap.size) (hx : Row w B' X m vs) (hB' : B' ≤ w.heap.size) :
    Calls Try.prog 32 #[.agg #[.int .i64 V, .slice A n c], .slice X m d] w (SelPost w (leavV V L vs) (leavE V L vs)) := by
  have hn := h.small
  have HL := Lib.hid h.len
  have HR := Lib.hid h
  have HX := Lib.hid hx
  have HR1 := Lib.hid (h.grown hB (grow0 w (.cells #[.int .i64 V, .slice A n c] 24)))
  clear h hx
  go_enter Try.func32, Try.ntmps32
  go_wp2_with fail
  refine (GMay_any V A n c L _ HR1.out (by simp; omega)).mono ?_
  rintro e w1 ⟨rfl, g1⟩
  obtain ⟨g, o2⟩ := box1 [.int .i64 V, .slice A n c] g1
  obtain ⟨c0, c1⟩ := o2.two
  have G := Lib.hid g
  have O2 := Lib.hid o2
  clear g g1 o2 HR1
  cases hm : mayG V L
  · have E := Lib.hid (leav_may (vs := vs) hm)
    go_wp2
    go_ret2
    exact ⟨.slice none 0 0, ret_sel E.out.2, by rw [E.out.1]; exact Mine.nil _ _, G.out⟩
  go_wp2_with fail
  refine (areRising_any V A n c X m d vs _ (HX.out.grown hB' G.out)).mono ?_
  rintro e w2 ⟨rfl, g2⟩
  have O2 := Lib.hid (O2.out.kept g2)
  have G := Lib.hid (grown_trans G.out g2)
  clear c0 c1
  obtain ⟨c0, c1⟩ := O2.out.two
  clear g2
  cases hv : vertsB V vs
  · have E := Lib.hid (leav_verts (V := V) (L := L) hv)
    go_wp2
    go_ret2
    exact ⟨.slice none 0 0, ret_sel E.out.2, by rw [E.out.1]; exact Mine.nil _ _, G.out⟩
  have E := Lib.hid (leav_goes hm hv)
  have h16 := may_small hm
  rw [HL.out] at h16
  have HS : Hid (LvRel w V A n c L vs (.slice none 0 0) (.int .i64 0) w2) := ⟨0, Nat.zero_le _, rfl, G.out, O2.out, Mine.nil _ _⟩
  clear G hm hv
  go_wp2
  go_loopw [6, 21] (fun o i wr => LvRel w V A n c L vs o i wr) (fun _ i _ => n - (intOf i).toNat)
  case atStart => exact HS.out
  case round =>
    clear HS c0 c1 O2
    obtain ⟨k, hk, rfl, hg, o2, hmine⟩ := hrel
    have G := Lib.hid hg
    have hsz := hg.size
    have l2 := o2.lt
    have O2 := Lib.hid o2
    have HM := Lib.hid hmine
    by_cases hlt : k < n
    · obtain ⟨b, off, hA, hb, hcell⟩ := HR.out.cells (by omega)
      subst hA
      obtain ⟨d0, d1, d2⟩ := hcell k hlt
      have d0 := kept hg d0
      have d1 := kept hg d1
      have d2 := kept hg d2
      have hyes := Lib.hid (lv_yes (L := L) (vs := vs) (k := k))
      have hno := Lib.hid (lv_no (L := L) (vs := vs) (k := k))
      have hl := lv_len L vs k
      clear hcell hg o2 hmine
      generalize at3 L k = l at *
      obtain ⟨f, t, cp⟩ := l
      simp only at d0 d1 d2
      have HX1 := Lib.hid (HX.out.grown hB' (grown_alloc G.out (.cells #[.int .i64 f, .int .i64 t, .int .i64 cp] 87)))
      go_wp2_with fail
      refine (Contains_any f X m d vs _ HX1.out).mono ?_
      rintro e w3 ⟨rfl, hg3⟩
      obtain ⟨g3, o5⟩ := box1 [.int .i64 f, .int .i64 t, .int .i64 cp] hg3
      have O2 := Lib.hid (O2.out.kept g3)
      have G := Lib.hid (grown_trans G.out g3)
      have HM := Lib.hid (HM.out.kept g3)
      obtain ⟨c6, c7, c8⟩ := o5.three
      clear d0 d1 d2 o5 g3 hg3 HX1
      cases hf : decide (f ∈ vs)
      · have HN := Lib.hid (hno.out (leaves_from hf))
        clear hyes hno hf
        go_wp2
        go_roundw
        case rel => exact ⟨k + 1, by omega, by go_num, G.out, O2.out, by rw [HN.out]; exact HM.out⟩
        case measure => simp [intOf]; omega
      go_wp2_with fail
      refine (Contains_any t X m d vs _ (HX.out.grown hB' G.out)).mono ?_
      rintro e w4 ⟨rfl, g4⟩
      have O2 := Lib.hid (O2.out.kept g4)
      have G := Lib.hid (grown_trans G.out g4)
      have HM := Lib.hid (HM.out.kept g4)
      have hsz := G.out.size
      clear g4 c6 c7 c8
      cases ht : decide (t ∈ vs)
      · have HY := Lib.hid (hyes.out (leaves_yes hf ht))
        clear hyes hno hf ht
        have HM1 := Lib.hid (HM.out.kept (grow0 _ (.cells #[.int .i64 (k : Nat)] 3)))
        have HROW := Lib.hid (Row.newAt (w := w4) (g := w4.heap.size) (n := 1) (vs := #[.int .i64 (k : Nat)]) [(k : Int)] (by simp) rfl rfl (by simp) (by simp; omega))
        have l4 := O2.out.lt
        go_wp2_with (first | (at_builtin; refine wpList_app _ rfl _ _ rfl (w.heap.size + 1) _ _ _ rfl HM1.out _ 1 1 [(k : Int)] rfl HROW.out (by simp) (by omega) (by simp; omega) ?_))
        intro v1 w5 hm1 hg5 _
        have G5 := Lib.hid (grown_none (grown_alloc G.out (.cells #[.int .i64 (k : Nat)] 3)) hg5 (fun g hg => by have := HM.out.own_ge g hg; omega))
        have O5 := Lib.hid (Own.kept' (O2.out.alloc (.cells #[.int .i64 (k : Nat)] 3)) hg5 HM.out.apart)
        have HM5 := Lib.hid hm1
        clear hm1 hg5
        go_wp2
        go_roundw
        case rel => exact ⟨k + 1, by omega, by go_num, G5.out, O5.out, by rw [HY.out]; simpa using HM5.out⟩
        case measure => simp [intOf]; omega
      · have HN := Lib.hid (hno.out (leaves_to ht))
        clear hyes hno hf ht
        go_wp2
        go_roundw
        case rel => exact ⟨k + 1, by omega, by go_num, G.out, O2.out, by rw [HN.out]; exact HM.out⟩
        case measure => simp [intOf]; omega
    · obtain rfl : k = n := by omega
      clear hmine hg o2
      go_wp2
      go_ret2
      exact ⟨_, ret_sel E.out.2, by rw [E.out.1, HL.out]; exact HM.out.wide (by omega), G.out⟩

set_option maxHeartbeats 2000000 in
theorem RLeaving_any (V : Int) (A : Option Addr) (n c : Nat) (L : List Lk) (X : Option Addr) (m d : Nat) (vs : List Int) (w : World) {B B' : Nat} (h : Lks w B A n L) (hB : B ≤ w.heap.size) (hx : Row w B' X m vs) (hB' : B' ≤ w.heap.size) :
    Calls Try.prog 33 #[.agg #[.int .i64 V, .slice A n c], .slice X m d] w (SelPost w (leavV V L vs) (leavE V L vs)) := by
  have hn := h.small
  have HL := Lib.hid h.len
  have HR := Lib.hid h
  have HX := Lib.hid hx
  have HR1 := Lib.hid (h.grown hB (grow0 w (.cells #[.int .i64 V, .slice A n c] 24)))
  clear h hx
  go_enter Try.func33, Try.ntmps33
  go_wp2_with fail
  refine (RMay_any V A n c L _ HR1.out).mono ?_
  rintro e w1 ⟨rfl, g1⟩
  obtain ⟨g, o2⟩ := box1 [.int .i64 V, .slice A n c] g1
  obtain ⟨c0, c1⟩ := o2.two
  have G := Lib.hid g
  have O2 := Lib.hid o2
  clear g g1 o2 HR1
  cases hm : mayG V L
  · have E := Lib.hid (leav_may (vs := vs) hm)
    go_wp2
    go_ret2
    exact ⟨.slice none 0 0, ret_sel E.out.2, by rw [E.out.1]; exact Mine.nil _ _, G.out⟩
  go_wp2_with fail
  refine (VertsMay_any V A n c X m d vs _ (HX.out.grown hB' G.out)).mono ?_
  rintro e w2 ⟨rfl, g2⟩
  have O2 := Lib.hid (O2.out.kept g2)
  have G := Lib.hid (grown_trans G.out g2)
  clear c0 c1
  obtain ⟨c0, c1⟩ := O2.out.two
  clear g2
  cases hv : vertsB V vs
  · have E := Lib.hid (leav_verts (V := V) (L := L) hv)
    go_wp2
    go_ret2
    exact ⟨.slice none 0 0, ret_sel E.out.2, by rw [E.out.1]; exact Mine.nil _ _, G.out⟩
  have E := Lib.hid (leav_goes hm hv)
  have h16 := may_small hm
  rw [HL.out] at h16
  have HS : Hid (LvRel w V A n c L vs (.slice none 0 0) (.int .i64 0) w2) := ⟨0, Nat.zero_le _, rfl, G.out, O2.out, Mine.nil _ _⟩
  clear G hm hv
  go_wp2
  go_loopw [6, 7] (fun o i wr => LvRel w V A n c L vs o i wr) (fun _ i _ => n - (intOf i).toNat)
  case atStart => exact HS.out
  case round =>
    clear HS c0 c1 O2
    obtain ⟨k, hk, rfl, hg, o2, hmine⟩ := hrel
    have G := Lib.hid hg
    have hsz := hg.size
    have l2 := o2.lt
    obtain ⟨c0, c1⟩ := o2.two
    have O2 := Lib.hid o2
    have HM := Lib.hid hmine
    by_cases hlt : k < n
    · obtain ⟨b, off, hA, hb, hcell⟩ := HR.out.cells (by omega)
      subst hA
      obtain ⟨d0, d1, d2⟩ := hcell k hlt
      have HD0 := Lib.hid d0
      have HD1 := Lib.hid d1
      have d0 := kept hg d0
      have hyes := Lib.hid (lv_yes (L := L) (vs := vs) (k := k))
      have hno := Lib.hid (lv_no (L := L) (vs := vs) (k := k))
      have hl := lv_len L vs k
      clear hcell hg o2 hmine d1 d2
      generalize at3 L k = l at *
      obtain ⟨f, t, cp⟩ := l
      simp only at d0 HD0 HD1
      go_wp2_with fail
      refine (Among_any f X m d vs _ (HX.out.grown hB' G.out)).mono ?_
      rintro e w3 ⟨rfl, g3⟩
      have O2 := Lib.hid (O2.out.kept g3)
      have G := Lib.hid (grown_trans G.out g3)
      have HM := Lib.hid (HM.out.kept g3)
      clear d0 c0 c1 g3
      obtain ⟨c0, c1⟩ := O2.out.two
      have d1 := kept G.out HD1.out
      cases hf : decide (f ∈ vs)
      · have HN := Lib.hid (hno.out (leaves_from hf))
        clear hyes hno hf
        go_wp2
        go_roundw
        case rel => exact ⟨k + 1, by omega, by go_num, G.out, O2.out, by rw [HN.out]; exact HM.out⟩
        case measure => simp [intOf]; omega
      go_wp2_with fail
      refine (Among_any t X m d vs _ (HX.out.grown hB' G.out)).mono ?_
      rintro e w4 ⟨rfl, g4⟩
      have O2 := Lib.hid (O2.out.kept g4)
      have G := Lib.hid (grown_trans G.out g4)
      have HM := Lib.hid (HM.out.kept g4)
      have hsz := G.out.size
      clear g4 c0 c1 d1
      cases ht : decide (t ∈ vs)
      · have HY := Lib.hid (hyes.out (leaves_yes hf ht))
        clear hyes hno hf ht
        have HM1 := Lib.hid (HM.out.kept (grow0 _ (.cells #[.int .i64 (k : Nat)] 3)))
        have HROW := Lib.hid (Row.newAt (w := w4) (g := w4.heap.size) (n := 1) (vs := #[.int .i64 (k : Nat)]) [(k : Int)] (by simp) rfl rfl (by simp) (by simp; omega))
        have l4 := O2.out.lt
        go_wp2_with (first | (at_builtin; refine wpList_app _ rfl _ _ rfl (w.heap.size + 1) _ _ _ rfl HM1.out _ 1 1 [(k : Int)] rfl HROW.out (by simp) (by omega) (by simp; omega) ?_))
        intro v1 w5 hm1 hg5 _
        have G5 := Lib.hid (grown_none (grown_alloc G.out (.cells #[.int .i64 (k : Nat)] 3)) hg5 (fun g hg => by have := HM.out.own_ge g hg; omega))
        have O5 := Lib.hid (Own.kept' (O2.out.alloc (.cells #[.int .i64 (k : Nat)] 3)) hg5 HM.out.apart)
        have HM5 := Lib.hid hm1
        clear hm1 hg5
        go_wp2
        go_roundw
        case rel => exact ⟨k + 1, by omega, by go_num, G5.out, O5.out, by rw [HY.out]; simpa using HM5.out⟩
        case measure => simp [intOf]; omega
      · have HN := Lib.hid (hno.out (leaves_to ht))
        clear hyes hno hf ht
        go_wp2
        go_roundw
        case rel => exact ⟨k + 1, by omega, by go_num, G.out, O2.out, by rw [HN.out]; exact HM.out⟩
        case measure => simp [intOf]; omega
    · obtain rfl : k = n := by omega
      clear hmine hg o2
      go_wp2
      go_ret2
      exact ⟨_, ret_sel E.out.2, by rw [E.out.1, HL.out]; exact HM.out.wide (by omega), G.out⟩

end Go.Proofs.Ytmodkhcfihlhgaa
