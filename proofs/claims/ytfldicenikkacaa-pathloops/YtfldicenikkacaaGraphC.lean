/-
  Out and In.
-/
import Derived.Test.YtfldicenikkacaaGraphB
namespace Go.Proofs.Ytfldicenikkacaa
open Go.RowKit

def SelPost (w : World) (xs : List Int) (z : Int) (e : Ending) (w' : World) : Prop :=
  ∃ v, e = .returned (.tuple #[v, .int .i64 z]) ∧ Mine w' w.heap.size v xs.length xs ∧ w.grownBy w' none

def SelRel (w : World) (V : Int) (A : Option Addr) (n c : Nat) (f : Lk → Int) (ls : List Lk) (x : Int) (o i : Value) (wr : World) : Prop :=
  ∃ k : Nat, k ≤ n ∧ i = .int .i64 (k : Nat) ∧ w.grownBy wr none ∧ Own wr w.heap.size 24 [.int .i64 V, .slice A n c] ∧ Mine wr (w.heap.size + 1) o (sel f ls x k).length (sel f ls x k)

theorem sel_yes_len {f : Lk → Int} {ls : List Lk} {v : Int} {k : Nat} (h : f (at3 ls k) = v) : (sel f ls v (k + 1)).length = (sel f ls v k).length + 1 := by
  rw [sel_yes h]; simp

theorem selOf_no {f : Lk → Int} {V : Int} {ls : List Lk} {x : Int} (h : goodB V ls x = false) : selOf f V ls x = [] ∧ selE V ls x = 400 := by simp [selOf, selE, h]
theorem selOf_yes {f : Lk → Int} {V : Int} {ls : List Lk} {x : Int} (h : goodB V ls x = true) : selOf f V ls x = sel f ls x ls.length ∧ selE V ls x = 0 := by simp [selOf, selE, h]

theorem ret_sel {v : Value} {a b : Int} (h : b = a) : Ending.returned (.tuple #[v, .int .i64 a]) = .returned (.tuple #[v, .int .i64 b]) := by rw [h]

theorem Mine.wide {w : World} {base b : Nat} {v : Value} {n : Nat} {xs : List Int} (h : Mine w base v n xs) (hb : b ≤ base) : Mine w b v n xs := by
  obtain ⟨h1, h2⟩ := h
  refine ⟨h1, ?_⟩
  rcases h2 with h | ⟨g, cap, cur, hv, hg, r⟩
  · exact .inl h
  · exact .inr ⟨g, cap, cur, hv, by omega, r⟩

theorem Mine.apart {w : World} {base : Nat} {v : Value} {n : Nat} {xs : List Int} (h : Mine w (base + 1) v n xs) : v.ownBlock ≠ some base := by
  intro e
  have := h.own_ge base e
  omega

theorem GOut_any (V x : Int) (A : Option Addr) (n c : Nat) (ls : List Lk) (w : World) {B : Nat} (h : Lks w B A n ls) (hB : B ≤ w.heap.size) :
    Calls Try.prog 16 #[.agg #[.int .i64 V, .slice A n c], .int .i64 x] w (SelPost w (selOf (fun l => l.1) V ls x) (selE V ls x)) := by
  have hn := h.small
  have HL := Lib.hid h.len
  have HR := Lib.hid h
  have HR1 := Lib.hid (h.grown hB (grow0 w (.cells #[.int .i64 V, .slice A n c] 24)))
  clear h
  go_enter Try.func16, Try.ntmps16
  go_wp2_with fail
  refine (GMay_any V A n c ls _ HR1.out (by simp; omega)).mono ?_
  rintro e w1 ⟨rfl, g1⟩
  obtain ⟨g, o2⟩ := box1 [.int .i64 V, .slice A n c] g1
  obtain ⟨c0, c1⟩ := o2.two
  have G := Lib.hid g
  have O2 := Lib.hid o2
  clear g g1 o2 HR1
  cases hm : mayG V ls
  · have E := Lib.hid (selOf_no (f := fun l => l.1) (V := V) (ls := ls) (x := x) (by simp [goodB, hm]))
    go_wp2
    go_ret2
    exact ⟨.slice none 0 0, ret_sel E.out.2, by rw [E.out.1]; exact Mine.nil _ _, G.out⟩
  · go_wp2_with fail
    refine (Vert1_any V x A n c _ rfl).mono ?_
    rintro e w2 ⟨rfl, g2⟩
    have O2 := Lib.hid (O2.out.kept g2)
    have G := Lib.hid (grown_trans G.out g2)
    obtain ⟨c0, c1⟩ := O2.out.two
    clear g2
    cases hx : isV V x
    · have E := Lib.hid (selOf_no (f := fun l => l.1) (V := V) (ls := ls) (x := x) (by simp [goodB, hx]))
      go_wp2
      go_ret2
      exact ⟨.slice none 0 0, ret_sel E.out.2, by rw [E.out.1]; exact Mine.nil _ _, G.out⟩
    · have E := Lib.hid (selOf_yes (f := fun l => l.1) (V := V) (ls := ls) (x := x) (by simp [goodB, hm, hx]))
      have h16 := may_small hm
      rw [HL.out] at h16
      have HS : Hid (SelRel w V A n c (fun l => l.1) ls x (.slice none 0 0) (.int .i64 0) w2) := ⟨0, Nat.zero_le _, rfl, G.out, O2.out, Mine.nil _ _⟩
      clear G hm hx
      go_wp2
      go_loopw [6, 22] (fun o i wr => SelRel w V A n c (fun l => l.1) ls x o i wr) (fun _ i _ => n - (intOf i).toNat)
      case atStart => exact HS.out
      case round =>
        clear HS c0 c1 O2
        obtain ⟨k, hk, rfl, hg, o2, hmine⟩ := hrel
        have G := Lib.hid hg
        have hsz := hg.size
        have l2 := o2.lt
        by_cases hlt : k < n
        · obtain ⟨b, off, hA, hb, hcell⟩ := HR.out.cells (by omega)
          subst hA
          obtain ⟨d0, d1, d2⟩ := hcell k hlt
          have d0 := kept hg d0
          have d1 := kept hg d1
          have d2 := kept hg d2
          have hyes := Lib.hid (sel_yes (f := fun l : Lk => l.1) (ls := ls) (v := x) (k := k))
          have hno := Lib.hid (sel_no (f := fun l : Lk => l.1) (ls := ls) (v := x) (k := k))
          have hl := sel_len (fun l : Lk => l.1) ls x k
          obtain ⟨c0, c1⟩ := o2.two
          have O2 := Lib.hid o2
          have HM := Lib.hid hmine
          clear hcell hg o2 hmine
          generalize at3 ls k = l at *
          obtain ⟨p, t, cp⟩ := l
          simp only at d0 d1 d2
          by_cases hp : p = x
          · have HY := Lib.hid (hyes.out hp)
            clear hyes hno
            subst hp
            have hpp : (p == p) = true := by simp
            have HM1 := Lib.hid ((HM.out.kept (grow0 _ (.cells #[.int .i64 p, .int .i64 t, .int .i64 cp] 45))).kept (grow0 _ (.cells #[.int .i64 (k : Nat)] 3)))
            have HROW := Lib.hid (Row.newAt (w := wr.alloc (.cells #[.int .i64 p, .int .i64 t, .int .i64 cp] 45)) (g := wr.heap.size + 1) (n := 1) (vs := #[.int .i64 (k : Nat)]) [(k : Int)] (by simp) rfl rfl (by simp) (by simp; omega))
            go_wp2_with (first | (at_builtin; refine wpList_app _ rfl _ _ rfl (w.heap.size + 1) _ _ _ rfl HM1.out _ 1 1 [(k : Int)] rfl HROW.out (by simp) (by omega) (by simp; omega) ?_))
            intro v1 w3 hm1 hg3 _
            have G3 := Lib.hid (grown_none (grown_alloc (grown_alloc G.out (.cells #[.int .i64 p, .int .i64 t, .int .i64 cp] 45)) (.cells #[.int .i64 (k : Nat)] 3)) hg3 (fun g hg => by have := HM.out.own_ge g hg; omega))
            have O3 := Lib.hid (Own.kept' ((O2.out.alloc (.cells #[.int .i64 p, .int .i64 t, .int .i64 cp] 45)).alloc (.cells #[.int .i64 (k : Nat)] 3)) hg3 HM.out.apart)
            have HM3 := Lib.hid hm1
            clear hm1 hg3
            go_wp2
            go_roundw
            case rel => exact ⟨k + 1, by omega, by go_num, G3.out, O3.out, by rw [HY.out]; simpa using HM3.out⟩
            case measure => simp [intOf]; omega
          · have hpp : (p == x) = false := by simp [hp]
            have HN := Lib.hid (hno.out hp)
            go_wp2
            go_roundw
            case rel => exact ⟨k + 1, by omega, by go_num, grown_alloc G.out _, O2.out.alloc _, by rw [HN.out]; exact HM.out.kept (grow0 _ _)⟩
            case measure => simp [intOf]; omega
        · obtain rfl : k = n := by omega
          have HM := Lib.hid hmine
          clear hmine hg o2
          go_wp2
          go_ret2
          exact ⟨_, ret_sel E.out.2, by rw [E.out.1, HL.out]; exact HM.out.wide (by omega), G.out⟩

theorem GIn_any (V x : Int) (A : Option Addr) (n c : Nat) (ls : List Lk) (w : World) {B : Nat} (h : Lks w B A n ls) (hB : B ≤ w.heap.size) :
    Calls Try.prog 18 #[.agg #[.int .i64 V, .slice A n c], .int .i64 x] w (SelPost w (selOf (fun l => l.2.1) V ls x) (selE V ls x)) := by
  have hn := h.small
  have HL := Lib.hid h.len
  have HR := Lib.hid h
  have HR1 := Lib.hid (h.grown hB (grow0 w (.cells #[.int .i64 V, .slice A n c] 24)))
  clear h
  go_enter Try.func18, Try.ntmps18
  go_wp2_with fail
  refine (GMay_any V A n c ls _ HR1.out (by simp; omega)).mono ?_
  rintro e w1 ⟨rfl, g1⟩
  obtain ⟨g, o2⟩ := box1 [.int .i64 V, .slice A n c] g1
  obtain ⟨c0, c1⟩ := o2.two
  have G := Lib.hid g
  have O2 := Lib.hid o2
  clear g g1 o2 HR1
  cases hm : mayG V ls
  · have E := Lib.hid (selOf_no (f := fun l => l.2.1) (V := V) (ls := ls) (x := x) (by simp [goodB, hm]))
    go_wp2
    go_ret2
    exact ⟨.slice none 0 0, ret_sel E.out.2, by rw [E.out.1]; exact Mine.nil _ _, G.out⟩
  · go_wp2_with fail
    refine (Vert1_any V x A n c _ rfl).mono ?_
    rintro e w2 ⟨rfl, g2⟩
    have O2 := Lib.hid (O2.out.kept g2)
    have G := Lib.hid (grown_trans G.out g2)
    obtain ⟨c0, c1⟩ := O2.out.two
    clear g2
    cases hx : isV V x
    · have E := Lib.hid (selOf_no (f := fun l => l.2.1) (V := V) (ls := ls) (x := x) (by simp [goodB, hx]))
      go_wp2
      go_ret2
      exact ⟨.slice none 0 0, ret_sel E.out.2, by rw [E.out.1]; exact Mine.nil _ _, G.out⟩
    · have E := Lib.hid (selOf_yes (f := fun l => l.2.1) (V := V) (ls := ls) (x := x) (by simp [goodB, hm, hx]))
      have h16 := may_small hm
      rw [HL.out] at h16
      have HS : Hid (SelRel w V A n c (fun l => l.2.1) ls x (.slice none 0 0) (.int .i64 0) w2) := ⟨0, Nat.zero_le _, rfl, G.out, O2.out, Mine.nil _ _⟩
      clear G hm hx
      go_wp2
      go_loopw [6, 22] (fun o i wr => SelRel w V A n c (fun l => l.2.1) ls x o i wr) (fun _ i _ => n - (intOf i).toNat)
      case atStart => exact HS.out
      case round =>
        clear HS c0 c1 O2
        obtain ⟨k, hk, rfl, hg, o2, hmine⟩ := hrel
        have G := Lib.hid hg
        have hsz := hg.size
        have l2 := o2.lt
        by_cases hlt : k < n
        · obtain ⟨b, off, hA, hb, hcell⟩ := HR.out.cells (by omega)
          subst hA
          obtain ⟨d0, d1, d2⟩ := hcell k hlt
          have d0 := kept hg d0
          have d1 := kept hg d1
          have d2 := kept hg d2
          have hyes := Lib.hid (sel_yes (f := fun l : Lk => l.2.1) (ls := ls) (v := x) (k := k))
          have hno := Lib.hid (sel_no (f := fun l : Lk => l.2.1) (ls := ls) (v := x) (k := k))
          have hl := sel_len (fun l : Lk => l.2.1) ls x k
          obtain ⟨c0, c1⟩ := o2.two
          have O2 := Lib.hid o2
          have HM := Lib.hid hmine
          clear hcell hg o2 hmine
          generalize at3 ls k = l at *
          obtain ⟨p, t, cp⟩ := l
          simp only at d0 d1 d2
          by_cases hp : t = x
          · have HY := Lib.hid (hyes.out hp)
            clear hyes hno
            subst hp
            have hpp : (t == t) = true := by simp
            have HM1 := Lib.hid ((HM.out.kept (grow0 _ (.cells #[.int .i64 p, .int .i64 t, .int .i64 cp] 45))).kept (grow0 _ (.cells #[.int .i64 (k : Nat)] 3)))
            have HROW := Lib.hid (Row.newAt (w := wr.alloc (.cells #[.int .i64 p, .int .i64 t, .int .i64 cp] 45)) (g := wr.heap.size + 1) (n := 1) (vs := #[.int .i64 (k : Nat)]) [(k : Int)] (by simp) rfl rfl (by simp) (by simp; omega))
            go_wp2_with (first | (at_builtin; refine wpList_app _ rfl _ _ rfl (w.heap.size + 1) _ _ _ rfl HM1.out _ 1 1 [(k : Int)] rfl HROW.out (by simp) (by omega) (by simp; omega) ?_))
            intro v1 w3 hm1 hg3 _
            have G3 := Lib.hid (grown_none (grown_alloc (grown_alloc G.out (.cells #[.int .i64 p, .int .i64 t, .int .i64 cp] 45)) (.cells #[.int .i64 (k : Nat)] 3)) hg3 (fun g hg => by have := HM.out.own_ge g hg; omega))
            have O3 := Lib.hid (Own.kept' ((O2.out.alloc (.cells #[.int .i64 p, .int .i64 t, .int .i64 cp] 45)).alloc (.cells #[.int .i64 (k : Nat)] 3)) hg3 HM.out.apart)
            have HM3 := Lib.hid hm1
            clear hm1 hg3
            go_wp2
            go_roundw
            case rel => exact ⟨k + 1, by omega, by go_num, G3.out, O3.out, by rw [HY.out]; simpa using HM3.out⟩
            case measure => simp [intOf]; omega
          · have hpp : (t == x) = false := by simp [hp]
            have HN := Lib.hid (hno.out hp)
            go_wp2
            go_roundw
            case rel => exact ⟨k + 1, by omega, by go_num, grown_alloc G.out _, O2.out.alloc _, by rw [HN.out]; exact HM.out.kept (grow0 _ _)⟩
            case measure => simp [intOf]; omega
        · obtain rfl : k = n := by omega
          have HM := Lib.hid hmine
          clear hmine hg o2
          go_wp2
          go_ret2
          exact ⟨_, ret_sel E.out.2, by rw [E.out.1, HL.out]; exact HM.out.wide (by omega), G.out⟩

end Go.Proofs.Ytfldicenikkacaa
