/-
  The reference's GraphMay, Out, In, Total.
-/
import Derived.Test.YtfldicenikkacaaGraphC
namespace Go.Proofs.Ytfldicenikkacaa
open Go.RowKit

theorem may_none {V : Int} {ls : List Lk} (h : totalOf V ls = none) : mayG V ls = false := by simp [mayG, h]
theorem may_some {V s : Int} {ls : List Lk} (h : totalOf V ls = some s) : mayG V ls = true := by simp [mayG, h]
theorem may_form {V : Int} {ls : List Lk} {n : Nat} (hl : ls.length = n) (h : V < 2 ∨ 8 < V ∨ 16 < n) : mayG V ls = false := by
  have := (tot_form hl h).2
  cases hm : mayG V ls
  · rfl
  · simp [totE, hm] at this

def RMayRel (w : World) (V : Int) (A : Option Addr) (n c : Nat) (ls : List Lk) (a i : Value) (wr : World) : Prop :=
  ∃ (k : Nat) (acc : Int), k ≤ n ∧ a = .int .i64 acc ∧ i = .int .i64 (k : Nat) ∧ w.grownBy wr none ∧ Own wr w.heap.size 24 [.int .i64 V, .slice A n c] ∧
    capsFrom V acc (ls.drop k) = totalOf V ls ∧ 0 ≤ acc ∧ acc ≤ 4611686018427387904

theorem RMay_any (V : Int) (A : Option Addr) (n c : Nat) (ls : List Lk) (w : World) {B : Nat} (h : Lks w B A n ls) :
    Calls Try.prog 23 #[.agg #[.int .i64 V, .slice A n c]] w (Says w (.bool (mayG V ls))) := by
  have hn := h.small
  have hlen := h.len
  by_cases h1 : V < 2
  · have E := Lib.hid (may_form (V := V) hlen (.inl h1))
    clear h hlen
    go_enter Try.func23, Try.ntmps23
    go_wp2
    go_ret
    exact ⟨ret_bool E.out, grow0 _ _⟩
  by_cases h2 : 8 < V
  · have E := Lib.hid (may_form (V := V) hlen (.inr (.inl h2)))
    clear h hlen
    go_enter Try.func23, Try.ntmps23
    go_wp2
    go_ret
    exact ⟨ret_bool E.out, grow0 _ _⟩
  by_cases h3 : 16 < n
  · have E := Lib.hid (may_form (V := V) hlen (.inr (.inr h3)))
    clear h hlen
    go_enter Try.func23, Try.ntmps23
    go_wp2
    go_ret
    exact ⟨ret_bool E.out, grow0 _ _⟩
  have hn16 : ¬ (16 : Int) < (n : Int) := by omega
  have hd16 : decide ((16 : Int) < (n : Int)) = false := by simp; omega
  have HGO := Lib.hid (tot_go (V := V) hlen (by omega) (by omega) (by omega))
  have HL := Lib.hid hlen
  have HR := Lib.hid h
  have HS : Hid (RMayRel w V A n c ls (.int .i64 0) (.int .i64 0) (w.alloc (.cells #[.int .i64 V, .slice A n c] 24))) := by
    obtain ⟨a, b⟩ := box1 [.int .i64 V, .slice A n c] (World.grownBy.refl (w.alloc (.cells #[.int .i64 V, .slice A n c] 24)) none)
    exact ⟨0, 0, Nat.zero_le _, rfl, rfl, a, b, by rw [HGO.out]; rfl, by omega, by omega⟩
  clear h hlen HGO
  go_enter Try.func23, Try.ntmps23
  go_wp2
  go_loopw [3, 4] (fun a i wr => RMayRel w V A n c ls a i wr) (fun _ i _ => n - (intOf i).toNat)
  case atStart => exact HS.out
  case round =>
    clear HS
    obtain ⟨k, acc, hk, rfl, rfl, hg, o1, hcap, ha0, ha1⟩ := hrel
    have G := Lib.hid hg
    have hsz := hg.size
    have l1 := o1.lt
    obtain ⟨c1, c2⟩ := o1.two
    have O1 := Lib.hid o1
    by_cases hlt : k < n
    · obtain ⟨b, off, hA, hb, hcell⟩ := HR.out.cells (by omega)
      subst hA
      obtain ⟨d0, d1, d2⟩ := hcell k hlt
      have d0 := kept hg d0
      have d1 := kept hg d1
      have d2 := kept hg d2
      have HOK := Lib.hid (fun x => (caps_step (V := V) (acc := acc) (ls := ls) (k := k) (by rw [HL.out]; exact hlt) x).symm.trans hcap)
      have HNO := Lib.hid (fun x => may_none ((caps_stop (V := V) (acc := acc) (ls := ls) (k := k) (by rw [HL.out]; exact hlt) x).symm.trans hcap).symm)
      clear hcell hcap hg o1
      generalize at3 ls k = l at *
      obtain ⟨f, t, cp⟩ := l
      simp only at d0 d1 d2
      go_wp2_with fail
      refine (RVertex_any V f (some ⟨b, off, none⟩) n c _).mono ?_
      rintro e w2 ⟨rfl, hg2⟩
      obtain ⟨g2, o5⟩ := box1 [.int .i64 f, .int .i64 t, .int .i64 cp] hg2
      have O1 := Lib.hid (O1.out.kept g2)
      have O5 := Lib.hid o5
      have G := Lib.hid (grown_trans G.out g2)
      obtain ⟨c6, c7, c8⟩ := o5.three
      clear d0 d1 d2 c1 c2 o5 g2 hg2
      obtain ⟨c1, c2⟩ := O1.out.two
      cases hf : isV V f
      · have E := Lib.hid (HNO.out (by simp [linkOk, joinsB, hf]))
        clear HNO HOK
        go_wp2
        go_ret
        exact ⟨ret_bool E.out, G.out⟩
      go_wp2_with fail
      refine (RVertex_any V t (some ⟨b, off, none⟩) n c _).mono ?_
      rintro e w3 ⟨rfl, g3⟩
      have O1 := Lib.hid (O1.out.kept g3)
      have O5 := Lib.hid (O5.out.kept g3)
      have G := Lib.hid (grown_trans G.out g3)
      clear c6 c7 c8 c1 c2 g3
      obtain ⟨c6, c7, c8⟩ := O5.out.three
      cases ht : isV V t
      · have E := Lib.hid (HNO.out (by simp [linkOk, joinsB, ht]))
        clear HNO HOK
        go_wp2
        go_ret
        exact ⟨ret_bool E.out, G.out⟩
      by_cases hft : f = t
      · have E := Lib.hid (HNO.out (by simp [linkOk, joinsB, hft]))
        have hb : (f == t) = true := by simp [hft]
        clear HNO HOK hf ht
        subst hft
        go_wp2
        go_ret
        exact ⟨ret_bool E.out, G.out⟩
      have hft2 : (f == t) = false := by simp [hft]
      have hw : IntKind.i64.wrap (4611686018427387904 - acc) = 4611686018427387904 - acc := IntWalk.i64_in _ (by omega)
      by_cases hc0 : cp < 0
      · have E := Lib.hid (HNO.out (by simp [linkOk]; omega))
        clear HNO HOK hf ht
        go_wp2
        go_ret
        exact ⟨ret_bool E.out, G.out⟩
      by_cases hc1 : 4611686018427387904 - acc < cp
      · have E := Lib.hid (HNO.out (by simp [linkOk]; omega))
        clear HNO HOK hf ht
        go_wp2
        go_ret
        exact ⟨ret_bool E.out, G.out⟩
      have HC := Lib.hid (HOK.out (by simp [linkOk, joinsB, hf, ht, hft2]; omega))
      clear HNO HOK hf ht
      go_wp2
      go_roundw
      case rel => exact ⟨k + 1, acc + cp, by omega, by first | rfl | go_num, by go_num, G.out, O1.out, HC.out, by omega, by omega⟩
      case measure => simp [intOf]; omega
    · have E := Lib.hid (may_some ((caps_end (V := V) (acc := acc) (ls := ls) (k := k) (by rw [HL.out]; omega)).symm.trans hcap).symm)
      clear hcap o1 hg
      go_wp2
      go_ret
      exact ⟨ret_bool E.out, G.out⟩

theorem RTotal_any (V : Int) (A : Option Addr) (n c : Nat) (ls : List Lk) (w : World) {B : Nat} (h : Lks w B A n ls) (hB : B ≤ w.heap.size) :
    Calls Try.prog 21 #[.agg #[.int .i64 V, .slice A n c]] w (Says w (totV V ls)) := by
  have hn := h.small
  have HL := Lib.hid h.len
  have HR := Lib.hid h
  have HR1 := Lib.hid (h.grown hB (grow0 w (.cells #[.int .i64 V, .slice A n c] 24)))
  clear h
  go_enter Try.func21, Try.ntmps21
  go_wp2_with fail
  refine (RMay_any V A n c ls _ HR1.out).mono ?_
  rintro e w1 ⟨rfl, g1⟩
  obtain ⟨g, o1⟩ := box1 [.int .i64 V, .slice A n c] g1
  obtain ⟨c0, c1⟩ := o1.two
  have G := Lib.hid g
  have O1 := Lib.hid o1
  clear g g1 o1 HR1
  cases hm : totalOf V ls with
  | none =>
    have E := Lib.hid (tot_none hm)
    rw [may_none hm]
    clear hm
    go_wp2
    go_ret2
    exact ⟨ret_two E.out.1 E.out.2, G.out⟩
  | some s =>
    have E := Lib.hid (tot_some hm)
    have HM := Lib.hid hm
    have h16 := may_small (may_some hm)
    rw [HL.out] at h16
    have HS : Hid (RMayRel w V A n c ls (.int .i64 0) (.int .i64 0) w1) := ⟨0, 0, Nat.zero_le _, rfl, rfl, G.out, O1.out, by rw [tot_go HL.out (by omega) (by omega) (by omega)]; rfl, by omega, by omega⟩
    rw [may_some hm]
    clear hm G O1
    go_wp2
    go_loopw [4, 5] (fun a i wr => RMayRel w V A n c ls a i wr) (fun _ i _ => n - (intOf i).toNat)
    case atStart => exact HS.out
    case round =>
      clear HS c0 c1
      obtain ⟨k, acc, hk, rfl, rfl, hg, o1, hcap, ha0, ha1⟩ := hrel
      have G := Lib.hid hg
      obtain ⟨c1, c2⟩ := o1.two
      have O1 := Lib.hid o1
      by_cases hlt : k < n
      · obtain ⟨b, off, hA, hb, hcell⟩ := HR.out.cells (by omega)
        subst hA
        obtain ⟨d0, d1, d2⟩ := hcell k hlt
        have d2 := kept hg d2
        have hok : linkOk V acc (at3 ls k) = true := by
          cases hx : linkOk V acc (at3 ls k)
          · rw [caps_stop (by rw [HL.out]; exact hlt) hx, HM.out] at hcap
            cases hcap
          · rfl
        have hbd := link_bd hok
        have HC := Lib.hid ((caps_step (V := V) (acc := acc) (ls := ls) (k := k) (by rw [HL.out]; exact hlt) hok).symm.trans hcap)
        clear hcell hcap hg o1 d0 d1 hok
        generalize at3 ls k = l at *
        obtain ⟨f, t, cp⟩ := l
        simp only at d2 hbd
        go_wp2
        go_roundw
        case rel => exact ⟨k + 1, acc + cp, by omega, by first | rfl | go_num, by go_num, G.out, O1.out, HC.out, by omega, by omega⟩
        case measure => simp [intOf]; omega
      · have E2 : Hid (s = acc) := by
          have := (caps_end (V := V) (acc := acc) (ls := ls) (k := k) (by rw [HL.out]; omega)).symm.trans hcap
          rw [HM.out] at this
          injection this with this
          exact this.symm
        clear hcap o1 hg
        go_wp2
        go_ret2
        exact ⟨ret_two (E.out.1.trans E2.out) E.out.2, G.out⟩

theorem ROut_any (V x : Int) (A : Option Addr) (n c : Nat) (ls : List Lk) (w : World) {B : Nat} (h : Lks w B A n ls) (hB : B ≤ w.heap.size) :
    Calls Try.prog 17 #[.agg #[.int .i64 V, .slice A n c], .int .i64 x] w (SelPost w (selOf (fun l => l.1) V ls x) (selE V ls x)) := by
  have hn := h.small
  have HL := Lib.hid h.len
  have HR := Lib.hid h
  have HR1 := Lib.hid (h.grown hB (grow0 w (.cells #[.int .i64 V, .slice A n c] 24)))
  clear h
  go_enter Try.func17, Try.ntmps17
  go_wp2_with fail
  refine (RMay_any V A n c ls _ HR1.out).mono ?_
  rintro e w1 ⟨rfl, g1⟩
  obtain ⟨g, o2⟩ := box1 [.int .i64 V, .slice A n c] g1
  obtain ⟨c0, c1⟩ := o2.two
  have G := Lib.hid g
  have O2 := Lib.hid o2
  clear g g1 o2 HR1
  cases hm : mayG V ls
  · have E := Lib.hid (selOf_no (f := fun l => l.1) (V := V) (ls := ls) (x := x) (by simp [goodB, hm]))
    go_wp2
    go_ret2
    exact ⟨.slice none 0 0, ret_sel E.out.2, by rw [E.out.1]; exact Mine.nil _ _, G.out⟩
  · go_wp2_with fail
    refine (RVertex_any V x A n c _).mono ?_
    rintro e w2 ⟨rfl, g2⟩
    have O2 := Lib.hid (O2.out.kept g2)
    have G := Lib.hid (grown_trans G.out g2)
    obtain ⟨c0, c1⟩ := O2.out.two
    clear g2
    cases hx : isV V x
    · have E := Lib.hid (selOf_no (f := fun l => l.1) (V := V) (ls := ls) (x := x) (by simp [goodB, hx]))
      go_wp2
      go_ret2
      exact ⟨.slice none 0 0, ret_sel E.out.2, by rw [E.out.1]; exact Mine.nil _ _, G.out⟩
    · have E := Lib.hid (selOf_yes (f := fun l => l.1) (V := V) (ls := ls) (x := x) (by simp [goodB, hm, hx]))
      have h16 := may_small hm
      rw [HL.out] at h16
      have HS : Hid (SelRel w V A n c (fun l => l.1) ls x (.slice none 0 0) (.int .i64 0) w2) := ⟨0, Nat.zero_le _, rfl, G.out, O2.out, Mine.nil _ _⟩
      clear G hm hx
      go_wp2
      go_loopw [6, 7] (fun o i wr => SelRel w V A n c (fun l => l.1) ls x o i wr) (fun _ i _ => n - (intOf i).toNat)
      case atStart => exact HS.out
      case round =>
        clear HS c0 c1 O2
        obtain ⟨k, hk, rfl, hg, o2, hmine⟩ := hrel
        have G := Lib.hid hg
        have hsz := hg.size
        have l2 := o2.lt
        obtain ⟨c0, c1⟩ := o2.two
        have O2 := Lib.hid o2
        have HM := Lib.hid hmine
        by_cases hlt : k < n
        · obtain ⟨b, off, hA, hb, hcell⟩ := HR.out.cells (by omega)
          subst hA
          obtain ⟨d0, d1, d2⟩ := hcell k hlt
          have d0 := kept hg d0
          have d1 := kept hg d1
          have d2 := kept hg d2
          have hyes := Lib.hid (sel_yes (f := fun l : Lk => l.1) (ls := ls) (v := x) (k := k))
          have hno := Lib.hid (sel_no (f := fun l : Lk => l.1) (ls := ls) (v := x) (k := k))
          have hl := sel_len (fun l : Lk => l.1) ls x k
          clear hcell hg o2 hmine
          generalize at3 ls k = l at *
          obtain ⟨p, t, cp⟩ := l
          simp only at d0 d1 d2
          by_cases hp : p = x
          · have HY := Lib.hid (hyes.out hp)
            clear hyes hno
            subst hp
            have hpp : (p == p) = true := by simp
            have HM1 := Lib.hid (HM.out.kept (grow0 _ (.cells #[.int .i64 (k : Nat)] 3)))
            have HROW := Lib.hid (Row.newAt (w := wr) (g := wr.heap.size) (n := 1) (vs := #[.int .i64 (k : Nat)]) [(k : Int)] (by simp) rfl rfl (by simp) (by simp; omega))
            go_wp2_with (first | (at_builtin; refine wpList_app _ rfl _ _ rfl (w.heap.size + 1) _ _ _ rfl HM1.out _ 1 1 [(k : Int)] rfl HROW.out (by simp) (by omega) (by simp; omega) ?_))
            intro v1 w3 hm1 hg3 _
            have G3 := Lib.hid (grown_none (grown_alloc G.out (.cells #[.int .i64 (k : Nat)] 3)) hg3 (fun g hg => by have := HM.out.own_ge g hg; omega))
            have O3 := Lib.hid (Own.kept' (O2.out.alloc (.cells #[.int .i64 (k : Nat)] 3)) hg3 HM.out.apart)
            have HM3 := Lib.hid hm1
            clear hm1 hg3
            go_wp2
            go_roundw
            case rel => exact ⟨k + 1, by omega, by go_num, G3.out, O3.out, by rw [HY.out]; simpa using HM3.out⟩
            case measure => simp [intOf]; omega
          · have hpp : (p == x) = false := by simp [hp]
            have HN := Lib.hid (hno.out hp)
            go_wp2
            go_roundw
            case rel => exact ⟨k + 1, by omega, by go_num, G.out, O2.out, by rw [HN.out]; exact HM.out⟩
            case measure => simp [intOf]; omega
        · obtain rfl : k = n := by omega
          clear hmine hg o2
          go_wp2
          go_ret2
          exact ⟨_, ret_sel E.out.2, by rw [E.out.1, HL.out]; exact HM.out.wide (by omega), G.out⟩

theorem RIn_any (V x : Int) (A : Option Addr) (n c : Nat) (ls : List Lk) (w : World) {B : Nat} (h : Lks w B A n ls) (hB : B ≤ w.heap.size) :
    Calls Try.prog 19 #[.agg #[.int .i64 V, .slice A n c], .int .i64 x] w (SelPost w (selOf (fun l => l.2.1) V ls x) (selE V ls x)) := by
  have hn := h.small
  have HL := Lib.hid h.len
  have HR := Lib.hid h
  have HR1 := Lib.hid (h.grown hB (grow0 w (.cells #[.int .i64 V, .slice A n c] 24)))
  clear h
  go_enter Try.func19, Try.ntmps19
  go_wp2_with fail
  refine (RMay_any V A n c ls _ HR1.out).mono ?_
  rintro e w1 ⟨rfl, g1⟩
  obtain ⟨g, o2⟩ := box1 [.int .i64 V, .slice A n c] g1
  obtain ⟨c0, c1⟩ := o2.two
  have G := Lib.hid g
  have O2 := Lib.hid o2
  clear g g1 o2 HR1
  cases hm : mayG V ls
  · have E := Lib.hid (selOf_no (f := fun l => l.2.1) (V := V) (ls := ls) (x := x) (by simp [goodB, hm]))
    go_wp2
    go_ret2
    exact ⟨.slice none 0 0, ret_sel E.out.2, by rw [E.out.1]; exact Mine.nil _ _, G.out⟩
  · go_wp2_with fail
    refine (RVertex_any V x A n c _).mono ?_
    rintro e w2 ⟨rfl, g2⟩
    have O2 := Lib.hid (O2.out.kept g2)
    have G := Lib.hid (grown_trans G.out g2)
    obtain ⟨c0, c1⟩ := O2.out.two
    clear g2
    cases hx : isV V x
    · have E := Lib.hid (selOf_no (f := fun l => l.2.1) (V := V) (ls := ls) (x := x) (by simp [goodB, hx]))
      go_wp2
      go_ret2
      exact ⟨.slice none 0 0, ret_sel E.out.2, by rw [E.out.1]; exact Mine.nil _ _, G.out⟩
    · have E := Lib.hid (selOf_yes (f := fun l => l.2.1) (V := V) (ls := ls) (x := x) (by simp [goodB, hm, hx]))
      have h16 := may_small hm
      rw [HL.out] at h16
      have HS : Hid (SelRel w V A n c (fun l => l.2.1) ls x (.slice none 0 0) (.int .i64 0) w2) := ⟨0, Nat.zero_le _, rfl, G.out, O2.out, Mine.nil _ _⟩
      clear G hm hx
      go_wp2
      go_loopw [6, 7] (fun o i wr => SelRel w V A n c (fun l => l.2.1) ls x o i wr) (fun _ i _ => n - (intOf i).toNat)
      case atStart => exact HS.out
      case round =>
        clear HS c0 c1 O2
        obtain ⟨k, hk, rfl, hg, o2, hmine⟩ := hrel
        have G := Lib.hid hg
        have hsz := hg.size
        have l2 := o2.lt
        obtain ⟨c0, c1⟩ := o2.two
        have O2 := Lib.hid o2
        have HM := Lib.hid hmine
        by_cases hlt : k < n
        · obtain ⟨b, off, hA, hb, hcell⟩ := HR.out.cells (by omega)
          subst hA
          obtain ⟨d0, d1, d2⟩ := hcell k hlt
          have d0 := kept hg d0
          have d1 := kept hg d1
          have d2 := kept hg d2
          have hyes := Lib.hid (sel_yes (f := fun l : Lk => l.2.1) (ls := ls) (v := x) (k := k))
          have hno := Lib.hid (sel_no (f := fun l : Lk => l.2.1) (ls := ls) (v := x) (k := k))
          have hl := sel_len (fun l : Lk => l.2.1) ls x k
          clear hcell hg o2 hmine
          generalize at3 ls k = l at *
          obtain ⟨p, t, cp⟩ := l
          simp only at d0 d1 d2
          by_cases hp : t = x
          · have HY := Lib.hid (hyes.out hp)
            clear hyes hno
            subst hp
            have hpp : (t == t) = true := by simp
            have HM1 := Lib.hid (HM.out.kept (grow0 _ (.cells #[.int .i64 (k : Nat)] 3)))
            have HROW := Lib.hid (Row.newAt (w := wr) (g := wr.heap.size) (n := 1) (vs := #[.int .i64 (k : Nat)]) [(k : Int)] (by simp) rfl rfl (by simp) (by simp; omega))
            go_wp2_with (first | (at_builtin; refine wpList_app _ rfl _ _ rfl (w.heap.size + 1) _ _ _ rfl HM1.out _ 1 1 [(k : Int)] rfl HROW.out (by simp) (by omega) (by simp; omega) ?_))
            intro v1 w3 hm1 hg3 _
            have G3 := Lib.hid (grown_none (grown_alloc G.out (.cells #[.int .i64 (k : Nat)] 3)) hg3 (fun g hg => by have := HM.out.own_ge g hg; omega))
            have O3 := Lib.hid (Own.kept' (O2.out.alloc (.cells #[.int .i64 (k : Nat)] 3)) hg3 HM.out.apart)
            have HM3 := Lib.hid hm1
            clear hm1 hg3
            go_wp2
            go_roundw
            case rel => exact ⟨k + 1, by omega, by go_num, G3.out, O3.out, by rw [HY.out]; simpa using HM3.out⟩
            case measure => simp [intOf]; omega
          · have hpp : (t == x) = false := by simp [hp]
            have HN := Lib.hid (hno.out hp)
            go_wp2
            go_roundw
            case rel => exact ⟨k + 1, by omega, by go_num, G.out, O2.out, by rw [HN.out]; exact HM.out⟩
            case measure => simp [intOf]; omega
        · obtain rfl : k = n := by omega
          clear hmine hg o2
          go_wp2
          go_ret2
          exact ⟨_, ret_sel E.out.2, by rw [E.out.1, HL.out]; exact HM.out.wide (by omega), G.out⟩

end Go.Proofs.Ytfldicenikkacaa
