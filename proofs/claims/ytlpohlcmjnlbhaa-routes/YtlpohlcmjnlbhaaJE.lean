/-
  begin, Row; the reference's Tail, Head, Row. Row; the reference's Tail, Head, Row. Three rows of the call's own in one struct; Build's ground. Build.
-/
import Derived.Test.YtlpohlcmjnlbhaaJC
import Derived.Test.YtlpohlcmjnlbhaaJA

set_option maxRecDepth 20000
namespace Go.Proofs.Ytlpohlcmjnlbhaa
open Go.RowKit

def BegPost (w : World) (xs : List Int) (e : Ending) (w' : World) : Prop :=
  ∃ v, e = .returned v ∧ Mine w' w.heap.size v xs.length xs ∧ w.grownBy w' none

def BegRel (w : World) (V : Int) (A : Option Addr) (n c : Nat) (ls : List Lk) (x : Int) (o i : Value) (wr : World) : Prop :=
  ∃ k : Nat, k ≤ n ∧ i = .int .i64 (k : Nat) ∧ w.grownBy wr none ∧ Own wr w.heap.size 24 [.int .i64 V, .slice A n c] ∧ Mine wr (w.heap.size + 1) o (rowA ls x (2 * k)).length (rowA ls x (2 * k))

set_option maxHeartbeats 1000000 in
theorem begin_any (V x : Int) (A : Option Addr) (n c : Nat) (ls : List Lk) (w : World) {B : Nat} (h : Lks w B A n ls) (hn : n ≤ 16) :
    Calls Try.prog 90 #[.agg #[.int .i64 V, .slice A n c], .int .i64 x] w (BegPost w (rowA ls x (2 * n))) := by
  have HR := Lib.hid h
  have HS : Hid (BegRel w V A n c ls x (.slice none 0 0) (.int .i64 0) (w.alloc (.cells #[.int .i64 V, .slice A n c] 24))) :=
    ⟨0, Nat.zero_le _, rfl, grow0 _ _, Own.new w 24 [.int .i64 V, .slice A n c], Mine.nil _ _⟩
  clear h
  go_enter Try.func90, Try.ntmps90
  go_wp2
  go_loopw [5, 11] (fun o i wr => BegRel w V A n c ls x o i wr) (fun _ i _ => n - (intOf i).toNat)
  case atStart => exact HS.out
  case round =>
    clear HS
    obtain ⟨k, hk, rfl, hg, o2, hmine⟩ := hrel
    have G := Lib.hid hg
    have hsz := hg.size
    have l2 := o2.lt
    by_cases hlt : k < n
    · obtain ⟨b, off, hA, hb, hcell⟩ := HR.out.cells (by omega)
      subst hA
      obtain ⟨d0, d1, d2⟩ := hcell k hlt
      have d0 := kept hg d0
      have d1 := kept hg d1
      have d2 := kept hg d2
      have HP := Lib.hid (row_pair ls x k)
      have hl := row_len ls x (2 * k)
      obtain ⟨c0, c1⟩ := o2.two
      have O2 := Lib.hid o2
      have HM := Lib.hid hmine
      clear hcell hg o2 hmine
      generalize at3 ls k = l at *
      obtain ⟨p, t, cp⟩ := l
      simp only at d0 d1 d2
      by_cases hp : p = x
      · subst hp
        have hpp : (p == p) = true := by simp
        have HM1 := Lib.hid ((HM.out.kept (grow0 _ (.cells #[.int .i64 p, .int .i64 t, .int .i64 cp] 57))).kept (grow0 _ (.cells #[.int .i64 (2 * (k : Int))] 3)))
        have HROW := Lib.hid (Row.newAt (w := wr.alloc (.cells #[.int .i64 p, .int .i64 t, .int .i64 cp] 57)) (g := wr.heap.size + 1) (n := 1) (vs := #[.int .i64 (2 * (k : Int))]) [2 * (k : Int)] (by simp) rfl rfl (by simp) (by simp; omega))
        go_wp2_with (first | (at_builtin; refine wpList_app _ rfl _ _ rfl (w.heap.size + 1) _ _ _ rfl HM1.out _ 1 1 [2 * (k : Int)] rfl HROW.out (by simp) (by omega) (by simp; omega) ?_))
        intro v1 w3 hm1 hg3 _
        have G3 := Lib.hid (grown_none (grown_alloc (grown_alloc G.out (.cells #[.int .i64 p, .int .i64 t, .int .i64 cp] 57)) (.cells #[.int .i64 (2 * (k : Int))] 3)) hg3 (fun g hg => by have := HM.out.own_ge g hg; omega))
        have O3 := Lib.hid (Own.kept' ((O2.out.alloc (.cells #[.int .i64 p, .int .i64 t, .int .i64 cp] 57)).alloc (.cells #[.int .i64 (2 * (k : Int))] 3)) hg3 HM.out.apart)
        have OL := Lib.hid (Own.kept' ((Own.new wr 57 [.int .i64 p, .int .i64 t, .int .i64 cp]).alloc (.cells #[.int .i64 (2 * (k : Int))] 3)) hg3 (fun e => by have := HM.out.own_lt _ e; omega))
        have HM3 := Lib.hid hm1
        have s3 := G3.out.size
        have l3 := O3.out.lt
        have l4 := OL.out.lt
        obtain ⟨e0, e1, e2⟩ := OL.out.three
        clear hm1 hg3 HM HM1 HROW c0 c1 d0 d1 d2
        by_cases ht : t = p
        · subst ht
          have HM4 := Lib.hid (HM3.out.kept (grow0 _ (.cells #[.int .i64 (2 * (k : Int) + 1)] 3)))
          have HROW := Lib.hid (Row.newAt (w := w3) (g := w3.heap.size) (n := 1) (vs := #[.int .i64 (2 * (k : Int) + 1)]) [2 * (k : Int) + 1] rfl rfl rfl (by simp) (by simp; omega))
          go_wp2_with (first | (at_builtin; refine wpList_app _ rfl _ _ rfl (w.heap.size + 1) _ _ _ rfl HM4.out _ 1 1 [2 * (k : Int) + 1] rfl HROW.out (by simp) (by omega) (by simp; omega) ?_))
          intro v2 w4 hm2 hg4 _
          have G4 := Lib.hid (grown_none (grown_alloc G3.out (.cells #[.int .i64 (2 * (k : Int) + 1)] 3)) hg4 (fun g hg => by have := HM3.out.own_ge g hg; omega))
          have O4 := Lib.hid (Own.kept' (O3.out.alloc (.cells #[.int .i64 (2 * (k : Int) + 1)] 3)) hg4 HM3.out.apart)
          have HM5 := Lib.hid hm2
          clear hm2 hg4 HM3 HM4 HROW
          go_wp2
          go_roundw
          case rel => exact ⟨k + 1, by omega, by go_num, G4.out, O4.out, by rw [HP.out]; simpa using HM5.out⟩
          case measure => simp [intOf]; omega
        · have htt : (t == p) = false := by simp [ht]
          go_wp2
          go_roundw
          case rel => exact ⟨k + 1, by omega, by go_num, G3.out, O3.out, by rw [HP.out]; simpa [ht] using HM3.out⟩
          case measure => simp [intOf]; omega
      · have hpp : (p == x) = false := by simp [hp]
        by_cases ht : t = x
        · subst ht
          have htt : (t == t) = true := by simp
          have HM1 := Lib.hid ((HM.out.kept (grow0 _ (.cells #[.int .i64 p, .int .i64 t, .int .i64 cp] 57))).kept (grow0 _ (.cells #[.int .i64 (2 * (k : Int) + 1)] 3)))
          have HROW := Lib.hid (Row.newAt (w := wr.alloc (.cells #[.int .i64 p, .int .i64 t, .int .i64 cp] 57)) (g := wr.heap.size + 1) (n := 1) (vs := #[.int .i64 (2 * (k : Int) + 1)]) [2 * (k : Int) + 1] (by simp) rfl rfl (by simp) (by simp; omega))
          go_wp2_with (first | (at_builtin; refine wpList_app _ rfl _ _ rfl (w.heap.size + 1) _ _ _ rfl HM1.out _ 1 1 [2 * (k : Int) + 1] rfl HROW.out (by simp) (by omega) (by simp; omega) ?_))
          intro v1 w3 hm1 hg3 _
          have G3 := Lib.hid (grown_none (grown_alloc (grown_alloc G.out (.cells #[.int .i64 p, .int .i64 t, .int .i64 cp] 57)) (.cells #[.int .i64 (2 * (k : Int) + 1)] 3)) hg3 (fun g hg => by have := HM.out.own_ge g hg; omega))
          have O3 := Lib.hid (Own.kept' ((O2.out.alloc (.cells #[.int .i64 p, .int .i64 t, .int .i64 cp] 57)).alloc (.cells #[.int .i64 (2 * (k : Int) + 1)] 3)) hg3 HM.out.apart)
          have HM3 := Lib.hid hm1
          clear hm1 hg3
          go_wp2
          go_roundw
          case rel => exact ⟨k + 1, by omega, by go_num, G3.out, O3.out, by rw [HP.out]; simpa [hp] using HM3.out⟩
          case measure => simp [intOf]; omega
        · have htt : (t == x) = false := by simp [ht]
          go_wp2
          go_roundw
          case rel => exact ⟨k + 1, by omega, by go_num, grown_alloc G.out _, O2.out.alloc _, by rw [HP.out]; simpa [hp, ht] using HM.out.kept (grow0 _ _)⟩
          case measure => simp [intOf]; omega
    · obtain rfl : k = n := by omega
      have HM := Lib.hid hmine
      clear hmine hg o2
      go_wp2
      go_ret
      exact ⟨_, rfl, HM.out.wide (by omega), G.out⟩

end Go.Proofs.Ytlpohlcmjnlbhaa

set_option maxRecDepth 20000
namespace Go.Proofs.Ytlpohlcmjnlbhaa
open Go.RowKit

theorem tail_ev {ls : List Lk} {a : Nat} (h : a % 2 = 0) : tailOf ls a = (at3 ls (a / 2)).1 ∧ headOf ls a = (at3 ls (a / 2)).2.1 := by
  unfold tailOf headOf
  rw [if_pos h, if_pos h]
  exact ⟨rfl, rfl⟩

theorem tail_od {ls : List Lk} {a : Nat} (h : ¬ a % 2 = 0) : tailOf ls a = (at3 ls (a / 2)).2.1 ∧ headOf ls a = (at3 ls (a / 2)).1 := by
  unfold tailOf headOf
  rw [if_neg h, if_neg h]
  exact ⟨rfl, rfl⟩

theorem half_int (a : Nat) : (a : Int).tdiv 2 = ((a / 2 : Nat) : Int) ∧ (a : Int).tmod 2 = ((a % 2 : Nat) : Int) := by
  constructor
  · rfl
  · rfl

def RRowRel (w : World) (V : Int) (A : Option Addr) (n c : Nat) (ls : List Lk) (x : Int) (o i : Value) (wr : World) : Prop :=
  ∃ k : Nat, k ≤ 2 * n ∧ i = .int .i64 (k : Nat) ∧ w.grownBy wr none ∧ Own wr w.heap.size 24 [.int .i64 V, .slice A n c] ∧ Mine wr (w.heap.size + 1) o (rowA ls x k).length (rowA ls x k)

end Go.Proofs.Ytlpohlcmjnlbhaa

set_option maxRecDepth 20000
namespace Go.Proofs.Ytlpohlcmjnlbhaa
open Go.RowKit

structure Tri (w : World) (base : Nat) (x y z : Value) (s o h : List Int) : Prop where
  S : Mine w base x s.length s
  O : Mine w base y o.length o
  H : Mine w base z h.length h
  so : Apart x y
  sh : Apart x z
  oh : Apart y z

theorem Tri.nil (w : World) (base : Nat) : Tri w base nilS nilS nilS [] [] [] :=
  ⟨Mine.nil _ _, Mine.nil _ _, Mine.nil _ _, (apart_nil _).1, (apart_nil _).1, (apart_nil _).1⟩

theorem Tri.kept {w w' : World} {base : Nat} {x y z : Value} {s o h : List Int} (t : Tri w base x y z s o h) (k : w.grownBy w' none) : Tri w' base x y z s o h :=
  ⟨t.S.kept k, t.O.kept k, t.H.kept k, t.so, t.sh, t.oh⟩

theorem Tri.wide {w : World} {base b : Nat} {x y z : Value} {s o h : List Int} (t : Tri w base x y z s o h) (k : b ≤ base) : Tri w b x y z s o h :=
  ⟨t.S.wide k, t.O.wide k, t.H.wide k, t.so, t.sh, t.oh⟩

theorem Tri.put {w : World} {p i : Nat} {u x y z : Value} {s o h : List Int} (t : Tri w (p + 1) x y z s o h) : Tri (w.setCell ⟨p, i, none⟩ u) (p + 1) x y z s o h :=
  ⟨t.S.put, t.O.put, t.H.put, t.so, t.sh, t.oh⟩

theorem Mine.putLow {w : World} {q i base : Nat} {u v : Value} {n : Nat} {xs : List Int} (h : Mine w base v n xs) (hq : q < base) : Mine (w.setCell ⟨q, i, none⟩ u) base v n xs :=
  h.kept' (grown_set (World.grownBy.refl w (some q)) u) (fun g hg e => by have := h.own_ge g hg; injection e with e; omega)

theorem Tri.putLow {w : World} {q i base : Nat} {u x y z : Value} {s o h : List Int} (t : Tri w base x y z s o h) (hq : q < base) : Tri (w.setCell ⟨q, i, none⟩ u) base x y z s o h :=
  ⟨t.S.putLow hq, t.O.putLow hq, t.H.putLow hq, t.so, t.sh, t.oh⟩

theorem Tri.store3 {w : World} {q base : Nat} {u v r x y z : Value} {s o h : List Int} (t : Tri w base x y z s o h) (hq : q < base) :
    Tri (((w.setCell ⟨q, 0, none⟩ u).setCell ⟨q, 1, none⟩ v).setCell ⟨q, 2, none⟩ r) base x y z s o h := ((t.putLow hq).putLow hq).putLow hq

theorem Tri.stepS {w w' : World} {base : Nat} {x x' y z : Value} {s s' o h : List Int} (t : Tri w base x y z s o h) (m : Mine w' base x' s'.length s') (k : w.grownBy w' x.ownBlock) (c : x'.ownBlock = x.ownBlock ∨ x'.ownBlock = some w.heap.size) : Tri w' base x' y z s' o h :=
  ⟨m, t.O.kept' k (fun g hg e => t.so g e hg), t.H.kept' k (fun g hg e => t.sh g e hg), apart_new t.so t.O.own_lt c, apart_new t.sh t.H.own_lt c, t.oh⟩

theorem Tri.stepO {w w' : World} {base : Nat} {x y y' z : Value} {s o o' h : List Int} (t : Tri w base x y z s o h) (m : Mine w' base y' o'.length o') (k : w.grownBy w' y.ownBlock) (c : y'.ownBlock = y.ownBlock ∨ y'.ownBlock = some w.heap.size) : Tri w' base x y' z s o' h :=
  ⟨t.S.kept' k (fun g hg e => t.so g hg e), m, t.H.kept' k (fun g hg e => t.oh g e hg), apart_symm (apart_new (apart_symm t.so) t.S.own_lt c), t.sh, apart_new t.oh t.H.own_lt c⟩

theorem Tri.stepH {w w' : World} {base : Nat} {x y z z' : Value} {s o h h' : List Int} (t : Tri w base x y z s o h) (m : Mine w' base z' h'.length h') (k : w.grownBy w' z.ownBlock) (c : z'.ownBlock = z.ownBlock ∨ z'.ownBlock = some w.heap.size) : Tri w' base x y z' s o h' :=
  ⟨t.S.kept' k (fun g hg e => t.sh g hg e), t.O.kept' k (fun g hg e => t.oh g hg e), m, t.so, apart_symm (apart_new (apart_symm t.sh) t.S.own_lt c), apart_symm (apart_new (apart_symm t.oh) t.O.own_lt c)⟩

def ArcPost (w : World) (s o h : List Int) (z : Int) (e : Ending) (w' : World) : Prop :=
  ∃ x y t, e = .returned (.tuple #[.agg #[x, y, t], .int .i64 z]) ∧ Tri w' w.heap.size x y t s o h ∧ w.grownBy w' none

theorem results_arcs {fn : Func} {t u : Tmp} (h : fn.results = #[.cell t 111, .tmp u]) (tmps : Array Value) (w : World) {g : Nat} {x y z : Value} (hp : tmps[t]?.getD undef = .pointer (some ⟨g, 0, none⟩))
   (c0 : w.cell? ⟨g, 0, none⟩ = some x) (c1 : w.cell? ⟨g, 1, none⟩ = some y) (c2 : w.cell? ⟨g, 2, none⟩ = some z) :
    (results fn tmps).run Try.prog w = .ok (.tuple #[.agg #[x, y, z], tmps[u]?.getD undef]) w := by
  simp [results, h, hp, c0, c1, c2, go_sem]

theorem post_arcs {fn : Func} {t u : Tmp} {R : Ending → World → Prop} {a : Act} {w : World} (h : fn.results = #[.cell t 111, .tmp u]) {g : Nat} {x y z : Value} (hp : a.tmps[t]?.getD undef = .pointer (some ⟨g, 0, none⟩))
   (o : Own w g 111 [x, y, z]) (hd : a.defers = []) (hR : R (.returned (.tuple #[.agg #[x, y, z], a.tmps[u]?.getD undef])) w) : bodyPost Try.prog fn R .ret a w :=
  bodyPost_ret (results_arcs h a.tmps w hp o.three.1 o.three.2.1 o.three.2.2) hd hR

theorem Own.store3 {w : World} {g : Nat} {T : TypeId} {x y z : Value} (h : Own w g T [x, y, z]) (a b c : Value) :
    Own (((w.setCell ⟨g, 0, none⟩ a).setCell ⟨g, 1, none⟩ b).setCell ⟨g, 2, none⟩ c) g T [a, b, c] :=
  ((h.put (i := 0) a).put (i := 1) b).put (i := 2) c

theorem grown_store3 {a w : World} {g : Nat} (h : a.grownBy w none) (hg : a.heap.size ≤ g) (x y z : Value) :
    a.grownBy (((w.setCell ⟨g, 0, none⟩ x).setCell ⟨g, 1, none⟩ y).setCell ⟨g, 2, none⟩ z) none :=
  grown_new (grown_new (grown_new h hg x) hg y) hg z

structure Rows3 (w : World) (B : Nat) (Ax Ay Az : Option Addr) (s o h : List Int) : Prop where
  S : Row w B Ax s.length s
  O : Row w B Ay o.length o
  H : Row w B Az h.length h

theorem Rows3.grown {w w' : World} {B : Nat} {Ax Ay Az : Option Addr} {s o h : List Int} (t : Rows3 w B Ax Ay Az s o h) (hB : B ≤ w.heap.size) (k : w.grownBy w' none) : Rows3 w' B Ax Ay Az s o h :=
  ⟨t.S.grown hB k, t.O.grown hB k, t.H.grown hB k⟩

theorem Tri.rows {w : World} {base : Nat} {x y z : Value} {s o h : List Int} (t : Tri w base x y z s o h) (k1 : okI s) (k2 : okI o) (k3 : okI h) :
    ∃ Ax Ay Az cx cy cz, x = .slice Ax s.length cx ∧ y = .slice Ay o.length cy ∧ z = .slice Az h.length cz ∧ Rows3 w w.heap.size Ax Ay Az s o h := by
  obtain ⟨Ax, cx, h1, _, r1⟩ := t.S.row k1
  obtain ⟨Ay, cy, h2, _, r2⟩ := t.O.row k2
  obtain ⟨Az, cz, h3, _, r3⟩ := t.H.row k3
  exact ⟨Ax, Ay, Az, cx, cy, cz, h1, h2, h3, r1, r2, r3⟩

theorem Tri.rowsAt {w : World} {base : Nat} {Ax Ay Az : Option Addr} {cx cy cz : Nat} {s o h : List Int} (t : Tri w base (.slice Ax s.length cx) (.slice Ay o.length cy) (.slice Az h.length cz) s o h) (k1 : okI s) (k2 : okI o) (k3 : okI h) :
    Rows3 w w.heap.size Ax Ay Az s o h := ⟨t.S.rowAt k1, t.O.rowAt k2, t.H.rowAt k3⟩

theorem Rows3.grown' {w w' : World} {B : Nat} {Ax Ay Az : Option Addr} {s o h : List Int} {row : Option Nat} (t : Rows3 w B Ax Ay Az s o h) (hB : B ≤ w.heap.size) (k : w.grownBy w' row) (hr : ∀ g, row = some g → B ≤ g) : Rows3 w' B Ax Ay Az s o h :=
  ⟨t.S.grown' hB k hr, t.O.grown' hB k hr, t.H.grown' hB k hr⟩

end Go.Proofs.Ytlpohlcmjnlbhaa

set_option maxRecDepth 20000
namespace Go.Proofs.Ytlpohlcmjnlbhaa
open Go.RowKit

def HeadRel (w : World) (p : Nat) (V : Int) (A : Option Addr) (n c : Nat) (ls : List Lk) (i : Value) (wr : World) : Prop :=
  ∃ (k : Nat) (Az : Option Addr) (cz : Nat), k ≤ n ∧ i = .int .i64 (k : Nat) ∧ w.grownBy wr none ∧ Own wr w.heap.size 24 [.int .i64 V, .slice A n c] ∧ Own wr (w.heap.size + 1) 111 [.slice none 0 0, .slice none 0 0, .slice none 0 0] ∧
    Own wr p 111 [.slice none 0 0, .slice none 0 0, .slice Az (2 * k) cz] ∧ Mine wr (p + 1) (.slice Az (2 * k) cz) (2 * k) (headsA ls (2 * k))

def OrdRel (w : World) (p vn : Nat) (A : Option Addr) (n c : Nat) (ls : List Lk) (i : Value) (wr : World) : Prop :=
  ∃ (k : Nat) (Ax Ay Az : Option Addr) (m cx cy cz : Nat), k ≤ vn ∧ i = .int .i64 (k : Nat) ∧ m = (ordA ls n k).length ∧ w.grownBy wr none ∧ Own wr w.heap.size 24 [.int .i64 (vn : Nat), .slice A n c] ∧ Own wr (w.heap.size + 1) 111 [.slice none 0 0, .slice none 0 0, .slice none 0 0] ∧
    Own wr p 111 [.slice Ax k cx, .slice Ay m cy, .slice Az (2 * n) cz] ∧ Tri wr (p + 1) (.slice Ax k cx) (.slice Ay m cy) (.slice Az (2 * n) cz) (startsA ls n k) (ordA ls n k) (headsA ls (2 * n))

set_option maxHeartbeats 1000000 in
theorem Build_any (V : Int) (A : Option Addr) (n c : Nat) (ls : List Lk) (w : World) {B : Nat} (h : Lks w B A n ls) (hB : B ≤ w.heap.size) :
    Calls Try.prog 83 #[.agg #[.int .i64 V, .slice A n c]] w (ArcPost w (arcS V ls) (arcO V ls) (arcH V ls) (arcE V ls)) := by
  have hn := h.small
  have HL := Lib.hid h.len
  have HR := Lib.hid h
  have HR1 := Lib.hid (h.grown hB (grown_alloc (grow0 w (.cells #[.int .i64 V, .slice A n c] 24)) (.cells #[.slice none 0 0, .slice none 0 0, .slice none 0 0] 111)))
  clear h
  go_enter Try.func83, Try.ntmps83
  go_wp2_with fail
  refine (GMay_any V A n c ls _ HR1.out (by simp; omega)).mono ?_
  rintro e w1 ⟨rfl, g1⟩
  obtain ⟨g, o1, o2⟩ := box2 [.int .i64 V, .slice A n c] [.slice none 0 0, .slice none 0 0, .slice none 0 0] g1
  obtain ⟨c0, c1⟩ := o1.two
  obtain ⟨e0, e1, e2⟩ := o2.three
  have f0 := o2.frozen 0
  have f1 := o2.frozen 1
  have f2 := o2.frozen 2
  have G := Lib.hid g
  have O1 := Lib.hid o1
  have O2 := Lib.hid o2
  have s1 := g.size
  have l1 := o1.lt
  have l2 := o2.lt
  clear g g1 o1 o2 HR1
  cases hm : mayG V ls
  · have E := Lib.hid (arc_no hm)
    go_wp2
    refine post_arcs rfl rfl (O2.out.store3 _ _ _) rfl ⟨.slice none 0 0, .slice none 0 0, .slice none 0 0, ?_, ?_, grown_store3 G.out (by omega) _ _ _⟩
    · rw [E.out.2.2.2]; rfl
    · rw [E.out.1, E.out.2.1, E.out.2.2.1]; exact Tri.nil _ _
  · have E := Lib.hid (arc_yes hm)
    have h16 := may_small hm
    rw [HL.out] at h16
    have HS : Hid (HeadRel w w1.heap.size V A n c ls (.int .i64 0) (w1.alloc (.cells #[.slice none 0 0, .slice none 0 0, .slice none 0 0] 111))) :=
      ⟨0, none, 0, Nat.zero_le _, rfl, grown_alloc G.out _, O1.out.alloc _, O2.out.alloc _, Own.new w1 111 [.slice none 0 0, .slice none 0 0, .slice none 0 0], Mine.nil _ _⟩
    clear hm f0 f1 f2
    go_wp2
    go_loopw [15] (fun i wr => HeadRel w w1.heap.size V A n c ls i wr) (fun i _ => n - (intOf i).toNat)
    case atStart => exact HS.out
    case round =>
      clear HS c0 c1 O1 O2 G e0 e1 e2
      obtain ⟨k, Az, cz, hk, rfl, hg, o1, o2, o3, hz⟩ := hrel
      have G := Lib.hid hg
      have hsz := hg.size
      have l3 := o3.lt
      have O1 := Lib.hid o1
      have O2 := Lib.hid o2
      have O3 := Lib.hid o3
      have HZ := Lib.hid hz
      obtain ⟨c0, c1⟩ := o1.two
      obtain ⟨q0, q1, q2⟩ := o3.three
      have f0 := o3.frozen 0
      have f1 := o3.frozen 1
      have f2 := o3.frozen 2
      by_cases hlt : k < n
      · obtain ⟨b, off, hA, hb, hcell⟩ := HR.out.cells (by omega)
        subst hA
        obtain ⟨d0, d1, d2⟩ := hcell k hlt
        have b0 := (HR.out.ok k)
        have d0 := kept hg d0
        have d1 := kept hg d1
        have d2 := kept hg d2
        have HP := Lib.hid (heads_pair ls k)
        clear hcell hg o1 o2 o3 hz
        generalize at3 ls k = l at *
        obtain ⟨f, t, cp⟩ := l
        simp only at d0 d1 d2 b0
        have HZ1 := Lib.hid ((HZ.out.kept (grow0 _ (.cells #[.int .i64 f, .int .i64 t, .int .i64 cp] 57))).kept (grow0 _ (.cells #[.int .i64 t, .int .i64 f] 3)))
        have HROW := Lib.hid (Row.newAt (w := wr.alloc (.cells #[.int .i64 f, .int .i64 t, .int .i64 cp] 57)) (g := wr.heap.size + 1) (n := 2) (vs := #[.int .i64 t, .int .i64 f]) [t, f] (by simp) rfl rfl (by simp) (by simpa using ⟨b0.2.1, b0.1⟩))
        go_wp2_with (first | (at_builtin; refine wpList_app _ rfl _ _ rfl (w1.heap.size + 1) _ _ _ rfl HZ1.out _ 2 2 [t, f] rfl HROW.out (by simp) (by omega) (by simp; omega) ?_))
        intro v1 w3 hm1 hg3 _
        have hge := HZ.out.own_ge
        have G3 := Lib.hid (grown_none (grown_alloc (grown_alloc G.out (.cells #[.int .i64 f, .int .i64 t, .int .i64 cp] 57)) (.cells #[.int .i64 t, .int .i64 f] 3)) hg3 (fun g hg => by have := hge g hg; omega))
        have O1 := Lib.hid (Own.kept' ((O1.out.alloc (.cells #[.int .i64 f, .int .i64 t, .int .i64 cp] 57)).alloc (.cells #[.int .i64 t, .int .i64 f] 3)) hg3 (fun e => by have := hge _ e; omega))
        have O2 := Lib.hid (Own.kept' ((O2.out.alloc (.cells #[.int .i64 f, .int .i64 t, .int .i64 cp] 57)).alloc (.cells #[.int .i64 t, .int .i64 f] 3)) hg3 (fun e => by have := hge _ e; omega))
        have O3 := Lib.hid (Own.kept' ((O3.out.alloc (.cells #[.int .i64 f, .int .i64 t, .int .i64 cp] 57)).alloc (.cells #[.int .i64 t, .int .i64 f] 3)) hg3 (fun e => by have := hge _ e; omega))
        have hm2 : Mine w3 (w1.heap.size + 1) v1 (2 * (k + 1)) (headsA ls (2 * (k + 1))) := by rw [HP.out]; exact hm1
        obtain ⟨A3, c3, rfl, _⟩ := hm2.sl
        have HM := Lib.hid hm2
        clear hm1 hm2 hg3 HZ HZ1 HROW q0 q1 q2 f0 f1 f2 d0 d1 d2 c0 c1 hge
        obtain ⟨q0, q1, q2⟩ := O3.out.three
        have f2 := O3.out.frozen 2
        go_wp2
        go_roundw
        case rel => exact ⟨k + 1, A3, c3, by omega, by go_num, grown_new G3.out (by omega) _, O1.out.setOther (by omega) _, O2.out.setOther (by omega) _, O3.out.put _, HM.out.put⟩
        case measure => simp [intOf]; omega
      · obtain rfl : n = k := by omega
        clear hg o1 o2 o3 hz
        obtain ⟨vn, rfl⟩ : ∃ vn : Nat, V = (vn : Nat) := ⟨V.toNat, by omega⟩
        have HS : Hid (OrdRel w w1.heap.size vn A n c ls (.int .i64 0) wr) := ⟨0, none, none, Az, 0, 0, 0, cz, Nat.zero_le _, rfl, rfl, G.out, O1.out, O2.out, O3.out, ⟨Mine.nil _ _, Mine.nil _ _, by rw [heads_len]; exact HZ.out, (apart_nil _).1, (apart_nil _).1, (apart_nil _).1⟩⟩
        clear hlt HZ q0 q1 q2 f0 f1 f2 l3 O1 O2 O3 G hsz
        go_wp2
        go_loopw [31] (fun i wr => OrdRel w w1.heap.size vn A n c ls i wr) (fun i _ => vn - (intOf i).toNat)
        case atStart => exact HS.out
        case round =>
          clear HS c0 c1
          obtain ⟨k, Ax, Ay, Az, m, cx, cy, cz, hk2, rfl, hmm, hg, o1, o2, o3, tri⟩ := hrel
          have hm16 : m ≤ 2 * n * k := hmm ▸ ord_len ls n k
          have hmul : 2 * n * k ≤ 2 * 16 * 8 := Nat.mul_le_mul (by omega) (by omega)
          have HMM := Lib.hid hmm
          have G := Lib.hid hg
          have hsz := hg.size
          have l3 := o3.lt
          have O1 := Lib.hid o1
          have O2 := Lib.hid o2
          have O3 := Lib.hid o3
          have TR := Lib.hid tri
          obtain ⟨c0, c1⟩ := o1.two
          obtain ⟨q0, q1, q2⟩ := o3.three
          have f0 := o3.frozen 0
          clear hg o1 o2 o3 tri hmm
          have hS1 : Mine wr (w1.heap.size + 1) (.slice Ax k cx) k (startsA ls n k) := by have := TR.out.S; rw [starts_len] at this; exact this
          have HS1 := Lib.hid (hS1.kept (grow0 _ (.cells #[.int .i64 (m : Nat)] 3)))
          have HROW := Lib.hid (Row.newAt (w := wr) (g := wr.heap.size) (n := 1) (vs := #[.int .i64 (m : Nat)]) [(m : Int)] rfl rfl rfl (by simp) (by simp; omega))
          by_cases hlt : k < vn
          · go_wp2_with (first | (at_builtin; refine wpList_app _ rfl _ _ rfl (w1.heap.size + 1) _ _ _ rfl HS1.out _ 1 1 [(m : Int)] rfl HROW.out (by simp) (by omega) (by simp; omega) ?_))
            intro v1 w3 hm1 hg3 h4
            have hge := TR.out.S.own_ge
            have hm2 : Mine w3 (w1.heap.size + 1) v1 (startsA ls n (k + 1)).length (startsA ls n (k + 1)) := by rw [starts_len, startsA, ← HMM.out]; exact hm1
            have G3 := Lib.hid (grown_none (grown_alloc G.out (.cells #[.int .i64 (m : Nat)] 3)) hg3 (fun g hg => by have := hge g hg; omega))
            have O1 := Lib.hid (Own.kept' (O1.out.alloc (.cells #[.int .i64 (m : Nat)] 3)) hg3 (fun e => by have := hge _ e; omega))
            have O2 := Lib.hid (Own.kept' (O2.out.alloc (.cells #[.int .i64 (m : Nat)] 3)) hg3 (fun e => by have := hge _ e; omega))
            have O3 := Lib.hid (Own.kept' (O3.out.alloc (.cells #[.int .i64 (m : Nat)] 3)) hg3 (fun e => by have := hge _ e; omega))
            have TR := Lib.hid ((TR.out.kept (grow0 _ (.cells #[.int .i64 (m : Nat)] 3))).stepS hm2 hg3 (by simpa using h4))
            rw [starts_len] at hm2
            obtain ⟨A3, c3, rfl, _⟩ := hm2.sl
            clear hm1 hm2 hg3 h4 HS1 hS1 HROW q0 q1 q2 f0 hge c0 c1
            obtain ⟨q0, q1, q2⟩ := O3.out.three
            have f0 := O3.out.frozen 0
            go_upto_region 13 with fail
            have G := Lib.hid (grown_new (i := 0) G3.out (show w.heap.size ≤ w1.heap.size by omega) (.slice A3 (k + 1) c3))
            have O1 : Hid (Own (w3.setCell ⟨w1.heap.size, 0, none⟩ (.slice A3 (k + 1) c3)) _ _ _) := O1.out.setOther (by omega) _
            have O2 : Hid (Own (w3.setCell ⟨w1.heap.size, 0, none⟩ (.slice A3 (k + 1) c3)) _ _ _) := O2.out.setOther (by omega) _
            have O3 : Hid (Own (w3.setCell ⟨w1.heap.size, 0, none⟩ (.slice A3 (k + 1) c3)) w1.heap.size 111 [.slice A3 (k + 1) c3, .slice Ay m cy, .slice Az (2 * n) cz]) := O3.out.put _
            have TR : Hid (Tri (w3.setCell ⟨w1.heap.size, 0, none⟩ (.slice A3 (k + 1) c3)) _ _ _ _ _ _ _) := TR.out.put
            clear G3 q0 q1 q2 f0
            generalize w3.setCell ⟨w1.heap.size, 0, none⟩ (.slice A3 (k + 1) c3) = w4 at *
            obtain ⟨q0, q1, q2⟩ := O3.out.three
            have f1 := O3.out.frozen 1
            obtain ⟨c0, c1⟩ := O1.out.two
            have hl3 := O3.out.lt
            have CB : Hid (∀ wx : World, w4.grownBy wx none → Calls Try.prog 90 #[.agg #[.int .i64 (vn : Nat), .slice A n c], .int .i64 (k : Nat)] wx (BegPost wx (rowA ls (k : Nat) (2 * n)))) := fun wx g => begin_any _ _ A n c ls wx (HR.out.grown hB (grown_trans G.out g)) (by omega)
            have hrl := row_len ls (k : Nat) (2 * n)
            have hord := Lib.hid (show ordA ls n (k + 1) = ordA ls n k ++ rowA ls (k : Nat) (2 * n) from rfl)
            have hO : Mine w4 (w1.heap.size + 1) (.slice Ay m cy) m (ordA ls n k) := by have := TR.out.O; rw [← HMM.out] at this; exact this
            have MO := Lib.hid hO
            have HOK := Lib.hid (row_ok ls (k : Nat) (m := 2 * n) (by omega))
            clear hO
            go_region_law (first
              | (refine step_app4 rfl _ _ rfl (w1.heap.size + 1) _ m (ordA ls n k) rfl MO5.out Ar (rowA ls (k : Nat) (2 * n)).length cr (rowA ls (k : Nat) (2 * n)) rfl HR5.out HNR.out (by omega) (by omega) ?_; intro v6 w6 hm6 hg6 h46; have hge := MO5.out.own_ge; obtain ⟨A6, c6, rfl, _⟩ := hm6.sl; have G6 := Lib.hid (grown_none (grown_trans G.out G5.out) hg6 (fun g hg => by have := hge g hg; omega)); have P1 := Lib.hid ((O1.out.kept G5.out).kept' hg6 (fun e => by have := hge _ e; omega)); have P2 := Lib.hid ((O2.out.kept G5.out).kept' hg6 (fun e => by have := hge _ e; omega)); have P3 := Lib.hid ((O3.out.kept G5.out).kept' hg6 (fun e => by have := hge _ e; omega)); have r1 := P3.out.three.2.1; have f6 := P3.out.frozen 1; have hm7 : Mine w6 (w1.heap.size + 1) (.slice A6 (m + (rowA ls (k : Nat) (2 * n)).length) c6) (ordA ls n (k + 1)).length (ordA ls n (k + 1)) := (by rw [hord.out, List.length_append, ← HMM.out]; exact hm6); have T6 := Lib.hid ((TR.out.kept G5.out).stepO hm7 hg6 h46); clear hm6 hm7 hg6 h46 hge)
              | (go_simp; go_at_call 90; refine (CB.out _ (by first | exact World.grownBy.refl _ _ | exact grown_drew (World.grownBy.refl _ _) | exact grown_drewN (World.grownBy.refl _ _) _)).mono ?_; rintro e w5 ⟨vr, rfl, hr, g5⟩; obtain ⟨Ar, cr, rfl, _, hnr, hr5⟩ := hr.rowN HOK.out; have G5 : Hid (w4.grownBy w5 none) := (by first | exact g5 | exact grown_undrew g5); have HR5 := Lib.hid hr5; have HNR := Lib.hid hnr; have MO5 := Lib.hid (MO.out.kept G5.out); have t1 := kept G5.out q1; have s5 := G5.out.size; clear hr hr5 g5 hnr))
            all_goals go_wp2
            all_goals go_roundw
            all_goals first | (simp [intOf]; omega) | exact ⟨k + 1, A3, A6, Az, m + (rowA ls (k : Nat) (2 * n)).length, c3, c6, cz, by omega, by go_num, by rw [hord.out, List.length_append, ← HMM.out], grown_new G6.out (by omega) _, P1.out.setOther (by omega) _, P2.out.setOther (by omega) _, P3.out.put _, T6.out.put⟩
          · obtain rfl : vn = k := by omega
            go_wp2_with (first | (at_builtin; refine wpList_app _ rfl _ _ rfl (w1.heap.size + 1) _ _ _ rfl HS1.out _ 1 1 [(m : Int)] rfl HROW.out (by simp) (by omega) (by simp; omega) ?_))
            intro v1 w3 hm1 hg3 h4
            have hge := TR.out.S.own_ge
            have hm2 : Mine w3 (w1.heap.size + 1) v1 (startsA ls n (vn + 1)).length (startsA ls n (vn + 1)) := by rw [starts_len, startsA, ← HMM.out]; exact hm1
            have G3 := Lib.hid (grown_none (grown_alloc G.out (.cells #[.int .i64 (m : Nat)] 3)) hg3 (fun g hg => by have := hge g hg; omega))
            have O2 := Lib.hid (Own.kept' (O2.out.alloc (.cells #[.int .i64 (m : Nat)] 3)) hg3 (fun e => by have := hge _ e; omega))
            have O3 := Lib.hid (Own.kept' (O3.out.alloc (.cells #[.int .i64 (m : Nat)] 3)) hg3 (fun e => by have := hge _ e; omega))
            have TR := Lib.hid ((TR.out.kept (grow0 _ (.cells #[.int .i64 (m : Nat)] 3))).stepS hm2 hg3 (by simpa using h4))
            rw [starts_len] at hm2
            obtain ⟨A3, c3, rfl, _⟩ := hm2.sl
            clear hm1 hm2 hg3 h4 HS1 hS1 HROW q0 q1 q2 f0 hge c0 c1
            obtain ⟨q0, q1, q2⟩ := O3.out.three
            have f0 := O3.out.frozen 0
            go_upto_region 16 with fail
            have G := Lib.hid (grown_new (i := 0) G3.out (show w.heap.size ≤ w1.heap.size by omega) (.slice A3 (vn + 1) c3))
            have O2 : Hid (Own (w3.setCell ⟨w1.heap.size, 0, none⟩ (.slice A3 (vn + 1) c3)) _ _ _) := O2.out.setOther (by omega) _
            have O3 : Hid (Own (w3.setCell ⟨w1.heap.size, 0, none⟩ (.slice A3 (vn + 1) c3)) w1.heap.size 111 [.slice A3 (vn + 1) c3, .slice Ay m cy, .slice Az (2 * n) cz]) := O3.out.put _
            have TR : Hid (Tri (w3.setCell ⟨w1.heap.size, 0, none⟩ (.slice A3 (vn + 1) c3)) _ _ _ _ _ _ _) := TR.out.put
            clear G3 q0 q1 q2 f0
            generalize w3.setCell ⟨w1.heap.size, 0, none⟩ (.slice A3 (vn + 1) c3) = w4 at *
            obtain ⟨q0, q1, q2⟩ := O3.out.three
            obtain ⟨e0, e1, e2⟩ := O2.out.three
            have f0 := O2.out.frozen 0
            have f1 := O2.out.frozen 1
            have f2 := O2.out.frozen 2
            have hne : ¬ w1.heap.size = w.heap.size + 1 := by omega
            have hne2 : ¬ w.heap.size + 1 = w1.heap.size := by omega
            go_wp2
            refine post_arcs rfl rfl (O2.out.store3 _ _ _) rfl ⟨.slice A3 (vn + 1) c3, .slice Ay m cy, .slice Az (2 * n) cz, ?_, ?_, grown_store3 G.out (by omega) _ _ _⟩
            · rw [E.out.2.2.2]; rfl
            · rw [E.out.1, E.out.2.1, E.out.2.2.1, HL.out]
              have T4 := TR.out
              simp only [Int.toNat_natCast]
              exact (T4.store3 (q := w.heap.size + 1) (by omega)).wide (by omega)

theorem may_ok {vn n : Nat} {ls : List Lk} (hm : mayG (vn : Nat) ls = true) (hl : ls.length = n) : okI (startsA ls n (vn + 1)) ∧ okI (ordA ls n vn) ∧ okI (headsA ls (2 * n)) := by
  obtain ⟨e1, e2, e3, _⟩ := arc_yes hm
  have h1 := arcS_ok (vn : Nat) ls
  have h2 := arcO_ok (vn : Nat) ls
  have h3 := arcH_ok (vn : Nat) ls
  rw [e1, hl, Int.toNat_natCast] at h1
  rw [e2, hl, Int.toNat_natCast] at h2
  rw [e3, hl] at h3
  exact ⟨h1, h2, h3⟩

theorem Build_may (vn : Nat) (A : Option Addr) (n c : Nat) (ls : List Lk) (w : World) {B : Nat} (h : Lks w B A n ls) (hB : B ≤ w.heap.size) (hm : mayG (vn : Nat) ls = true) :
    Calls Try.prog 83 #[.agg #[.int .i64 (vn : Nat), .slice A n c]] w (ArcPost w (startsA ls n (vn + 1)) (ordA ls n vn) (headsA ls (2 * n)) 0) := by
  have hc := Build_any (vn : Nat) A n c ls w h hB
  obtain ⟨e1, e2, e3, e4⟩ := arc_yes hm
  rw [e1, e2, e3, e4, h.len, Int.toNat_natCast] at hc
  exact hc

theorem Build_no (V : Int) (A : Option Addr) (n c : Nat) (ls : List Lk) (w : World) {B : Nat} (h : Lks w B A n ls) (hB : B ≤ w.heap.size) (hm : mayG V ls = false) :
    Calls Try.prog 83 #[.agg #[.int .i64 V, .slice A n c]] w (ArcPost w [] [] [] 500) := by
  have hc := Build_any V A n c ls w h hB
  obtain ⟨e1, e2, e3, e4⟩ := arc_no hm
  rw [e1, e2, e3, e4] at hc
  exact hc

end Go.Proofs.Ytlpohlcmjnlbhaa
