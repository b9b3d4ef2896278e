/-
  Whether a Node stands right; all that hangs at a place, walked.
-/
import Derived.Test.YtgfehlmiejnonaaTreeS
set_option maxRecDepth 20000
namespace Go.Proofs.Ytgfehlmiejnonaa
open Go.RowKit

def NodeAt (w : World) (b : Nat) (x : Nd) : Prop :=
  w.cell? ⟨b, 0, none⟩ = some (.int .i64 x.1.1) ∧ w.cell? ⟨b, 1, none⟩ = some (.int .i64 x.1.2.1) ∧ w.cell? ⟨b, 2, none⟩ = some (.int .i64 x.1.2.2) ∧ w.cell? ⟨b, 3, none⟩ = some (.int .i64 x.2.1) ∧ w.cell? ⟨b, 4, none⟩ = some (.int .i64 x.2.2.1) ∧ w.cell? ⟨b, 5, none⟩ = some (.int .i64 x.2.2.2.1) ∧ w.cell? ⟨b, 6, none⟩ = some (.int .i64 x.2.2.2.2)

theorem held10 {w w1 : World} {a0 a1 a2 b0 b1 b2 b3 b4 b5 b6 : Addr} {x0 x1 x2 y0 y1 y2 y3 y4 y5 y6 : Value} (g : w.grownBy w1 none)
    (h : (w.cell? a0 = some x0 ∧ w.cell? a1 = some x1 ∧ w.cell? a2 = some x2) ∧ (w.cell? b0 = some y0 ∧ w.cell? b1 = some y1 ∧ w.cell? b2 = some y2 ∧ w.cell? b3 = some y3 ∧ w.cell? b4 = some y4 ∧ w.cell? b5 = some y5 ∧ w.cell? b6 = some y6)) :
    (w1.cell? a0 = some x0 ∧ w1.cell? a1 = some x1 ∧ w1.cell? a2 = some x2) ∧ (w1.cell? b0 = some y0 ∧ w1.cell? b1 = some y1 ∧ w1.cell? b2 = some y2 ∧ w1.cell? b3 = some y3 ∧ w1.cell? b4 = some y4 ∧ w1.cell? b5 = some y5 ∧ w1.cell? b6 = some y6) :=
  have k : ∀ {a : Addr} {v : Value}, w.cell? a = some v → w1.cell? a = some v := fun h => g.cell h (by simp)
  ⟨⟨k h.1.1, k h.1.2.1, k h.1.2.2⟩, k h.2.1, k h.2.2.1, k h.2.2.2.1, k h.2.2.2.2.1, k h.2.2.2.2.2.1, k h.2.2.2.2.2.2.1, k h.2.2.2.2.2.2.2⟩

set_option maxHeartbeats 4000000 in
theorem Stands_any (q g : Nat) (A : Option Addr) (n c : Nat) (ns : List Nd) (r : Int) (FA : Option Addr) (fn fc sc : Nat) (s : List Bool) (l : It) (x0 x1 x2 lp rp hh m : Int) (w : World) {B : Nat} (h : Elts nodeE w B A n ns) (hB : B ≤ w.heap.size) (hc : Chk w q g A n c r FA fn fc sc s l)
    (l1 : -1 ≤ lp) (l2 : lp < n) (r1 : -1 ≤ rp) (r2 : rp < n) (b1 : 0 ≤ hOf ns lp) (b2 : hOf ns lp ≤ 1000) (b3 : 0 ≤ hOf ns rp) (b4 : hOf ns rp ≤ 1000) :
    Calls Try.prog 59 #[.pointer (some ⟨q, 0, none⟩), .agg #[.int .i64 x0, .int .i64 x1, .int .i64 x2, .int .i64 lp, .int .i64 rp, .int .i64 hh, .int .i64 m]] w (Says w (.bool (standB ns ((x0, x1, x2), lp, rp, hh, m)))) := by
  have HB := Lib.hid (box1 (w := w) (T := 64) [.int .i64 x0, .int .i64 x1, .int .i64 x2, .int .i64 lp, .int .i64 rp, .int .i64 hh, .int .i64 m] (World.grownBy.refl _ none))
  have CL : Hid (∀ wx, w.grownBy wx none → Calls Try.prog 79 #[.agg #[.slice A n c, .int .i64 r, .slice FA fn fc], .agg #[.int .i64 x0, .int .i64 x1, .int .i64 x2, .int .i64 lp, .int .i64 rp, .int .i64 hh, .int .i64 m]] wx (Says wx (.int .i64 (hOf ns lp - hOf ns rp)))) := fun wx g => TLean_any A n c ns r FA fn fc x0 x1 x2 lp rp hh m wx (h.grown hB g) (Nat.le_trans hB g.size) l1 l2 r1 r2 b1 b2 b3 b4
  have CD : Hid (∀ wx, w.grownBy wx none → Calls Try.prog 80 #[.agg #[.slice A n c, .int .i64 r, .slice FA fn fc], .agg #[.int .i64 x0, .int .i64 x1, .int .i64 x2, .int .i64 lp, .int .i64 rp, .int .i64 hh, .int .i64 m]] wx (Says wx (.tuple #[.int .i64 (dueH ns lp rp), .int .i64 (dueM ns x1 lp rp)]))) := fun wx g => TDue_any A n c ns r FA fn fc x0 x1 x2 lp rp hh m wx (h.grown hB g) (Nat.le_trans hB g.size) l1 l2 r1 r2 b1 b2 b3 b4
  have E : Hid (standB ns ((x0, x1, x2), lp, rp, hh, m) = (decide (-1 ≤ hOf ns lp - hOf ns rp) && (decide (hOf ns lp - hOf ns rp ≤ 1) && (decide (hh = dueH ns lp rp) && decide (m = dueM ns x1 lp rp))))) := rfl
  have H := Lib.hid hc
  clear h hB hc l1 l2 r1 r2 b1 b2 b3 b4
  generalize hOf ns lp - hOf ns rp = d at *
  generalize dueH ns lp rp = DH at *
  generalize dueM ns x1 lp rp = DM at *
  go_enter Try.func59, Try.ntmps59
  go_upto_region 1 with fail
  obtain ⟨G0, o1⟩ := HB.out
  have HQ := Lib.hid (H.out.grown G0)
  generalize w.alloc (.cells #[.int .i64 x0, .int .i64 x1, .int .i64 x2, .int .i64 lp, .int .i64 rp, .int .i64 hh, .int .i64 m] 64) = w1 at *
  obtain ⟨c0, c1, c2, _, _, _, _⟩ := HQ.out.oq.seven
  have GK := Lib.hid G0
  have HS : Hid ((w1.cell? ⟨q, 0, none⟩ = some (.slice A n c) ∧ w1.cell? ⟨q, 1, none⟩ = some (.int .i64 r) ∧ w1.cell? ⟨q, 2, none⟩ = some (.slice FA fn fc)) ∧ (w1.cell? ⟨w.heap.size, 0, none⟩ = some (.int .i64 x0) ∧ w1.cell? ⟨w.heap.size, 1, none⟩ = some (.int .i64 x1) ∧ w1.cell? ⟨w.heap.size, 2, none⟩ = some (.int .i64 x2) ∧ w1.cell? ⟨w.heap.size, 3, none⟩ = some (.int .i64 lp) ∧ w1.cell? ⟨w.heap.size, 4, none⟩ = some (.int .i64 rp) ∧ w1.cell? ⟨w.heap.size, 5, none⟩ = some (.int .i64 hh) ∧ w1.cell? ⟨w.heap.size, 6, none⟩ = some (.int .i64 m))) := ⟨⟨c0, c1, c2⟩, o1.seven⟩
  clear HB G0 o1 c0 c1 c2 H HQ
  go_region_held3 (fun w' : World => (w'.cell? ⟨q, 0, none⟩ = some (.slice A n c) ∧ w'.cell? ⟨q, 1, none⟩ = some (.int .i64 r) ∧ w'.cell? ⟨q, 2, none⟩ = some (.slice FA fn fc)) ∧ (w'.cell? ⟨w.heap.size, 0, none⟩ = some (.int .i64 x0) ∧ w'.cell? ⟨w.heap.size, 1, none⟩ = some (.int .i64 x1) ∧ w'.cell? ⟨w.heap.size, 2, none⟩ = some (.int .i64 x2) ∧ w'.cell? ⟨w.heap.size, 3, none⟩ = some (.int .i64 lp) ∧ w'.cell? ⟨w.heap.size, 4, none⟩ = some (.int .i64 rp) ∧ w'.cell? ⟨w.heap.size, 5, none⟩ = some (.int .i64 hh) ∧ w'.cell? ⟨w.heap.size, 6, none⟩ = some (.int .i64 m))) (first | exact HS.out)
    (first
      | (go_at_call 79; refine (CL.out _ (by first | exact GK.out | exact grown_drew GK.out | exact grown_drewN GK.out _)).mono ?_; rintro e w8 ⟨rfl, g⟩; have GK : Hid (w.grownBy w8 none) := (by first | exact grown_trans GK.out g | exact grown_trans (grown_drew GK.out) g | exact grown_trans (grown_drewN GK.out _) g); have HS := Lib.hid (held10 g HS.out); clear g))
  go_upto_region 2 with fail
  go_region_held3 (fun w' : World => (w'.cell? ⟨q, 0, none⟩ = some (.slice A n c) ∧ w'.cell? ⟨q, 1, none⟩ = some (.int .i64 r) ∧ w'.cell? ⟨q, 2, none⟩ = some (.slice FA fn fc)) ∧ (w'.cell? ⟨w.heap.size, 0, none⟩ = some (.int .i64 x0) ∧ w'.cell? ⟨w.heap.size, 1, none⟩ = some (.int .i64 x1) ∧ w'.cell? ⟨w.heap.size, 2, none⟩ = some (.int .i64 x2) ∧ w'.cell? ⟨w.heap.size, 3, none⟩ = some (.int .i64 lp) ∧ w'.cell? ⟨w.heap.size, 4, none⟩ = some (.int .i64 rp) ∧ w'.cell? ⟨w.heap.size, 5, none⟩ = some (.int .i64 hh) ∧ w'.cell? ⟨w.heap.size, 6, none⟩ = some (.int .i64 m))) (first | exact HS.out)
    (first
      | (go_at_call 80; refine (CD.out _ (by first | exact GK.out | exact grown_drew GK.out | exact grown_drewN GK.out _)).mono ?_; rintro e w8 ⟨rfl, g⟩; have GK : Hid (w.grownBy w8 none) := (by first | exact grown_trans GK.out g | exact grown_trans (grown_drew GK.out) g | exact grown_trans (grown_drewN GK.out _) g); have HS := Lib.hid (held10 g HS.out); clear g))
  obtain ⟨_, d0, d1, d2, d3, d4, d5, d6⟩ := HS.out
  clear HS d0 d1 d2 d3 d4
  by_cases h1 : -1 ≤ d
  · by_cases h2 : d ≤ 1
    · by_cases h3 : hh = DH
      · by_cases h4 : m = DM
        · subst h3 h4
          go_wp2
          go_ret
          exact ⟨ret_bool (by rw [E.out]; simp [h1, h2]), GK.out⟩
        · have t4 : (m == DM) = false := by simpa using h4
          subst h3
          go_wp2
          go_ret
          exact ⟨ret_bool (by rw [E.out]; simp [h4]), GK.out⟩
      · have t3 : (hh == DH) = false := by simpa using h3
        go_wp2
        go_ret
        exact ⟨ret_bool (by rw [E.out]; simp [h3]), GK.out⟩
    · go_wp2
      go_ret
      exact ⟨ret_bool (by rw [E.out]; simp; omega), GK.out⟩
  · go_wp2
    go_ret
    exact ⟨ret_bool (by rw [E.out]; simp; omega), GK.out⟩

def HungP (w : World) (q g : Nat) (A : Option Addr) (n c : Nat) (r : Int) (FA : Option Addr) (fn fc sc : Nat) (ns : List Nd) (p : Int) (s : List Bool) (l : It) (e : Ending) (w' : World) : Prop :=
  (∃ s' T, e = .returned (.bool true) ∧ Good ns p s l T ∧ Marks s T.places s' ∧ Chk w' q g A n c r FA fn fc sc s' (lastOf l (T.sum ns).1) ∧ Kpt w w' (qg q g)) ∨
  (∃ s' l', e = .returned (.bool false) ∧ (∀ T, ¬ Good ns p s l T) ∧ Chk w' q g A n c r FA fn fc sc s' l' ∧ Kpt w w' (qg q g))

def HungI (ns : List Nd) (q g : Nat) (A : Option Addr) (n c : Nat) (r : Int) (FA : Option Addr) (fn fc sc B f : Nat) : Prop := ∀ (p : Int) (s : List Bool) (l : It) (w : World), Elts nodeE w B A n ns → B ≤ w.heap.size → Chk w q g A n c r FA fn fc sc s l → unseen s < f →
    Calls Try.prog 42 #[.pointer (some ⟨q, 0, none⟩), .int .i64 p] w (HungP w q g A n c r FA fn fc sc ns p s l)

theorem good_len {ns : List Nd} {p : Int} {s : List Bool} {l : It} {T : Tr} (h : Good ns p s l T) (hs : s.length = ns.length) : T.places.length ≤ ns.length := by
  have : unseen s ≤ s.length := List.countP_le_length
  have m := marks_less (t := (T.places.foldl (fun a k => a.set k true) s)) h.once (fun k hk => ⟨by rw [hs]; exact Tr.ok_in h.ok k hk, h.new k hk⟩) ?_
  · omega
  · have gen : ∀ (ps : List Nat) (s : List Bool), Marks s ps (ps.foldl (fun a k => a.set k true) s) := by
      intro ps
      induction ps with
      | nil => intro s; exact ⟨rfl, fun k _ => by simp⟩
      | cons a r ih =>
        intro s
        refine ⟨by rw [List.foldl_cons, (ih _).1, List.length_set], fun k hk => ?_⟩
        rw [List.foldl_cons, (ih _).2 k (by simpa using hk), marked_set hk]
        simp only [List.mem_cons]
        cases marked s k <;> simp
    exact gen _ _

theorem good_h {ns : List Nd} {p : Int} {s : List Bool} {l : It} {T : Tr} (h : Good ns p s l T) (hs : s.length = ns.length) (h32 : ns.length ≤ 32) : -1 ≤ p ∧ p < ns.length ∧ 0 ≤ hOf ns p ∧ hOf ns p ≤ 1000 := by
  obtain ⟨a, b⟩ := Tr.top_in h.ok
  obtain ⟨c, d⟩ := Tr.h_bd h.ok
  obtain ⟨e, _⟩ := Tr.hm h.ok
  have := good_len h hs
  have := Tr.sum_len ns T
  rw [h.top] at a b e
  refine ⟨a, b, ?_, ?_⟩ <;> rw [e] <;> omega

set_option maxHeartbeats 4000000 in
theorem hungI_step (ns : List Nd) (q g : Nat) (A : Option Addr) (n c : Nat) (r : Int) (FA : Option Addr) (fn fc sc : Nat) (hn : n ≤ 32) (f : Nat) {B : Nat} (hBq : B ≤ q) (hBg : B ≤ g) (ih : HungI ns q g A n c r FA fn fc sc B f) (p : Int) (s : List Bool) (l : It) (w : World) (h : Elts nodeE w B A n ns) (hB : B ≤ w.heap.size) (hc : Chk w q g A n c r FA fn fc sc s l) (hu : unseen s < f + 1) :
    Calls Try.prog 42 #[.pointer (some ⟨q, 0, none⟩), .int .i64 p] w (HungP w q g A n c r FA fn fc sc ns p s l) := by
  have IH := Lib.hid ih
  have HR := Lib.hid h
  have H := Lib.hid hc
  have HU := Lib.hid hu
  have HLEN := Lib.hid h.len
  have HL := Lib.hid hc.len
  have hS : Hid (∀ i, qg q g i → B ≤ i) := fun i hi => by rcases hi with rfl | rfl <;> assumption
  have HB := Lib.hid hB
  clear ih h hc hu hBq hBg
  by_cases hp : p = -1
  · subst hp
    go_enter Try.func42, Try.ntmps42
    go_wp2
    go_ret
    exact .inl ⟨s, .nil, rfl, ⟨rfl, trivial, by simp [Tr.places], by simp [Tr.places], rfl⟩, ⟨rfl, fun k _ => by simp [Tr.places]⟩, H.out, Kpt.refl _ _⟩
  have e1 : (p == -1) = false := by simpa using hp
  go_enter Try.func42, Try.ntmps42
  go_wp2_with fail
  refine (Take_any q g A n c r FA fn fc sc p s l w H.out).mono ?_
  rintro e w1 (⟨rfl, ⟨p0, p1, p2⟩, ch, kp⟩ | ⟨rfl, hno, ch, kp⟩)
  case inr =>
    go_wp2
    go_ret
    refine .inr ⟨s, l, rfl, fun T hT => hno ?_, ch, kp⟩
    obtain ⟨t1, t2, t3, t4, t5⟩ := hT
    cases T with
    | nil => exact absurd t1.symm hp
    | node k a b =>
      simp only [Tr.top] at t1
      subst t1
      have := t2.1
      have := HLEN.out
      refine ⟨by omega, by omega, ?_⟩
      rw [show ((k : Nat) : Int).toNat = k by omega]
      exact t4 k (by simp [Tr.places])
  obtain ⟨k, rfl⟩ : ∃ k : Nat, p = (k : Nat) := ⟨p.toNat, by omega⟩
  have ek : ((k : Nat) : Int).toNat = k := by omega
  rw [ek] at p2 ch
  have hk : k < n := by omega
  have HM := Lib.hid p2
  have HR1 := Lib.hid (Kpt.elts HR.out kp hB hS.out)
  have HB1 : Hid (B ≤ w1.heap.size) := Nat.le_trans hB kp.size
  have CH := Lib.hid ch
  have KP := Lib.hid kp
  have HU1 := Lib.hid (unseen_set p2)
  have hq1 := ch.oq.lt
  have hg1 := ch.og.lt
  clear ek p0 p1 p2 ch kp hp e1 hB HR H HB
  obtain ⟨c0, _, _, _, _, _, _⟩ := CH.out.oq.seven
  obtain ⟨b, off, rfl, hb, hcell⟩ := HR1.out.nds (by omega)
  obtain ⟨d0, d1, d2, d3, d4, d5, d6⟩ := hcell k hk
  clear hcell
  obtain ⟨x, hx⟩ : ∃ x, nd ns k = x := ⟨_, rfl⟩
  rw [hx] at d0 d1 d2 d3 d4 d5 d6
  have HX := Lib.hid hx
  clear hx
  obtain ⟨⟨x0, x1, x2⟩, xl, xr, xh, xm⟩ := x
  simp only at d0 d1 d2 d3 d4 d5 d6
  go_upto_region 6 with fail
  clear c0 d0 d1 d2 d3 d4 d5 d6
  have k2 := grow0 w1 (.cells #[.int .i64 x0, .int .i64 x1, .int .i64 x2, .int .i64 xl, .int .i64 xr, .int .i64 xh, .int .i64 xm] 64)
  have ON := Lib.hid (Own.new w1 64 [.int .i64 x0, .int .i64 x1, .int .i64 x2, .int .i64 xl, .int .i64 xr, .int .i64 xh, .int .i64 xm])
  have CH2 := Lib.hid (CH.out.grown k2)
  have KP2 := Lib.hid (KP.out.more k2)
  have HR2 := Lib.hid (HR1.out.grown HB1.out k2)
  have HB2 : Hid (B ≤ (w1.alloc (.cells #[.int .i64 x0, .int .i64 x1, .int .i64 x2, .int .i64 xl, .int .i64 xr, .int .i64 xh, .int .i64 xm] 64)).heap.size) := Nat.le_trans HB1.out k2.size
  have HN : Hid (¬ qg q g w1.heap.size) := fun e => by rcases e with e | e <;> omega
  clear k2 CH KP HR1 HB1 hq1 hg1
  generalize w1.heap.size = bx at *
  generalize w1.alloc (.cells #[.int .i64 x0, .int .i64 x1, .int .i64 x2, .int .i64 xl, .int .i64 xr, .int .i64 xh, .int .i64 xm] 64) = w2 at *
  obtain ⟨d0, d1, d2, d3, d4, d5, d6⟩ := ON.out.seven
  go_wp2_with fail
  refine (IH.out xl (s.set k true) l w2 HR2.out HB2.out CH2.out (by have := HU.out; have := HU1.out; omega)).mono ?_
  rintro e w3 (⟨s2, L, rfl, gl, ml, ch, kp⟩ | ⟨s2, l2, rfl, hno, ch, kp⟩)
  case inr =>
    have CH3 := Lib.hid ch
    have KP3 := Lib.hid (KP2.out.trans kp)
    have HNO := Lib.hid hno
    clear ch kp hno d0 d1 d2 d3 d4 d5 d6
    go_wp2
    go_ret
    refine .inr ⟨s2, l2, rfl, fun T hT => ?_, CH3.out, KP3.out⟩
    obtain ⟨a, b', rfl⟩ := hT.is
    have := hT.left (by rw [HL.out, HLEN.out])
    rw [HX.out] at this
    exact HNO.out a this
  have CH3 := Lib.hid ch
  have KP3 := Lib.hid (KP2.out.trans kp)
  have ON3 := Lib.hid (Kpt.own ON.out kp HN.out)
  have HR3 := Lib.hid (Kpt.elts HR2.out kp HB2.out hS.out)
  have HB3 : Hid (B ≤ w3.heap.size) := Nat.le_trans HB2.out kp.size
  have GL := Lib.hid gl
  have ML := Lib.hid ml
  clear gl ml ch kp d0 d1 d2 d3 d4 d5 d6 CH2 KP2 ON HR2 HB2
  obtain ⟨d0, d1, d2, d3, d4, d5, d6⟩ := ON3.out.seven
  have CF : Hid (Calls Try.prog 58 #[.pointer (some ⟨q, 0, none⟩), .agg #[.int .i64 x0, .int .i64 x1, .int .i64 x2]] w3 (FollowsPost w3 q g (some ⟨b, off, none⟩) n c r FA fn fc sc s2 (lastOf l (L.sum ns).1) (x0, x1, x2))) := by
    have c3 := CH3.out
    obtain ⟨y, hy⟩ : ∃ y, lastOf l (L.sum ns).1 = y := ⟨_, rfl⟩
    rw [hy] at c3
    rw [Hid, hy]
    obtain ⟨y0, y1, y2⟩ := y
    exact Follows_any q g _ n c r FA fn fc sc s2 y0 y1 y2 x0 x1 x2 w3 c3
  go_wp2_with fail
  refine CF.out.mono ?_
  rintro e w4 ⟨rfl, ch, kp⟩
  have CH4 := Lib.hid ch
  have KP4 := Lib.hid (KP3.out.trans kp)
  have ON4 := Lib.hid (Kpt.own ON3.out kp HN.out)
  have HR4 := Lib.hid (Kpt.elts HR3.out kp HB3.out hS.out)
  have HB4 : Hid (B ≤ w4.heap.size) := Nat.le_trans HB3.out kp.size
  clear ch kp d0 d1 d2 d3 d4 d5 d6 CH3 KP3 ON3 HR3 HB3 CF
  cases hf : (itB (x0, x1, x2) && lessB (lastOf l (L.sum ns).1) (x0, x1, x2))
  case false =>
    have HF := Lib.hid hf
    clear hf
    go_wp2
    go_ret
    refine .inr ⟨s2, _, rfl, fun T hT => ?_, CH4.out, KP4.out⟩
    obtain ⟨a, b', rfl⟩ := hT.is
    have h1 := hT.left (by rw [HL.out, HLEN.out])
    rw [HX.out] at h1
    have e : a = L := Tr.one h1.ok GL.out.ok (h1.top.trans GL.out.top.symm)
    subst e
    obtain ⟨m1, m2, _⟩ := hT.mid
    rw [HX.out] at m1 m2
    have := HF.out
    rw [m1, m2] at this
    cases this
  have HF := Lib.hid hf
  clear hf
  obtain ⟨d0, d1, d2, d3, d4, d5, d6⟩ := ON4.out.seven
  go_wp2_with fail
  refine (IH.out xr s2 (x0, x1, x2) w4 HR4.out HB4.out CH4.out (by
    have h1 := marks_less GL.out.once (fun j hj => ⟨by have := Tr.ok_in GL.out.ok j hj; rw [List.length_set, HL.out]; rw [← HLEN.out]; exact this, GL.out.new j hj⟩) ML.out
    have := HU.out
    have := HU1.out
    omega)).mono ?_
  rintro e w5 (⟨s3, R, rfl, gr, mr, ch, kp⟩ | ⟨s3, l3, rfl, hno, ch, kp⟩)
  case inr =>
    have CH5 := Lib.hid ch
    have KP5 := Lib.hid (KP4.out.trans kp)
    have HNO := Lib.hid hno
    clear ch kp hno d0 d1 d2 d3 d4 d5 d6
    go_wp2
    go_ret
    refine .inr ⟨s3, l3, rfl, fun T hT => ?_, CH5.out, KP5.out⟩
    obtain ⟨a, b', rfl⟩ := hT.is
    have h1 := hT.left (by rw [HL.out, HLEN.out])
    rw [HX.out] at h1
    have e : a = L := Tr.one h1.ok GL.out.ok (h1.top.trans GL.out.top.symm)
    subst e
    have h2 := hT.right (by rw [HL.out, HLEN.out]) ML.out
    rw [HX.out] at h2
    exact HNO.out _ h2
  have CH5 := Lib.hid ch
  have KP5 := Lib.hid (KP4.out.trans kp)
  have ON5 := Lib.hid (Kpt.own ON4.out kp HN.out)
  have HR5 := Lib.hid (Kpt.elts HR4.out kp HB4.out hS.out)
  have HB5 : Hid (B ≤ w5.heap.size) := Nat.le_trans HB4.out kp.size
  have GR := Lib.hid gr
  have MR := Lib.hid mr
  clear gr mr ch kp d0 d1 d2 d3 d4 d5 d6 CH4 KP4 ON4 HR4 HB4
  obtain ⟨d0, d1, d2, d3, d4, d5, d6⟩ := ON5.out.seven
  have SL := Lib.hid (good_h GL.out (by rw [List.length_set, HL.out, HLEN.out]) (by rw [HLEN.out]; exact hn))
  have SR := Lib.hid (good_h GR.out (by rw [ML.out.1, List.length_set, HL.out, HLEN.out]) (by rw [HLEN.out]; exact hn))
  rw [HLEN.out] at SL SR
  go_wp2_with fail
  refine (Stands_any q g (some ⟨b, off, none⟩) n c ns r FA fn fc sc s3 (lastOf (x0, x1, x2) (R.sum ns).1) x0 x1 x2 xl xr xh xm w5 HR5.out HB5.out CH5.out SL.out.1 SL.out.2.1 SR.out.1 SR.out.2.1 SL.out.2.2.1 SL.out.2.2.2 SR.out.2.2.1 SR.out.2.2.2).mono ?_
  rintro e w6 ⟨rfl, g6⟩
  have CH6 := Lib.hid (CH5.out.grown g6)
  have KP6 := Lib.hid (KP5.out.more g6)
  clear g6 d0 d1 d2 d3 d4 d5 d6 CH5 KP5 ON5 HR5 HB5
  have HF2 : Hid (itB (x0, x1, x2) = true ∧ lessB (lastOf l (L.sum ns).1) (x0, x1, x2) = true) := by
    have := HF.out
    rw [Bool.and_eq_true] at this
    exact this
  cases hst : standB ns ((x0, x1, x2), xl, xr, xh, xm)
  case false =>
    have HST := Lib.hid hst
    clear hst
    go_wp2
    go_ret
    refine .inr ⟨s3, _, rfl, fun T hT => ?_, CH6.out, KP6.out⟩
    obtain ⟨a, b', rfl⟩ := hT.is
    obtain ⟨_, _, m3⟩ := hT.mid
    rw [HX.out, HST.out] at m3
    cases m3
  have HST := Lib.hid hst
  clear hst
  go_wp2
  go_ret
  have gl := GL.out
  have gr := GR.out
  have q1 := HF2.out.1
  have q2 := HF2.out.2
  have q3 := HST.out
  obtain ⟨n1, n2, n3⟩ := Good.node (ns := ns) (k := k) (s := s) (t := s2) (u := s3) (a := l) (l := L) (r := R) (by rw [HLEN.out]; exact hk) (by rw [HL.out, HLEN.out]) HM.out (by rw [HX.out]; exact gl) ML.out (by rw [HX.out]; exact q1) (by rw [HX.out]; exact q2) (by rw [HX.out]; exact gr) MR.out (by rw [HX.out]; exact q3)
  refine .inl ⟨s3, _, rfl, n1, n2, ?_, KP6.out⟩
  rw [n3, HX.out]
  exact CH6.out

theorem HungI_any (ns : List Nd) (q g : Nat) (A : Option Addr) (n c : Nat) (r : Int) (FA : Option Addr) (fn fc sc : Nat) (hn : n ≤ 32) {B : Nat} (hBq : B ≤ q) (hBg : B ≤ g) : ∀ f, HungI ns q g A n c r FA fn fc sc B f := by
  intro f
  induction f with
  | zero => intro p s l w _ _ _ hu; omega
  | succ f ih => exact fun p s l w h hB hc hu => hungI_step ns q g A n c r FA fn fc sc hn f hBq hBg ih p s l w h hB hc hu

end Go.Proofs.Ytgfehlmiejnonaa
