/-
  The law ArcsTurned, walked.
-/
import Derived.Test.YtfldicenikkacaaArcsLawD
namespace Go.Proofs.Ytfldicenikkacaa
open Go.RowKit

theorem Elt.flat_set {α : Type} (E : Elt α) (j : Nat) (u : Value) (x' : α) (hj : j < E.size) : ∀ (xs : List α) (i : Nat) (x : α), xs[i]? = some x → E.enc x' = (E.enc x).set j u → E.flat (xs.set i x') = (E.flat xs).set (i * E.size + j) u
  | [], _, _, h, _ => by simp at h
  | a :: r, 0, x, h, he => by
    have hx : a = x := by simpa using h
    subst hx
    have h1 : E.flat ((a :: r).set 0 x') = E.enc x' ++ E.flat r := List.flatMap_cons
    have h2 : E.flat (a :: r) = E.enc a ++ E.flat r := List.flatMap_cons
    rw [h1, h2, he, Nat.zero_mul, Nat.zero_add, List.set_append_left _ _ (by rw [E.len]; exact hj)]
  | a :: r, i + 1, x, h, he => by
    have h0 : r[i]? = some x := by simpa using h
    have h1 : E.flat ((a :: r).set (i + 1) x') = E.enc a ++ E.flat (r.set i x') := List.flatMap_cons
    have h2 : E.flat (a :: r) = E.enc a ++ E.flat r := List.flatMap_cons
    have e : (i + 1) * E.size + j = E.size + (i * E.size + j) := by rw [Nat.add_mul, Nat.one_mul]; omega
    rw [h1, h2, Elt.flat_set E j u x' hj r i x h0 he, e, List.set_append_right _ _ (by rw [E.len]; omega), E.len, Nat.add_sub_cancel_left]

theorem MineE.put {α : Type} {E : Elt α} {w : World} {base g n cap : Nat} {xs : List α} (h : MineE E w base (.slice (some ⟨g, 0, none⟩) n cap) n xs) (i j : Nat) (x x' : α) (u : Value) (hx : xs[i]? = some x) (hj : j < E.size) (he : E.enc x' = (E.enc x).set j u) :
    MineE E (w.setCell ⟨g, i * E.size + j, none⟩ u) base (.slice (some ⟨g, 0, none⟩) n cap) n (xs.set i x') := by
  obtain ⟨h1, h2⟩ := h
  have hf := E.flat_set j u x' hj xs i x hx he
  refine ⟨by rw [hf, List.length_set]; exact h1, ?_⟩
  rcases h2 with ⟨hv, _⟩ | ⟨g', cap', cur, hv, hb, hh, hnc, hm, hsz, htk⟩
  · cases hv
  · injection hv with e1 e2 e3
    injection e1 with e1
    injection e1 with e1 _
    subst e1 e3
    refine .inr ⟨g, cap, cur.setIfInBounds (i * E.size + j) u, rfl, hb, block_put hh u, hnc, hm, by simpa using hsz, ?_⟩
    rw [hf, ← htk, Array.toList_setIfInBounds, List.take_set]

theorem MineE.frozen {α : Type} {E : Elt α} {w : World} {base g n cap : Nat} {xs : List α} (h : MineE E w base (.slice (some ⟨g, 0, none⟩) n cap) n xs) (i : Nat) : w.frozen? ⟨g, i, none⟩ = false := by
  rcases h.2 with ⟨hv, _⟩ | ⟨g', cap', cur, hv, hb, hh, _⟩
  · cases hv
  · injection hv with e1 e2 e3
    injection e1 with e1
    injection e1 with e1 _
    subst e1
    simp [World.frozen?, hh]

theorem turn_next {ls : List Lk} {k : Nat} : ((turnK ls k).set k ((at3 ls k).2.1, (at3 ls k).2.1, (at3 ls k).2.2)).set k ((at3 ls k).2.1, (at3 ls k).1, (at3 ls k).2.2) = turnK ls (k + 1) := by
  rw [List.set_set]
  rfl

theorem turn_here {ls : List Lk} {k : Nat} (h : k < ls.length) : (turnK ls k)[k]? = some (at3 ls k) := by
  have h1 := turn_at ls k k h
  rw [if_neg (by omega)] at h1
  rw [← h1]
  unfold at3
  rw [List.getElem?_eq_getElem (by rw [turn_len]; exact h)]
  rfl

def TurnRel (w : World) (p q r vn m2 : Nat) (A : Option Addr) (n c : Nat) (ls : List Lk) (Ax Ay Az A1 : Option Addr) (cx cy cz c1 : Nat) (i : Value) (wr : World) : Prop :=
  ∃ (k : Nat), k ≤ n ∧ i = .int .i64 (k : Nat) ∧ w.grownBy wr none ∧ Own wr p 24 [.int .i64 (vn : Nat), .slice A n c] ∧
    Own wr q 48 [.slice Ax (vn + 1) cx, .slice Ay m2 cy, .slice Az m2 cz] ∧ Rows3 wr q Ax Ay Az (startsA ls n (vn + 1)) (ordA ls n vn) (headsA ls (2 * n)) ∧
    Own wr r 24 [.int .i64 (vn : Nat), .slice A1 n c1] ∧ MineE linkE wr (q + 1) (.slice A1 n c1) n (turnK ls k)

def CmpRel (w : World) (p q r vn m2 : Nat) (A : Option Addr) (n c : Nat) (ls : List Lk) (Ax Ay Az Bx By Bz : Option Addr) (cx cy cz dx dy dz : Nat) (i : Value) (wr : World) : Prop :=
  ∃ (k : Nat), k ≤ n ∧ i = .int .i64 (k : Nat) ∧ w.grownBy wr none ∧ Own wr p 24 [.int .i64 (vn : Nat), .slice A n c] ∧
    Own wr q 48 [.slice Ax (vn + 1) cx, .slice Ay m2 cy, .slice Az m2 cz] ∧ Rows3 wr q Ax Ay Az (startsA ls n (vn + 1)) (ordA ls n vn) (headsA ls (2 * n)) ∧
    Own wr r 48 [.slice Bx (vn + 1) dx, .slice By m2 dy, .slice Bz m2 dz] ∧ Rows3 wr r Bx By Bz (startsA ls n (vn + 1)) (ordA (turnK ls n) n vn) (headsA (turnK ls n) (2 * n))

set_option maxRecDepth 20000 in
set_option maxHeartbeats 4000000 in
theorem ArcsTurned_walk (V : Int) (A : Option Addr) (n c : Nat) (ls : List Lk) (w : World) (h : InG w A n c ls) :
    Calls Try.prog 8 #[.agg #[.int .i64 V, .slice A n c]] w (LawPost w) := by
  obtain ⟨hs, hnc, hc, hnil⟩ := h
  have HR := Lib.hid hs
  have HL := Lib.hid hs.len
  have HNIL := Lib.hid hnil
  have HR1 := Lib.hid (hs.grown (Nat.le_refl _) (grow0 w (.cells #[.int .i64 V, .slice A n c] 24)))
  clear hs hnil
  cases hm : mayG V ls
  · go_enter Try.func8, Try.ntmps8
    go_wp2_with fail
    refine (Build_no V A n c ls _ HR1.out (by simp) hm).mono ?_
    rintro e w1 ⟨x, y, z, rfl, ta, k⟩
    obtain ⟨Ax, cx, rfl, _⟩ := ta.S.sl
    obtain ⟨Ay, cy, rfl, _⟩ := ta.O.sl
    obtain ⟨Az, cz, rfl, _⟩ := ta.H.sl
    have G := Lib.hid (grown_alloc (grown_trans (grow0 _ _) k) (.cells #[.slice Ax 0 cx, .slice Ay 0 cy, .slice Az 0 cz] 48))
    clear ta k
    go_wp2_with fail
    refine (Num0_any _ _).mono ?_
    rintro e w2 ⟨rfl, rfl⟩
    go_wp2
    go_ret
    exact ⟨rfl, below_of G.out⟩
  · have h16 := may_small hm
    rw [HL.out] at h16
    obtain ⟨vn, rfl⟩ : ∃ vn : Nat, V = (vn : Nat) := ⟨V.toNat, by omega⟩
    have HM := Lib.hid hm
    have HMT : Hid (mayG (vn : Nat) (turnK ls n) = true) := by have := may_turn hm; rw [HL.out] at this; exact this
    have HLT : Hid ((turnK ls n).length = n) := by rw [turn_len]; exact HL.out
    obtain ⟨okS', okO', okH'⟩ := may_ok hm HL.out
    have okS := Lib.hid okS'
    have okO := Lib.hid okO'
    have okH := Lib.hid okH'
    obtain ⟨okS2', okO2', okH2'⟩ := may_ok HMT.out HLT.out
    have okS2 := Lib.hid okS2'
    have okO2 := Lib.hid okO2'
    have okH2 := Lib.hid okH2'
    have hls := starts_len ls n (vn + 1)
    obtain ⟨m2, hm2⟩ : ∃ m2 : Nat, m2 = 2 * n := ⟨_, rfl⟩
    have hlo : (ordA ls n vn).length = m2 := by have := ord_all hm; rw [HL.out] at this; rw [hm2]; exact this
    have hlh : (headsA ls (2 * n)).length = m2 := by rw [hm2]; exact heads_len ls (2 * n)
    have hlo2 : (ordA (turnK ls n) n vn).length = m2 := by have := ord_all HMT.out; rw [HLT.out] at this; rw [hm2]; exact this
    have hlh2 : (headsA (turnK ls n) (2 * n)).length = m2 := by rw [hm2]; exact heads_len _ (2 * n)
    have HST : Hid (startsA (turnK ls n) n (vn + 1) = startsA ls n (vn + 1)) := by have := starts_turn ls (vn + 1); rw [HL.out] at this; exact this
    have m2a : m2 ≤ 2 * n := by omega
    have m2b : 2 * n ≤ m2 := by omega
    have hmi : (m2 : Int) = 2 * (n : Int) := by omega
    have hne : ((m2 : Int) != 2 * (n : Int)) = false := by simp [hmi]
    have hne2 : ((m2 : Int) != (m2 : Int)) = false := by simp
    clear hm okS' okO' okH' okS2' okO2' okH2' hm2 hmi
    go_enter Try.func8, Try.ntmps8
    go_wp2_with fail
    refine (Build_may vn A n c ls _ HR1.out (by simp) HM.out).mono ?_
    rintro e w1 ⟨x, y, z, rfl, ta, k⟩
    obtain ⟨g1, ob⟩ := box1 [.int .i64 (vn : Nat), .slice A n c] k
    have b1 := ob.lt
    obtain ⟨Ax, Ay, Az, cx, cy, cz, rfl, rfl, rfl, ra⟩ := ta.rows okS.out okO.out okH.out
    rw [hls, hlo, hlh]
    have k2 := grow0 w1 (.cells #[.slice Ax (vn + 1) cx, .slice Ay m2 cy, .slice Az m2 cz] 48)
    have RA := Lib.hid (ra.grown (Nat.le_refl _) k2)
    have G := Lib.hid (grown_trans g1 k2)
    have OB := Lib.hid (ob.kept k2)
    have OA := Lib.hid (Own.new w1 48 [.slice Ax (vn + 1) cx, .slice Ay m2 cy, .slice Az m2 cz])
    clear k k2 g1 ob ta ra HR1
    obtain ⟨p0, p1⟩ := OB.out.two
    go_wp2_with fail
    refine (Num0_any _ _).mono ?_
    rintro e w2 ⟨rfl, rfl⟩
    go_wp2_with fail
    refine (CopyGraph_any _ A n c ls _ (HR.out.grown (Nat.le_refl _) G.out) G.out.size HNIL.out (by omega)).mono ?_
    rintro e w2 ⟨x, rfl, mx, k⟩
    rw [World.size_alloc] at mx
    have s2 : w1.heap.size + 1 ≤ w2.heap.size := by have := k.size; simpa using this
    have hge := mx.own_ge
    have hlt := mx.own_lt
    obtain ⟨A1, c1, rfl, _, _, _⟩ := mx.row
    have k' := grown_trans k (grow0 w2 (.cells #[.int .i64 (vn : Nat), .slice A1 n c1] 24))
    have MX := Lib.hid (mx.kept (grow0 w2 (.cells #[.int .i64 (vn : Nat), .slice A1 n c1] 24)))
    have OX := Lib.hid (Own.new w2 24 [.int .i64 (vn : Nat), .slice A1 n c1])
    have HS : Hid (TurnRel w w.heap.size w1.heap.size w2.heap.size vn m2 A n c ls Ax Ay Az A1 cx cy cz c1 (.int .i64 0) (w2.alloc (.cells #[.int .i64 (vn : Nat), .slice A1 n c1] 24))) :=
      ⟨0, Nat.zero_le _, rfl, grown_trans G.out k', OB.out.kept k', OA.out.kept k', RA.out.grown (by simp) k', OX.out, MX.out⟩
    clear mx k k' MX OX RA G OB OA p0 p1
    go_wp2
    go_loopw [6] (fun i wr => TurnRel w w.heap.size w1.heap.size w2.heap.size vn m2 A n c ls Ax Ay Az A1 cx cy cz c1 i wr) (fun i _ => n - (intOf i).toNat)
    case atStart => exact HS.out
    case round =>
      clear HS
      obtain ⟨k, hk, rfl, hg, ob, oa, ra, ox, mx⟩ := hrel
      have G := Lib.hid hg
      have s1 := hg.size
      have OB := Lib.hid ob
      have OA := Lib.hid oa
      have RA := Lib.hid ra
      have OX := Lib.hid ox
      have MX := Lib.hid mx
      have l2 := ox.lt
      obtain ⟨p0, p1⟩ := OB.out.two
      obtain ⟨q0, q1⟩ := OX.out.two
      by_cases hkn : k < n
      · obtain ⟨gx, cx', hA, _, _, re⟩ := mx.shape (by omega)
        injection hA with hA _ hcx
        subst hA hcx
        have g0 := hge gx rfl
        have g1 := hlt gx rfl
        obtain ⟨b2, off2, hA2, hb2, hcell2⟩ := HR.out.cells (by omega)
        subst hA2
        obtain ⟨d0, d1, _⟩ := hcell2 k hkn
        have d0 := kept hg d0
        have d1 := kept hg d1
        have th := turn_here (ls := ls) (k := k) (by rw [HL.out]; exact hkn)
        have lx : Lks wr wr.heap.size (some ⟨gx, 0, none⟩) n (turnK ls k) := ⟨re, turn_ok bd64 HR.out.ok k⟩
        obtain ⟨bx, offx, hAx, _, hcellx⟩ := lx.cells (by omega)
        injection hAx with hAx
        injection hAx with e1 e2
        subst e1 e2
        obtain ⟨x0, x1, _⟩ := hcellx k hkn
        have hat : at3 (turnK ls k) k = at3 ls k := by have := turn_at ls k k (by rw [HL.out]; exact hkn); rw [if_neg (by omega)] at this; exact this
        rw [hat, Nat.zero_add] at x0 x1
        have TN := Lib.hid (turn_next (ls := ls) (k := k))
        have TH := Lib.hid th
        have f0 := mx.frozen (k * 3)
        clear hcell2 hcellx lx re hg ob oa ra ox mx th hat
        generalize at3 ls k = l at *
        obtain ⟨f, t, cp⟩ := l
        simp only at d0 d1 x0 x1
        go_upto_region 8 with fail
        go_still_tail 11, (by kernel_rfl)
        go_wp2_with fail
        have k3 : wr.grownBy (wr.setCell ⟨gx, k * 3, none⟩ (.int .i64 t)).drew (some gx) := grown_drew (grown_set (World.grownBy.refl wr _) _)
        have G := Lib.hid (grown_none G.out k3 (fun g hg => by injection hg with hg; omega))
        have OB := Lib.hid (OB.out.kept' k3 (fun e => by injection e with e; omega))
        have OA := Lib.hid (OA.out.kept' k3 (fun e => by injection e with e; omega))
        have OX := Lib.hid (OX.out.kept' k3 (fun e => by injection e with e; omega))
        have RA := Lib.hid (RA.out.grown' (by omega) k3 (fun g hg => by injection hg with hg; omega))
        have MX : Hid (MineE linkE (wr.setCell ⟨gx, k * 3, none⟩ (.int .i64 t)).drew (w1.heap.size + 1) (.slice (some ⟨gx, 0, none⟩) n c1) n ((turnK ls k).set k (t, t, cp))) := (MX.out.put k 0 (f, t, cp) (t, t, cp) (.int .i64 t) TH.out (by decide) rfl).kept (grown_drew (World.grownBy.refl _ none))
        have x1 : (wr.setCell ⟨gx, k * 3, none⟩ (.int .i64 t)).drew.cell? ⟨gx, k * 3 + 1, none⟩ = some (.int .i64 t) := (World.cell?_setCell_other _ _ _ _ (by simp)).trans x1
        have d0 : (wr.setCell ⟨gx, k * 3, none⟩ (.int .i64 t)).drew.cell? ⟨b2, off2 + k * 3, none⟩ = some (.int .i64 f) := other_get (by omega) d0
        have s3 : (wr.setCell ⟨gx, k * 3, none⟩ (.int .i64 t)).drew.heap.size = wr.heap.size := by simp [World.setCell]
        have TH : Hid (((turnK ls k).set k (t, t, cp))[k]? = some (t, t, cp)) := List.getElem?_set_self (by rw [turn_len, HL.out]; exact hkn)
        have f1 := MX.out.frozen (k * 3 + 1)
        clear k3 f0 p0 p1 q0 q1
        generalize (wr.setCell ⟨gx, k * 3, none⟩ (.int .i64 t)).drew = w5 at *
        obtain ⟨p0, p1⟩ := OB.out.two
        obtain ⟨q0, q1⟩ := OX.out.two
        go_still_tail 11, (by kernel_rfl)
        go_wp2
        have k3 : w5.grownBy (w5.setCell ⟨gx, k * 3 + 1, none⟩ (.int .i64 f)).drew (some gx) := grown_drew (grown_set (World.grownBy.refl w5 _) _)
        go_roundw
        case rel => exact ⟨k + 1, by omega, by go_num, grown_none G.out k3 (fun g hg => by injection hg with hg; omega), OB.out.kept' k3 (fun e => by injection e with e; omega), OA.out.kept' k3 (fun e => by injection e with e; omega), RA.out.grown' (by omega) k3 (fun g hg => by injection hg with hg; omega), OX.out.kept' k3 (fun e => by injection e with e; omega), by rw [← TN.out]; exact (MX.out.put k 1 (t, t, cp) (t, f, cp) (.int .i64 f) TH.out (by decide) rfl).kept (grown_drew (World.grownBy.refl _ none))⟩
        case measure => simp [intOf]; omega
      · obtain rfl : n = k := by omega
        obtain ⟨A', c', hv, _, _, re⟩ := mx.row
        injection hv with e1 _ e3
        subst e1 e3
        have LX : Hid (Lks wr wr.heap.size A1 n (turnK ls n)) := ⟨re, turn_ok bd64 HR.out.ok n⟩
        clear re hg ob oa ra ox mx MX hge hlt
        go_wp2_with fail
        refine (Build_may vn A1 n c1 (turnK ls n) _ LX.out (Nat.le_refl _) HMT.out).mono ?_
        rintro e w4 ⟨x, y, z, rfl, tb, k4⟩
        obtain ⟨Bx, By, Bz, dx, dy, dz, rfl, rfl, rfl, rb⟩ := tb.rows okS2.out okO2.out okH2.out
        rw [HST.out] at rb
        rw [hlo2, hlh2, HST.out, hls]
        have s4 := k4.size
        have k5 := grow0 w4 (.cells #[.slice Bx (vn + 1) dx, .slice By m2 dy, .slice Bz m2 dz] 48)
        have k6 := grown_trans k4 k5
        have RB := Lib.hid (rb.grown (Nat.le_refl _) k5)
        have OY := Lib.hid (Own.new w4 48 [.slice Bx (vn + 1) dx, .slice By m2 dy, .slice Bz m2 dz])
        have OB := Lib.hid (OB.out.kept k6)
        have OA := Lib.hid (OA.out.kept k6)
        have RA := Lib.hid (RA.out.grown (by omega) k6)
        have G := Lib.hid (grown_trans G.out k6)
        have HS : Hid (CmpRel w w.heap.size w1.heap.size w4.heap.size vn m2 A n c ls Ax Ay Az Bx By Bz cx cy cz dx dy dz (.int .i64 0) (w4.alloc (.cells #[.slice Bx (vn + 1) dx, .slice By m2 dy, .slice Bz m2 dz] 48))) :=
          ⟨0, Nat.zero_le _, rfl, G.out, OB.out, OA.out, RA.out, OY.out, RB.out⟩
        clear tb rb k4 k5 k6 LX p0 p1 q0 q1 OX
        obtain ⟨p0, p1⟩ := OB.out.two
        obtain ⟨a0, a1, a2⟩ := OA.out.three
        obtain ⟨y0, y1, y2⟩ := OY.out.three
        go_wp2_with fail
        refine (Num0_any _ _).mono ?_
        rintro e w5 ⟨rfl, rfl⟩
        clear OB OA RA G OY RB
        go_wp2
        go_loopw [9] (fun i wr => CmpRel w w.heap.size w1.heap.size w4.heap.size vn m2 A n c ls Ax Ay Az Bx By Bz cx cy cz dx dy dz i wr) (fun i _ => n - (intOf i).toNat)
        case atStart => exact HS.out
        case round =>
          clear HS p0 p1 a0 a1 a2 y0 y1 y2
          obtain ⟨k, hk, rfl, hg, ob, oa, ra, oy, rb⟩ := hrel
          have G := Lib.hid hg
          have s1 := hg.size
          have OB := Lib.hid ob
          have OA := Lib.hid oa
          have RA := Lib.hid ra
          have OY := Lib.hid oy
          have RB := Lib.hid rb
          have l3 := oy.lt
          obtain ⟨p0, p1⟩ := OB.out.two
          obtain ⟨a0, a1, a2⟩ := OA.out.three
          obtain ⟨y0, y1, y2⟩ := OY.out.three
          by_cases hkn : k < n
          · have rh := RA.out.H
            rw [hlh] at rh
            obtain ⟨b, off, hA, hb, hcell⟩ := rh.at_ (by omega)
            subst hA
            have rh2 := RB.out.H
            rw [hlh2] at rh2
            obtain ⟨b2, off2, hA2, hb2, hcell2⟩ := rh2.at_ (by omega)
            subst hA2
            have e0 := hcell (2 * k) (by omega)
            have e1 := hcell (2 * k + 1) (by omega)
            have d0 := hcell2 (2 * k) (by omega)
            have d1 := hcell2 (2 * k + 1) (by omega)
            have ht := head_turn ls k (by rw [HL.out]; exact hkn)
            rw [HL.out] at ht
            rw [heads_at ls (2 * n) (2 * k) (by omega)] at e0
            rw [heads_at ls (2 * n) (2 * k + 1) (by omega)] at e1
            rw [heads_at _ (2 * n) (2 * k) (by omega), ht.1] at d0
            rw [heads_at _ (2 * n) (2 * k + 1) (by omega), ht.2] at d1
            clear rh hcell rh2 hcell2 ht hg ob oa ra oy rb hlo hlh hls hlo2 hlh2
            generalize headOf ls (2 * k) = h0 at *
            generalize headOf ls (2 * k + 1) = h1 at *
            have x0 : IntKind.i64.wrap (2 * (k : Int)) = 2 * (k : Int) := IntWalk.i64_in _ (by omega)
            have x1 : IntKind.i64.wrap (2 * (k : Int) + 1) = 2 * (k : Int) + 1 := IntWalk.i64_in _ (by omega)
            have u0 : (2 * (k : Int)).toNat = 2 * k := by omega
            have u1 : (2 * (k : Int) + 1).toNat = 2 * k + 1 := by omega
            have z0 : (0 : Int) ≤ 2 * (k : Int) := by omega
            have z1 : (0 : Int) ≤ 2 * (k : Int) + 1 := by omega
            have z2 : 2 * (k : Int) < (m2 : Int) := by omega
            have z3 : 2 * (k : Int) + 1 < (m2 : Int) := by omega
            go_wp2
            go_quiet (fail)
            go_wp2
            go_roundw
            case rel => exact ⟨k + 1, by omega, by go_num, grown_drewN G.out _, OB.out.drewN _, OA.out.drewN _, RA.out.grown (by omega) (grown_drewN (World.grownBy.refl _ _) _), OY.out.drewN _, RB.out.grown (by omega) (grown_drewN (World.grownBy.refl _ _) _)⟩
            case measure => simp [intOf]; omega
          · clear hg ob oa ra oy rb
            go_wp2_with fail
            refine (awake5_any _).mono ?_
            rintro e w6 ⟨rfl, k6⟩
            have G := Lib.hid (grown_trans G.out k6)
            have OA := Lib.hid (OA.out.kept k6)
            have OY := Lib.hid (OY.out.kept k6)
            have ra := (RA.out.grown (by omega) k6).S
            have rb := (RB.out.grown (by omega) k6).S
            rw [hls] at ra rb
            have RSA := Lib.hid ra
            have RSB := Lib.hid rb
            clear k6 ra rb p0 p1 a0 a1 a2 y0 y1 y2
            obtain ⟨a0, a1, a2⟩ := OA.out.three
            obtain ⟨y0, y1, y2⟩ := OY.out.three
            go_wp2_with fail
            refine (same_says (SameInts0_any Ax (vn + 1) cx (startsA ls n (vn + 1)) Bx (vn + 1) dx (startsA ls n (vn + 1)) _ RSA.out RSB.out)).mono ?_
            rintro e w7 ⟨rfl, k7⟩
            rw [sameB_refl]
            have G := Lib.hid (grown_trans G.out k7)
            clear k7
            go_wp2
            go_ret
            exact ⟨rfl, below_of G.out⟩

end Go.Proofs.Ytfldicenikkacaa
