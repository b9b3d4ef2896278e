/-
  Build and Row of a graph that may be; the law ArcsRows, walked.
-/
import Derived.Test.YtfldicenikkacaaArcsLawB
namespace Go.Proofs.Ytfldicenikkacaa
open Go.RowKit

theorem may_ok {vn n : Nat} {ls : List Lk} (hm : mayG (vn : Nat) ls = true) (hl : ls.length = n) : okI (startsA ls n (vn + 1)) ∧ okI (ordA ls n vn) ∧ okI (headsA ls (2 * n)) := by
  obtain ⟨e1, e2, e3, _⟩ := arc_yes hm
  have h1 := arcS_ok (vn : Nat) ls
  have h2 := arcO_ok (vn : Nat) ls
  have h3 := arcH_ok (vn : Nat) ls
  rw [e1, hl, Int.toNat_natCast] at h1
  rw [e2, hl, Int.toNat_natCast] at h2
  rw [e3, hl] at h3
  exact ⟨h1, h2, h3⟩

theorem Build_may (vn : Nat) (A : Option Addr) (n c : Nat) (ls : List Lk) (w : World) {B : Nat} (h : Lks w B A n ls) (hB : B ≤ w.heap.size) (hm : mayG (vn : Nat) ls = true) :
    Calls Try.prog 30 #[.agg #[.int .i64 (vn : Nat), .slice A n c]] w (ArcPost w (startsA ls n (vn + 1)) (ordA ls n vn) (headsA ls (2 * n)) 0) := by
  have hc := Build_any (vn : Nat) A n c ls w h hB
  obtain ⟨e1, e2, e3, e4⟩ := arc_yes hm
  rw [e1, e2, e3, e4, h.len, Int.toNat_natCast] at hc
  exact hc

theorem Build_no (V : Int) (A : Option Addr) (n c : Nat) (ls : List Lk) (w : World) {B : Nat} (h : Lks w B A n ls) (hB : B ≤ w.heap.size) (hm : mayG V ls = false) :
    Calls Try.prog 30 #[.agg #[.int .i64 V, .slice A n c]] w (ArcPost w [] [] [] 500) := by
  have hc := Build_any V A n c ls w h hB
  obtain ⟨e1, e2, e3, e4⟩ := arc_no hm
  rw [e1, e2, e3, e4] at hc
  exact hc

theorem Row_may (vn k : Nat) (A : Option Addr) (n c : Nat) (ls : List Lk) (w : World) {B : Nat} (h : Lks w B A n ls) (hB : B ≤ w.heap.size) (hm : mayG (vn : Nat) ls = true) (hk : k < vn) :
    Calls Try.prog 32 #[.agg #[.int .i64 (vn : Nat), .slice A n c], .int .i64 (k : Nat)] w (SelPost w (rowA ls (k : Nat) (2 * n)) 0) := by
  have hc := Row_any (vn : Nat) (k : Nat) A n c ls w h hB
  obtain ⟨e1, e2⟩ := rowOf_yes (V := (vn : Nat)) (ls := ls) (v := (k : Nat)) (by simp [goodB, hm, isV, hk])
  rw [e1, e2, h.len] at hc
  exact hc

theorem Rows3.grown' {w w' : World} {B : Nat} {Ax Ay Az : Option Addr} {s o h : List Int} {row : Option Nat} (t : Rows3 w B Ax Ay Az s o h) (hB : B ≤ w.heap.size) (k : w.grownBy w' row) (hr : ∀ g, row = some g → B ≤ g) : Rows3 w' B Ax Ay Az s o h :=
  ⟨t.S.grown' hB k hr, t.O.grown' hB k hr, t.H.grown' hB k hr⟩

def AllRel (w : World) (p q vn : Nat) (A : Option Addr) (n c : Nat) (ls : List Lk) (Ax Ay Az : Option Addr) (ns no nh cx cy cz : Nat) (o i : Value) (wr : World) : Prop :=
  ∃ (k m : Nat) (Ao : Option Addr) (co : Nat), k ≤ vn ∧ i = .int .i64 (k : Nat) ∧ o = .slice Ao m co ∧ m = (ordA ls n k).length ∧ w.grownBy wr none ∧ Own wr p 24 [.int .i64 (vn : Nat), .slice A n c] ∧
    Own wr q 48 [.slice Ax ns cx, .slice Ay no cy, .slice Az nh cz] ∧ Rows3 wr q Ax Ay Az (startsA ls n (vn + 1)) (ordA ls n vn) (headsA ls (2 * n)) ∧ Mine wr (q + 1) (.slice Ao m co) m (ordA ls n k)

theorem Row.cellAt {w : World} {B b off n : Nat} {xs : List Int} (h : Row w B (some ⟨b, off, none⟩) n xs) {i : Nat} (hi : i < n) : w.cell? ⟨b, off + i, none⟩ = some (.int .i64 (xs[i]?.getD 0)) := by
  obtain ⟨b', off', hA, _, hc⟩ := h.at_ (by omega)
  injection hA with hA
  injection hA with e1 e2
  subst e1 e2
  exact hc i hi

set_option maxHeartbeats 2000000 in
theorem ArcsRows_walk (V : Int) (A : Option Addr) (n c : Nat) (ls : List Lk) (w : World) (h : InG w A n c ls) :
    Calls Try.prog 6 #[.agg #[.int .i64 V, .slice A n c]] w (LawPost w) := by
  obtain ⟨hs, hnc, hc, hnil⟩ := h
  have HR := Lib.hid hs
  have HL := Lib.hid hs.len
  have HR1 := Lib.hid (hs.grown (Nat.le_refl _) (grow0 w (.cells #[.int .i64 V, .slice A n c] 24)))
  clear hs hnil
  cases hm : mayG V ls
  · go_enter Try.func6, Try.ntmps6
    go_wp2_with fail
    refine (Build_no V A n c ls _ HR1.out (by simp) hm).mono ?_
    rintro e w1 ⟨x, y, z, rfl, ta, k⟩
    obtain ⟨Ax, cx, rfl, _⟩ := ta.S.sl
    obtain ⟨Ay, cy, rfl, _⟩ := ta.O.sl
    obtain ⟨Az, cz, rfl, _⟩ := ta.H.sl
    have G := Lib.hid (grown_alloc (grown_trans (grow0 _ _) k) (.cells #[.slice Ax 0 cx, .slice Ay 0 cy, .slice Az 0 cz] 48))
    clear ta k
    go_wp2_with fail
    refine (Num0_any _ _).mono ?_
    rintro e w2 ⟨rfl, rfl⟩
    go_wp2
    go_ret
    exact ⟨rfl, below_of G.out⟩
  · have h16 := may_small hm
    rw [HL.out] at h16
    obtain ⟨vn, rfl⟩ : ∃ vn : Nat, V = (vn : Nat) := ⟨V.toNat, by omega⟩
    have HM := Lib.hid hm
    obtain ⟨okS', okO', okH'⟩ := may_ok hm HL.out
    have okS := Lib.hid okS'
    have okO := Lib.hid okO'
    have okH := Lib.hid okH'
    clear hm okS' okO' okH'
    have hls := starts_len ls n (vn + 1)
    have hlo := ord_len ls n vn
    have hmul : 2 * n * vn ≤ 2 * 16 * 8 := Nat.mul_le_mul (by omega) (by omega)
    go_enter Try.func6, Try.ntmps6
    go_wp2_with fail
    refine (Build_may vn A n c ls _ HR1.out (by simp) HM.out).mono ?_
    rintro e w1 ⟨x, y, z, rfl, ta, k⟩
    obtain ⟨g1, ob⟩ := box1 [.int .i64 (vn : Nat), .slice A n c] k
    have b1 := ob.lt
    obtain ⟨Ax, Ay, Az, cx, cy, cz, rfl, rfl, rfl, ra⟩ := ta.rows okS.out okO.out okH.out
    obtain ⟨bs, offs, rfl, _, _⟩ := ra.S.at_ (by omega)
    rw [hls]
    generalize hno : (ordA ls n vn).length = no at *
    generalize hnh : (headsA ls (2 * n)).length = nh at *
    have k2 := grow0 w1 (.cells #[.slice (some ⟨bs, offs, none⟩) (vn + 1) cx, .slice Ay no cy, .slice Az nh cz] 48)
    have RA := Lib.hid (ra.grown (Nat.le_refl _) k2)
    have G := Lib.hid (grown_trans g1 k2)
    have OB := Lib.hid (ob.kept k2)
    have OA := Lib.hid (Own.new w1 48 [.slice (some ⟨bs, offs, none⟩) (vn + 1) cx, .slice Ay no cy, .slice Az nh cz])
    clear k k2 g1 ob ta ra HR1
    have HS : Hid (AllRel w w.heap.size w1.heap.size vn A n c ls (some ⟨bs, offs, none⟩) Ay Az (vn + 1) no nh cx cy cz (.slice none 0 0) (.int .i64 0) (w1.alloc (.cells #[.slice (some ⟨bs, offs, none⟩) (vn + 1) cx, .slice Ay no cy, .slice Az nh cz] 48))) :=
      ⟨0, 0, none, 0, Nat.zero_le _, rfl, rfl, rfl, G.out, OB.out, OA.out, RA.out, Mine.nil _ _⟩
    obtain ⟨p0, p1⟩ := OB.out.two
    obtain ⟨a0, a1, a2⟩ := OA.out.three
    have hne : (((vn + 1 : Nat) : Int) != (vn : Int) + 1) = false := by simp
    go_wp2_with fail
    refine (Num0_any _ _).mono ?_
    rintro e w2 ⟨rfl, rfl⟩
    clear RA G OB OA
    go_wp2
    go_loopw [5, 6] (fun o i wr => AllRel w w.heap.size w1.heap.size vn A n c ls (some ⟨bs, offs, none⟩) Ay Az (vn + 1) no nh cx cy cz o i wr) (fun _ i _ => vn - (intOf i).toNat)
    case atStart => exact HS.out
    case round =>
      clear HS p0 p1 a0 a1 a2
      obtain ⟨k, m, Ao, co, hk, rfl, rfl, hmm, hg, ob, oa, ra, mo⟩ := hrel
      have hm16 : m ≤ 2 * n * k := hmm ▸ ord_len ls n k
      have hmul2 : 2 * n * k ≤ 2 * 16 * 8 := Nat.mul_le_mul (by omega) (by omega)
      have hst := ra.S.cellAt (i := k) (by omega)
      rw [starts_at ls n (vn + 1) k (by omega), ← hmm] at hst
      have HMM := Lib.hid hmm
      have G := Lib.hid hg
      have s1 := hg.size
      have OB := Lib.hid ob
      have OA := Lib.hid oa
      have RA := Lib.hid ra
      have MO := Lib.hid mo
      have HST := Lib.hid hst
      have l2 := oa.lt
      obtain ⟨p0, p1⟩ := OB.out.two
      clear hmm hg ob oa ra mo hst
      have heq : ((m : Int) != (m : Int)) = false := by simp
      by_cases hlt : k < vn
      · have hrl := row_len ls (k : Nat) (2 * n)
        have hord := Lib.hid (show ordA ls n (k + 1) = ordA ls n k ++ rowA ls (k : Nat) (2 * n) from rfl)
        go_wp2_with fail
        refine (Row_may vn k A n c ls _ (HR.out.grown (Nat.le_refl _) G.out) s1 HM.out hlt).mono ?_
        rintro e w3 ⟨vr, rfl, hr, k3⟩
        obtain ⟨Ar, cr, rfl, hnr, hr3⟩ := hr.rowN (row_ok ls (k : Nat) (m := 2 * n) (by omega))
        have HR3 := Lib.hid hr3
        have HNR := Lib.hid hnr
        have G := Lib.hid (grown_trans G.out k3)
        have OB := Lib.hid (OB.out.kept k3)
        have OA := Lib.hid (OA.out.kept k3)
        have RA := Lib.hid (RA.out.grown (by omega) k3)
        have MO := Lib.hid (MO.out.kept k3)
        have hst := kept k3 HST.out
        have s3 := k3.size
        clear k3 hr hr3 hnr p0 p1 HST
        obtain ⟨a0, a1, a2⟩ := OA.out.three
        go_wp2_with fail
        refine (Num0_any _ _).mono ?_
        rintro e w4 ⟨rfl, rfl⟩
        go_wp2_with (first | (at_builtin; refine wpList_app _ rfl _ _ rfl (w1.heap.size + 1) _ m (ordA ls n k) rfl MO.out Ar (rowA ls (k : Nat) (2 * n)).length cr (rowA ls (k : Nat) (2 * n)) rfl HR3.out HNR.out (by omega) (by omega) ?_))
        intro v6 w6 hm6 hg6 _
        have hge := MO.out.own_ge
        obtain ⟨A6, c6, rfl, _⟩ := hm6.sl
        have G6 := Lib.hid (grown_none G.out hg6 (fun g hg => by have := hge g hg; omega))
        have P1 := Lib.hid (OB.out.kept' hg6 (fun e => by have := hge _ e; omega))
        have P2 := Lib.hid (OA.out.kept' hg6 (fun e => by have := hge _ e; omega))
        have R6 := Lib.hid (RA.out.grown' (by omega) hg6 (fun g hg => by have := hge g hg; omega))
        have M6 := Lib.hid hm6
        clear hm6 hg6 hge a0 a1 a2 hst
        go_wp2
        go_roundw
        case rel => exact ⟨k + 1, m + (rowA ls (k : Nat) (2 * n)).length, A6, c6, by omega, by go_num, rfl, by rw [hord.out, List.length_append, ← HMM.out], G6.out, P1.out, P2.out, R6.out, by rw [hord.out]; exact M6.out⟩
        case measure => simp [intOf]; omega
      · obtain rfl : vn = k := by omega
        obtain rfl : m = no := by rw [HMM.out, hno]
        go_wp2_with fail
        refine (awake5_any _).mono ?_
        rintro e w3 ⟨rfl, k3⟩
        have G := Lib.hid (grown_trans G.out k3)
        have OB := Lib.hid (OB.out.kept k3)
        have OA := Lib.hid (OA.out.kept k3)
        have RA := Lib.hid (RA.out.grown (by omega) k3)
        have MO := Lib.hid (MO.out.kept k3)
        have hst := kept k3 HST.out
        have s3 := k3.size
        have ro := RA.out.O
        rw [hno] at ro
        have RO := Lib.hid ro
        clear k3 p0 p1 HST ro
        obtain ⟨p0, p1⟩ := OB.out.two
        obtain ⟨a0, a1, a2⟩ := OA.out.three
        go_wp2_with fail
        refine (same_says (SameInts0_any Ao m co (ordA ls n vn) Ay m cy (ordA ls n vn) _ (MO.out.rowAt okO.out) RO.out)).mono ?_
        rintro e w4 ⟨rfl, k4⟩
        rw [sameB_refl]
        have G := Lib.hid (grown_trans G.out k4)
        have OB := Lib.hid (OB.out.kept k4)
        have OA := Lib.hid (OA.out.kept k4)
        have hst := kept k4 hst
        clear k4 p0 p1 a0 a1 a2
        obtain ⟨p0, p1⟩ := OB.out.two
        obtain ⟨a0, a1, a2⟩ := OA.out.three
        go_wp2
        go_ret
        exact ⟨rfl, below_of G.out⟩

end Go.Proofs.Ytfldicenikkacaa
