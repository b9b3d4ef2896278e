/-
  block.Block, walked.
-/
import Derived.Test.YtlpohlcmjnlbhaaPushE
import Derived.Test.YtlpohlcmjnlbhaaPushC
import Derived.Test.YtlpohlcmjnlbhaaJF
import Derived.OwnWalk
set_option maxRecDepth 20000
namespace Go.Proofs.Ytlpohlcmjnlbhaa
open Go.RowKit

def blkV (v : Value) (k z : Int) : Value := .tuple #[v, .int .i64 k, .int .i64 z]

def YesPost (w : World) (N : Net) (most : Int) (e : Ending) (w' : World) : Prop :=
  ∃ b k, BlkIs N.V N.ls N.caps N.f N.s N.t most b k N.M ∧ ∃ v, e = .returned (blkV v k 0) ∧ Mine w' w.heap.size v b.length b ∧ w.grownBy w' none

set_option maxRecDepth 20000 in
set_option maxHeartbeats 2000000 in
theorem Block_yes (N : Net) (ok : N.Ok) (A : Option Addr) (c : Nat) (X : Option Addr) (m d : Nat) (Y : Option Addr) (r e0 : Nat) (most : Int) (w : World) {B B' B'' : Nat} (h : Lks w B A N.n N.ls) (hB : B ≤ w.heap.size) (hx : Row w B' X m N.caps) (hB' : B' ≤ w.heap.size) (hy : Row w B'' Y r N.f) (hB'' : B'' ≤ w.heap.size) (m0 : 0 ≤ most) (m1 : most ≤ 4611686018427387904) :
    Calls Try.prog 43 #[.agg #[.int .i64 (N.V : Nat), .slice A N.n c], .slice X m d, .slice Y r e0, .int .i64 N.s, .int .i64 N.t, .int .i64 most] w (YesPost w N most) := by
  have OK := Lib.hid ok
  have h8 := may_small ok.may
  rw [ok.hl] at h8
  have HR := Lib.hid h
  have HX := Lib.hid hx
  have HY := Lib.hid hy
  have HFL := Lib.hid ok.flow
  obtain ⟨_, ⟨s0, s1⟩, _⟩ := flow_parts ok.flow
  obtain ⟨sn, hsn⟩ : ∃ sn : Nat, N.s = (sn : Int) := ⟨N.s.toNat, by omega⟩
  have HSN := Lib.hid hsn
  have hlev : Hid (0 ≤ N.lev (sn : Int) ∧ (N.V : Int) ≤ N.lev (sn : Int) + N.V) := by
    have := ok.lv.src
    unfold Net.lev
    rw [← hsn, this]
    constructor <;> omega
  have hsv : sn < N.V := by rw [hsn] at s1; omega
  obtain ⟨pi, hbf⟩ := pi_first ok
  have PI1 := Lib.hid pi
  have HBF := Lib.hid hbf
  have HG0 := Lib.hid (grow0 w (.cells #[.int .i64 (N.V : Nat), .slice A N.n c] 24))
  clear h hx hy ok hsn s0 s1 pi hbf
  go_enter Try.func43, Try.ntmps43
  go_wp2_with fail
  refine (FMay_any (N.V : Nat) N.s N.t A N.n c N.ls X m d N.caps Y r e0 N.f _ (HR.out.grown hB HG0.out) (by simp; omega) (HX.out.grown hB' HG0.out) (by simp; omega) (HY.out.grown hB'' HG0.out) (by simp; omega)).mono ?_
  rintro e w1 ⟨he, g1⟩
  rw [HFL.out] at he
  subst he
  obtain ⟨g, ob⟩ := box1 [.int .i64 (N.V : Nat), .slice A N.n c] g1
  have G := Lib.hid g
  have OB := Lib.hid ob
  clear g g1 ob HG0
  obtain ⟨p0, p1⟩ := OB.out.two
  go_wp2_with fail
  refine (bbegin_any N OK.out A c X m d Y r e0 _ (HR.out.grown hB G.out) (by have := G.out.size; omega) (HX.out.grown hB' G.out) (by have := G.out.size; omega) (HY.out.grown hB'' G.out) (by have := G.out.size; omega)).mono ?_
  rintro e w2 ⟨Az, cz, rA, rc, gO, B2, base, vs, rfl, g2, h1, h2, h3, h4, h5, oo, hv, hh, fam⟩
  have PS := Lib.hid (Pst.first (cz := cz) OK.out h3 h4 h5 oo hv hh fam)
  have hrb : Hid (∀ b, rBlk rA = some b → w.heap.size ≤ b) := by
    intro b hb
    have hr := fam.head
    rw [rooms_len] at hr
    have := G.out.size
    rcases hr.2 with ⟨e, _⟩ | ⟨g', cap, cur, e, b1, b2, _⟩
    · injection e with e1 _ _
      subst e1
      simp [rBlk] at hb
    · injection e with e1 _ _
      subst e1
      simp only [rBlk, Option.map_some, Option.some.injEq] at hb
      omega
  have hgo : w.heap.size ≤ gO := by have := G.out.size; omega
  have G := Lib.hid (grown_trans (grown_trans G.out g2) (grow0 w2 (.cells #[.int .i64 N.t, .slice Az (2 * N.n) cz, .slice rA (2 * N.n) rc, .slice (some ⟨gO, 0, none⟩) N.V N.V] 97)))
  clear g2 oo hh fam OB p0 p1
  go_upto_region 4 with fail
  obtain ⟨q, hq⟩ : ∃ q, w2.heap.size = q := ⟨_, rfl⟩
  rw [hq] at PS
  generalize w2.alloc (.cells #[.int .i64 N.t, .slice Az (2 * N.n) cz, .slice rA (2 * N.n) rc, .slice (some ⟨gO, 0, none⟩) N.V N.V] 97) = w3 at *
  have hsz := G.out.size
  rw [hq, HSN.out]
  go_wp2_with fail
  refine (push_any N OK.out q gO base Az cz rA rc N.V sn most _ _ _ vs PS.out PI1.out hsv hlev.out.1 hlev.out.2 m0 m1).mono ?_
  rintro e w4 ⟨k, R, O, vs4, rfl, pl, pe, ps, tr⟩
  have BK : Hid (BlkIs N.V N.ls N.caps N.f N.s N.t most (bOf R N.n) k N.M) := blk_of OK.out HBF.out (by rw [HSN.out]; exact pl) (by rw [HSN.out]; exact pe)
  have G := Lib.hid (Trn.grown G.out tr hrb.out hgo)
  have HQ := Lib.hid ps.oq
  have hokR : okI R := by
    intro i
    by_cases hi : i < 2 * N.n
    · have := pl.inv.bd OK.out hi
      unfold rAt at this
      omega
    · rw [List.getElem?_eq_none (by rw [pl.inv.lenR]; omega)]
      simp
  have RR := Lib.hid (ps.rm.rowAt hokR)
  clear pl pe ps tr hokR PS
  go_wp2_with fail
  refine (flow_any q N.n rc N.t _ _ rA R _ HQ.out RR.out (by omega)).mono ?_
  rintro e w5 ⟨v, rfl, mv, k5⟩
  have G5 := Lib.hid (grown_trans G.out k5)
  have MV := Lib.hid (mv.wide G.out.size)
  clear k5 mv
  go_wp2
  go_ret3
  exact ⟨_, k, BK.out, v, rfl, MV.out, G5.out⟩

theorem Block_no (V s t most : Int) (A : Option Addr) (n c : Nat) (ls : List Lk) (X : Option Addr) (m d : Nat) (caps : List Int) (Y : Option Addr) (r e0 : Nat) (f : List Int) (w : World) {B B' B'' : Nat} (h : Lks w B A n ls) (hB : B ≤ w.heap.size) (hx : Row w B' X m caps) (hB' : B' ≤ w.heap.size) (hy : Row w B'' Y r f) (hB'' : B'' ≤ w.heap.size) (hno : (flowB V ls caps f s t && decide (0 ≤ most) && decide (most ≤ 4611686018427387904)) = false) :
    Calls Try.prog 43 #[.agg #[.int .i64 V, .slice A n c], .slice X m d, .slice Y r e0, .int .i64 s, .int .i64 t, .int .i64 most] w (Says w (blkV (.slice none 0 0) 0 1100)) := by
  have HR := Lib.hid h
  have HX := Lib.hid hx
  have HY := Lib.hid hy
  have HN := Lib.hid hno
  have HG0 := Lib.hid (grow0 w (.cells #[.int .i64 V, .slice A n c] 24))
  clear h hx hy hno
  go_enter Try.func43, Try.ntmps43
  go_wp2_with fail
  refine (FMay_any V s t A n c ls X m d caps Y r e0 f _ (HR.out.grown hB HG0.out) (by simp; omega) (HX.out.grown hB' HG0.out) (by simp; omega) (HY.out.grown hB'' HG0.out) (by simp; omega)).mono ?_
  rintro e w1 ⟨rfl, g1⟩
  obtain ⟨g, _⟩ := box1 [.int .i64 V, .slice A n c] g1
  have G := Lib.hid g
  clear g g1 HG0
  have hno := HN.out
  clear HN
  cases hf : flowB V ls caps f s t
  · clear hno
    go_wp2
    go_ret3
    exact ⟨rfl, G.out⟩
  · rw [hf] at hno
    by_cases m0 : most < 0
    · clear hno
      go_wp2
      go_ret3
      exact ⟨rfl, G.out⟩
    · by_cases m1 : 4611686018427387904 < most
      · clear hno
        go_wp2
        go_ret3
        exact ⟨rfl, G.out⟩
      · have h1 : 0 ≤ most := by omega
        have h2 : most ≤ 4611686018427387904 := by omega
        simp [h1, h2] at hno

def blkB (V : Int) (ls : List Lk) (caps f : List Int) (s t most : Int) : Bool := flowB V ls caps f s t && decide (0 ≤ most) && decide (most ≤ 4611686018427387904)

/-- What Block may tell. -/
def BlockIs (V : Int) (ls : List Lk) (caps f : List Int) (s t most : Int) (b : List Int) (k z : Int) : Prop :=
  (blkB V ls caps f s t most = true ∧ z = 0 ∧ ∃ M, IsLv V.toNat (Leads ls caps f (2 * ls.length)) s M ∧ BlkIs V.toNat ls caps f s t most b k M) ∨ (blkB V ls caps f s t most = false ∧ z = 1100 ∧ b = [] ∧ k = 0)

def BlockPost (w : World) (V : Int) (ls : List Lk) (caps f : List Int) (s t most : Int) (e : Ending) (w' : World) : Prop :=
  ∃ b k z, BlockIs V ls caps f s t most b k z ∧ ∃ v, e = .returned (blkV v k z) ∧ Mine w' w.heap.size v b.length b ∧ w.grownBy w' none

theorem blkB_parts {V : Int} {ls : List Lk} {caps f : List Int} {s t most : Int} (h : blkB V ls caps f s t most = true) : flowB V ls caps f s t = true ∧ 0 ≤ most ∧ most ≤ 4611686018427387904 := by
  simp only [blkB, Bool.and_eq_true, decide_eq_true_eq] at h
  exact ⟨h.1.1, h.1.2, h.2⟩

theorem flow_may {V : Int} {L : List Lk} {caps f : List Int} {s t : Int} (h : flowB V L caps f s t = true) : fitsF V L caps f = true := by
  simp only [flowB, Bool.and_eq_true] at h
  exact h.1.1.1.1

theorem Block_any (V s t most : Int) (A : Option Addr) (n c : Nat) (ls : List Lk) (X : Option Addr) (m d : Nat) (caps : List Int) (Y : Option Addr) (r e0 : Nat) (f : List Int) (w : World) {B B' B'' : Nat} (h : Lks w B A n ls) (hB : B ≤ w.heap.size) (hx : Row w B' X m caps) (hB' : B' ≤ w.heap.size) (hy : Row w B'' Y r f) (hB'' : B'' ≤ w.heap.size) :
    Calls Try.prog 43 #[.agg #[.int .i64 V, .slice A n c], .slice X m d, .slice Y r e0, .int .i64 s, .int .i64 t, .int .i64 most] w (BlockPost w V ls caps f s t most) := by
  cases hb : blkB V ls caps f s t most
  · refine (Block_no V s t most A n c ls X m d caps Y r e0 f w h hB hx hB' hy hB'' hb).mono ?_
    rintro e w' ⟨rfl, g⟩
    exact ⟨[], 0, 1100, .inr ⟨hb, rfl, rfl, rfl⟩, _, rfl, Mine.nil _ _, g⟩
  · obtain ⟨h1, h2, h3⟩ := blkB_parts hb
    have hm := (fits_parts (flow_may h1)).1
    have h8 := may_small hm
    obtain ⟨vn, rfl⟩ : ∃ vn : Nat, V = (vn : Nat) := ⟨V.toNat, by omega⟩
    have hl := h.len
    subst hl
    obtain ⟨_, hs, _⟩ := flow_parts h1
    obtain ⟨M, hM⟩ := lev_there (caps := caps) (f := f) hm rfl hs
    refine (Block_yes ⟨vn, ls.length, ls, caps, f, M, s, t⟩ ⟨rfl, h1, hM⟩ A c X m d Y r e0 most w h hB hx hB' hy hB'' h2 h3).mono ?_
    rintro e w' ⟨b, k, hk, v, rfl, mv, g⟩
    exact ⟨b, k, 0, .inl ⟨hb, rfl, M, hM, hk⟩, v, rfl, mv, g⟩

theorem Block_okI {V : Int} {ls : List Lk} {caps f : List Int} {s t most : Int} {b : List Int} {k z : Int} (h : BlockIs V ls caps f s t most b k z) : okI b ∧ b.length ≤ 16 := by
  rcases h with ⟨h1, _, M, _, h3⟩ | ⟨_, _, rfl, _⟩
  · obtain ⟨f1, _, _, f4⟩ := fits_parts (flow_parts h3.flow).1
    have h8 := may_small f1
    have hl := flow_len h3.flow
    refine ⟨fun i => ?_, by omega⟩
    by_cases hi : i < ls.length
    · have hb := f_bd f4 hi
      have h5 := may_sum f1 (i + 1) (by omega)
      have h6 := (gk_bd (f := b) 0 f4 i (by omega)).1
      rw [capSum] at h5
      omega
    · rw [List.getElem?_eq_none (by omega)]
      simp
  · refine ⟨fun i => by simp, by simp⟩

end Go.Proofs.Ytlpohlcmjnlbhaa
