/-
  push.Push, walked: block by block, until it is as much as is wanted or nothing more goes.
-/
import Derived.Test.YtlpohlcmjnlbhaaPushF
import Derived.Test.YtlpohlcmjnlbhaaMathMost
set_option maxRecDepth 20000
namespace Go.Proofs.Ytlpohlcmjnlbhaa
open Go.RowKit

def pshB (V : Int) (ls : List Lk) (caps : List Int) (s t want : Int) : Bool := mayG V ls && capsB ls caps && (isV V s && isV V t) && !(s == t) && decide (0 ≤ want) && decide (want ≤ 4611686018427387904)

/-- What Push may tell. -/
def PushIs (V : Int) (ls : List Lk) (caps : List Int) (s t want : Int) (b : List Int) (k z : Int) : Prop :=
  (pshB V ls caps s t want = true ∧ z = 0 ∧ PshIs V.toNat ls caps s t want b k) ∨ (pshB V ls caps s t want = false ∧ z = 1200 ∧ b = [] ∧ k = 0)

def MostPost (w : World) (V : Int) (ls : List Lk) (caps : List Int) (s t want : Int) (e : Ending) (w' : World) : Prop :=
  ∃ b k z, PushIs V ls caps s t want b k z ∧ ∃ v, e = .returned (blkV v k z) ∧ Mine w' w.heap.size v b.length b ∧ w.grownBy w' none

theorem pshB_parts {V : Int} {ls : List Lk} {caps : List Int} {s t want : Int} (h : pshB V ls caps s t want = true) : mayG V ls = true ∧ capsB ls caps = true ∧ (0 ≤ s ∧ s < V) ∧ (0 ≤ t ∧ t < V) ∧ s ≠ t ∧ 0 ≤ want ∧ want ≤ 4611686018427387904 := by
  simp only [pshB, isV, Bool.and_eq_true, decide_eq_true_eq, Bool.not_eq_true', beq_eq_false_iff_ne] at h
  exact ⟨h.1.1.1.1.1, h.1.1.1.1.2, h.1.1.1.2.1, h.1.1.1.2.2, h.1.1.2, h.1.2, h.2⟩

theorem most_no {w w' : World} {V : Int} {ls : List Lk} {caps : List Int} {s t want : Int} {e : Ending} (hb : pshB V ls caps s t want = false) (he : e = .returned (blkV (.slice none 0 0) 0 1200)) (g : w.grownBy w' none) : MostPost w V ls caps s t want e w' :=
  ⟨[], 0, 1200, .inr ⟨hb, rfl, rfl, rfl⟩, _, he, Mine.nil _ _, g⟩

theorem most_yes {w w' : World} {vn : Nat} {ls : List Lk} {caps b : List Int} {s t want k : Int} {v : Value} {n : Nat} {e : Ending} (hb : pshB (vn : Nat) ls caps s t want = true) (h : PshIs vn ls caps s t want b k) (hn : b.length = n) (he : e = .returned (blkV v k 0)) (m : Mine w' w.heap.size v n b) (g : w.grownBy w' none) : MostPost w (vn : Nat) ls caps s t want e w' := by
  subst hn
  exact ⟨b, k, 0, .inl ⟨hb, rfl, by rw [Int.toNat_natCast]; exact h⟩, v, he, m, g⟩

def MostRel (w : World) (vn : Nat) (A : Option Addr) (n c : Nat) (ls : List Lk) (caps : List Int) (s t want : Int) (u a : Value) (wr : World) : Prop :=
  ∃ (f : List Int) (k : Int) (Af : Option Addr) (cf : Nat), a = .int .i64 k ∧ u = .slice Af n cf ∧ w.grownBy wr none ∧ Own wr w.heap.size 24 [.int .i64 (vn : Nat), .slice A n c] ∧ Mine wr w.heap.size (.slice Af n cf) n f ∧ PshI vn ls caps s t want f k

theorem caps_okI {V : Int} {ls : List Lk} {f : List Int} (f1 : mayG V ls = true) (f4 : capsB ls f = true) : okI f := by
  intro i
  have hl := (capsB_parts f4).1
  by_cases hi : i < ls.length
  · have hb := f_bd f4 hi
    have h5 := may_sum f1 (i + 1) (by omega)
    have h6 := (gk_bd (f := f) 0 f4 i (by omega)).1
    rw [capSum] at h5
    omega
  · rw [List.getElem?_eq_none (by omega)]
    simp

theorem flow_okI {V : Int} {ls : List Lk} {caps f : List Int} {s t : Int} (h : flowB V ls caps f s t = true) : okI f := by
  obtain ⟨f1, _, _, f4⟩ := fits_parts (flow_may h)
  exact caps_okI f1 f4

theorem pshB_mk {V : Int} {ls : List Lk} {caps : List Int} {s t want : Int} (h1 : mayG V ls = true) (h2 : capsB ls caps = true) (h3 : 0 ≤ s ∧ s < V) (h4 : 0 ≤ t ∧ t < V) (h5 : s ≠ t) (h6 : 0 ≤ want) (h7 : want ≤ 4611686018427387904) : pshB V ls caps s t want = true := by
  simp [pshB, isV, h1, h2, h3.1, h3.2, h4.1, h4.2, h5, h6, h7]

/-- What is told where it may be. -/
theorem push_yes {V : Int} {ls : List Lk} {caps : List Int} {s t want : Int} {b : List Int} {k z : Int} (h : PushIs V ls caps s t want b k z) (hb : pshB V ls caps s t want = true) : z = 0 ∧ PshIs V.toNat ls caps s t want b k := by
  rcases h with ⟨_, h2, h3⟩ | ⟨h1, _⟩
  · exact ⟨h2, h3⟩
  · rw [hb] at h1; cases h1

set_option maxRecDepth 20000 in
set_option maxHeartbeats 4000000 in
theorem Push_any (V s t want : Int) (A : Option Addr) (n c : Nat) (ls : List Lk) (X : Option Addr) (m d : Nat) (caps : List Int) (w : World) {B B' : Nat} (h : Lks w B A n ls) (hB : B ≤ w.heap.size) (hx : Row w B' X m caps) (hB' : B' ≤ w.heap.size) :
    Calls Try.prog 23 #[.agg #[.int .i64 V, .slice A n c], .slice X m d, .int .i64 s, .int .i64 t, .int .i64 want] w (MostPost w V ls caps s t want) := by
  have HL := Lib.hid h.len
  have HR := Lib.hid h
  have HX := Lib.hid hx
  have HG0 := Lib.hid (grow0 w (.cells #[.int .i64 V, .slice A n c] 24))
  have HE : Hid (pshB V ls caps s t want = (mayG V ls && capsB ls caps && (isV V s && isV V t) && !(s == t) && decide (0 ≤ want) && decide (want ≤ 4611686018427387904))) := rfl
  clear h hx
  go_enter Try.func23, Try.ntmps23
  go_wp2_with fail
  refine (GMay_any V A n c ls _ (HR.out.grown hB HG0.out) (by simp; omega)).mono ?_
  rintro e w1 ⟨rfl, g1⟩
  obtain ⟨g, o2⟩ := box1 [.int .i64 V, .slice A n c] g1
  have G := Lib.hid g
  have OB := Lib.hid o2
  clear g g1 o2 HG0
  obtain ⟨p0, p1⟩ := OB.out.two
  cases hm : mayG V ls
  · have E : Hid (pshB V ls caps s t want = false) := by rw [Hid, HE.out, hm]; rfl
    clear HE hm
    go_wp2
    go_ret3
    exact most_no E.out rfl G.out
  have h8 := may_small hm
  rw [HL.out] at h8
  obtain ⟨vn, rfl⟩ : ∃ vn : Nat, V = (vn : Nat) := ⟨V.toNat, by omega⟩
  have HMAY := Lib.hid hm
  clear hm
  go_wp2_with fail
  refine (areCaps_any (vn : Nat) A n c ls X m d caps _ (HR.out.grown hB G.out) (HX.out.grown hB' G.out) (by have := G.out.size; omega) (by omega)).mono ?_
  rintro e w2 ⟨rfl, k⟩
  have G := Lib.hid (grown_trans G.out k)
  have OB := Lib.hid (OB.out.kept k)
  clear k p0 p1
  obtain ⟨p0, p1⟩ := OB.out.two
  cases hc : capsB ls caps
  · have E : Hid (pshB (vn : Nat) ls caps s t want = false) := by rw [Hid, HE.out, HMAY.out, hc]; rfl
    clear HE hc
    go_wp2
    go_ret3
    exact most_no E.out rfl G.out
  have HCAP := Lib.hid hc
  clear hc
  go_wp2_with fail
  refine (Vert2_any (vn : Nat) s t A n c _ rfl).mono ?_
  rintro e w3 ⟨rfl, k⟩
  have G := Lib.hid (grown_trans G.out k)
  have OB := Lib.hid (OB.out.kept k)
  clear k p0 p1
  obtain ⟨p0, p1⟩ := OB.out.two
  cases hst : (isV (vn : Nat) s && isV (vn : Nat) t)
  · have E : Hid (pshB (vn : Nat) ls caps s t want = false) := by rw [Hid, HE.out, HMAY.out, HCAP.out, hst]; rfl
    clear HE hst
    go_wp2
    go_ret3
    exact most_no E.out rfl G.out
  have HST := Lib.hid hst
  clear hst
  by_cases he : s = t
  · have E : Hid (pshB (vn : Nat) ls caps s t want = false) := by rw [Hid, HE.out, he]; simp
    clear HE
    have q1 : (s == t) = true := by simp [he]
    clear he
    go_wp2
    go_ret3
    exact most_no E.out rfl G.out
  have q1 : (s == t) = false := by simp [he]
  by_cases m0 : want < 0
  · have E : Hid (pshB (vn : Nat) ls caps s t want = false) := by
      have q : decide (0 ≤ want) = false := by simp [m0]
      rw [Hid, HE.out, q]; simp
    clear HE he
    go_wp2
    go_ret3
    exact most_no E.out rfl G.out
  by_cases m1 : 4611686018427387904 < want
  · have E : Hid (pshB (vn : Nat) ls caps s t want = false) := by
      have q : decide (want ≤ 4611686018427387904) = false := by simp [m1]
      rw [Hid, HE.out, q]; simp
    clear HE he
    go_wp2
    go_ret3
    exact most_no E.out rfl G.out
  have E : Hid (pshB (vn : Nat) ls caps s t want = true) := by
    have qa : decide (0 ≤ want) = true := by simp; omega
    have qb : decide (want ≤ 4611686018427387904) = true := by simp; omega
    rw [Hid, HE.out, HMAY.out, HCAP.out, HST.out, q1, qa, qb]; rfl
  clear HE HST
  obtain ⟨_, _, hs, ht, _⟩ := pshB_parts E.out
  have PF := Lib.hid (pshi_first (L := ls) (caps := caps) HMAY.out HCAP.out hs ht he (show 0 ≤ want by omega))
  obtain ⟨i0, hi, hz0, hz1, hz2⟩ := info_parts info3
  have HI := Lib.hid hi
  have HZ0 := Lib.hid hz0
  have HZ1 := Lib.hid hz1
  have HZ2 := Lib.hid hz2
  clear hi hz0 hz1 hz2 he hs ht
  go_wp2_with (first | (refine wpList_make_full _ rfl _ _ 25 rfl w3.heap.size 3 i0 (.int .i64 0) 1 Try.underlying25 HI.out HZ0.out HZ1.out .i64 .i64 (n : Int) (n : Int) n rfl rfl rfl rfl (by rw [HZ2.out]; omega) (by unfold maxLen; omega) (Nat.le_refl _) ?_))
  intro w4 hmk k2
  rw [toList_madeCells_one, ints_zero] at hmk
  have oz := Own.of_made hmk
  have hge : w.heap.size ≤ w3.heap.size := G.out.size
  have rz := Own.mine (n := n) (base := w.heap.size) oz hge (by simp) (by omega)
  have pf := PF.out
  rw [HL.out] at pf
  have HS : Hid (MostRel w vn A n c ls caps s t want (.slice (some ⟨w3.heap.size, 0, none⟩) n n) (.int .i64 0) w4) := ⟨_, 0, _, n, rfl, rfl, grown_trans G.out k2, OB.out.kept k2, rz, pf⟩
  clear hmk k2 oz rz pf hge PF G OB p0 p1 HI HZ0 HZ1 HZ2
  go_wp2
  go_loopw [13, 14] (fun u a wr => MostRel w vn A n c ls caps s t want u a wr) (fun _ a _ => want.toNat - (intOf a).toNat)
  case atStart => exact HS.out
  case round =>
    clear HS
    obtain ⟨f, k, Af, cf, rfl, rfl, hg, ob, mf, pi⟩ := hrel
    have G := Lib.hid hg
    have OB := Lib.hid ob
    have MF := Lib.hid mf
    have OKF := Lib.hid (flow_okI pi.flow)
    have RF := Lib.hid (mf.rowAt OKF.out)
    have PI := Lib.hid pi
    have hsz := ob.lt
    obtain ⟨p0, p1⟩ := ob.two
    have hk0 := flow_most pi.flow
    rw [pi.val] at hk0
    have hk1 := pi.high
    have FL := Lib.hid (flow_len pi.flow)
    clear hg ob mf pi
    by_cases hlt : k < want
    · obtain ⟨_, hs2, _⟩ := flow_parts PI.out.flow
      obtain ⟨M, hM⟩ := lev_there (caps := caps) (f := f) HMAY.out rfl hs2
      have LV := Lib.hid hM
      clear hs2 hM
      have e1 : IntKind.i64.wrap (want - k) = want - k := IntWalk.i64_in _ (by omega)
      go_wp2_with fail
      refine (Block_any (vn : Nat) s t (want - k) A n c ls X m d caps Af n cf f _ (HR.out.grown hB G.out) (by omega) (HX.out.grown hB' G.out) (by omega) RF.out (Nat.le_refl _)).mono ?_
      rintro e w5 ⟨b, j, z, hb, v5, rfl, h5, k5⟩
      have hbB : blkB (vn : Nat) ls caps f s t (want - k) = true := by
        rw [blkB, PI.out.flow]
        have qa : decide (0 ≤ want - k) = true := by simp; omega
        have qb : decide (want - k ≤ 4611686018427387904) = true := by simp; omega
        rw [qa, qb]; rfl
      obtain ⟨okb, _⟩ := Block_okI hb
      obtain ⟨rfl, hbk⟩ : z = 0 ∧ BlkIs vn ls caps f s t (want - k) b j M := by
        rcases hb with ⟨_, hz, M', hM', hk⟩ | ⟨h1, _⟩
        · rw [Int.toNat_natCast] at hM' hk
          obtain rfl := lev_one (leads_in HMAY.out rfl) (fun _ _ => Iff.rfl) LV.out hM'
          exact ⟨hz, hk⟩
        · rw [hbB] at h1; cases h1
      obtain ⟨Ab, cb, rfl, _, _, _⟩ := h5.rowN okb
      have hbn : b.length = n := by rw [flow_len hbk.flow, HL.out]
      rw [hbn] at h5 ⊢
      have MB := Lib.hid (h5.wide G.out.size)
      have G5 := Lib.hid (grown_trans G.out k5)
      have O5 := Lib.hid (OB.out.kept k5)
      have M5 := Lib.hid (MF.out.kept k5)
      have BK := Lib.hid hbk
      have jl := hbk.low
      have jh := hbk.high
      clear h5 k5 hb okb hbk hbB hbn RF p0 p1 G OB MF
      unfold blkV
      by_cases hj : j = 0
      · subst hj
        have PE := Lib.hid (pshi_shut PI.out LV.out BK.out hlt).1
        clear BK PI LV
        go_wp2
        go_ret3
        exact most_yes E.out PE.out (by rw [FL.out, HL.out]) rfl M5.out G5.out
      · have hjb : (j == 0) = false := by simp [hj]
        have PN := Lib.hid (pshi_next PI.out BK.out)
        have e2 : IntKind.i64.wrap (k + j) = k + j := IntWalk.i64_in _ (by omega)
        clear BK PI LV M5
        go_wp2
        go_roundw
        case rel => exact ⟨b, k + j, Ab, cb, rfl, rfl, G5.out, O5.out, MB.out, PN.out⟩
        case measure => simp [intOf]; omega
    · obtain rfl : k = want := by omega
      have PE := Lib.hid (pshi_full PI.out)
      go_wp2
      go_ret3
      exact most_yes E.out PE.out (by rw [FL.out, HL.out]) rfl MF.out G.out

theorem push_okI {V : Int} {ls : List Lk} {caps : List Int} {s t want : Int} {b : List Int} {k z : Int} (h : PushIs V ls caps s t want b k z) : okI b ∧ b.length ≤ 16 ∧ 0 ≤ k ∧ k ≤ 4611686018427387904 := by
  rcases h with ⟨h1, _, h3⟩ | ⟨_, _, rfl, rfl⟩
  · have h8 := may_small (pshB_parts h1).1
    have hl := flow_len h3.flow
    exact ⟨flow_okI h3.flow, by omega, psh_low h3⟩
  · exact ⟨fun i => by simp, by simp, by omega, by omega⟩

end Go.Proofs.Ytlpohlcmjnlbhaa
