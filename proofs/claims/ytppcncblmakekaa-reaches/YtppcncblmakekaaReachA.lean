/-
  What can be reached: as levels tell it; the reference's Reach, walked.
-/
import Derived.Test.YtppcncblmakekaaLevelE
import Derived.Test.YtppcncblmakekaaSideC
import Derived.Test.YtppcncblmakekaaMathBlock
set_option maxRecDepth 20000
namespace Go.Proofs.Ytppcncblmakekaa
open Go.RowKit

/-- The vertices that have a level. -/
def reachL (M : List Int) : List Int := pick (fun v => decide (0 ≤ lvAt M (v : Int))) M.length
def reachE (z : Int) : Int := if z = 0 then 0 else 1300
def shutB (V : Int) (M : List Int) (z t : Int) : Bool := decide (z = 0) && isV V t && decide (lvAt M t < 0)
def shutE (V z t : Int) : Int := if (decide (z = 0) && isV V t) = true then 0 else 1300

theorem reach_ok {M : List Int} (h : M.length ≤ 8) : okI (reachL M) ∧ (reachL M).length ≤ 8 :=
  ⟨pick_ok (by omega), Nat.le_trans (pick_len _ _) h⟩

theorem reach_mem {M : List Int} {x : Int} (h0 : 0 ≤ x) (h1 : x < M.length) : x ∈ reachL M ↔ 0 ≤ lvAt M x := by
  rw [reachL, pick_mem]
  constructor
  · rintro ⟨i, _, hi, rfl⟩
    exact of_decide_eq_true hi
  · intro h
    have e : ((x.toNat : Nat) : Int) = x := by omega
    exact ⟨x.toNat, by omega, by rw [e]; exact decide_eq_true h, e.symm⟩

/-- What is told of levels is told once. -/
theorem lvIs_there (V : Int) (ls : List Lk) (caps f : List Int) (s : Int) : ∃ M z, LvIs V ls caps f s M z := by
  cases hb : lvB V ls caps f s
  · exact ⟨[], 1000, lev_no hb⟩
  · obtain ⟨h1, h2⟩ := lvB_parts hb
    have hm := (fits_parts h1).1
    have h8 := may_small hm
    obtain ⟨vn, rfl⟩ : ∃ vn : Nat, V = (vn : Nat) := ⟨V.toNat, by omega⟩
    have hs : inV vn s := by simpa [isV, inV] using h2
    obtain ⟨M, hM⟩ := lev_there (caps := caps) (f := f) hm rfl hs
    exact ⟨M, 0, lev_yes hb rfl hM⟩

theorem caps_low {V : Int} : ∀ (ls : List Lk) (acc : Int), (capsFrom V acc ls).isSome = true → ∀ l ∈ ls, 0 ≤ l.2.2
  | [], _, _ => by simp
  | l :: r, acc, h => by
    intro x hx
    rw [capsFrom] at h
    by_cases k : linkOk V acc l = true
    · rw [if_pos k] at h
      rcases List.mem_cons.1 hx with rfl | hx
      · exact (link_bd k).1
      · exact caps_low r _ h x hx
    · rw [if_neg k] at h
      cases h

theorem may_cap {V : Int} {ls : List Lk} (h : mayG V ls = true) {i : Nat} (hi : i < ls.length) : 0 ≤ (at3 ls i).2.2 := by
  unfold mayG totalOf at h
  by_cases k : formOk V ls.length = true
  · rw [if_pos k] at h
    exact caps_low ls 0 h (at3 ls i) (by unfold at3; rw [List.getElem?_eq_getElem hi]; exact List.getElem_mem hi)
  · rw [if_neg k] at h
    cases h

def ReRel (w w1 : World) (M : List Int) (o i : Value) (wr : World) : Prop :=
  ∃ k : Nat, k ≤ M.length ∧ i = .int .i64 (k : Nat) ∧ w.grownBy wr none ∧ w1.grownBy wr none ∧ Mine wr w1.heap.size o (pick (fun v => decide (0 ≤ lvAt M (v : Int))) k).length (pick (fun v => decide (0 ≤ lvAt M (v : Int))) k)

set_option maxRecDepth 20000 in
set_option maxHeartbeats 2000000 in
theorem RReach_any (V s : Int) (A : Option Addr) (n c : Nat) (ls : List Lk) (X : Option Addr) (m d : Nat) (caps : List Int) (Y : Option Addr) (r e0 : Nat) (f : List Int) (w : World) {B B' B'' : Nat} (h : Lks w B A n ls) (hB : B ≤ w.heap.size) (hx : Row w B' X m caps) (hB' : B' ≤ w.heap.size) (hy : Row w B'' Y r f) (hB'' : B'' ≤ w.heap.size)
    (M : List Int) (z : Int) (hM : LvIs V ls caps f s M z) : Calls Try.prog 8 #[.agg #[.int .i64 V, .slice A n c], .slice X m d, .slice Y r e0, .int .i64 s] w (SelPost w (reachL M) (reachE z)) := by
  have HR := Lib.hid h
  have HX := Lib.hid hx
  have HY := Lib.hid hy
  have HM := Lib.hid hM
  have HG0 := Lib.hid (grow0 w (.cells #[.int .i64 V, .slice A n c] 24))
  clear h hx hy hM
  go_enter Try.func8, Try.ntmps8
  go_wp2_with fail
  refine (RLevels_any V s A n c ls X m d caps Y r e0 f _ (HR.out.grown hB HG0.out) (by simp; omega) (HX.out.grown hB' HG0.out) (by simp; omega) (HY.out.grown hB'' HG0.out) (by simp; omega) M z HM.out).mono ?_
  rintro e w1 ⟨v1, rfl, h1, k⟩
  obtain ⟨g1, _⟩ := box1 [.int .i64 V, .slice A n c] k
  have G := Lib.hid g1
  have hw1 := g1.size
  obtain ⟨okM, hm8⟩ := lvIs_okI HM.out
  obtain ⟨Am, cm, rfl, _, _, rM⟩ := h1.rowN okM
  have RM := Lib.hid rM
  clear k g1 HG0 h1 rM okM
  rcases HM.out with ⟨_, rfl, hi⟩ | ⟨_, rfl, rfl⟩
  case inr =>
    clear HM
    have q : reachE 1000 = 1300 := by decide
    go_wp2
    go_ret2
    exact ⟨.slice none 0 0, (by rw [q]; rfl), Mine.nil _ _, G.out⟩
  clear hi HM
  have HS : Hid (ReRel w w1 M (.slice none 0 0) (.int .i64 0) w1) := ⟨0, Nat.zero_le _, rfl, G.out, World.grownBy.refl w1 none, Mine.nil _ _⟩
  have hml : M.length ≤ 8 := hm8
  obtain ⟨ml, hml2⟩ : ∃ ml, M.length = ml := ⟨_, rfl⟩
  have HML := Lib.hid hml2
  rw [hml2] at hml RM
  clear hml2 hm8
  rw [HML.out]
  go_wp2
  go_loopw [12, 13] (fun o i wr => ReRel w w1 M o i wr) (fun _ i _ => ml - (intOf i).toNat)
  case atStart => exact HS.out
  case round =>
    clear HS
    obtain ⟨k, hk, rfl, hg, hg1, mo⟩ := hrel
    rw [HML.out] at hk
    have G := Lib.hid hg
    have G1 := Lib.hid hg1
    have MO := Lib.hid mo
    have hsz := hg1.size
    clear hg hg1 mo
    by_cases hlt : k < ml
    · obtain ⟨b, off, rfl, hb, hcell⟩ := RM.out.at_ (by omega)
      have d0 := kept G1.out (hcell k hlt)
      have HY1 := Lib.hid (pick_yes (p := fun v => decide (0 ≤ lvAt M (v : Int))) (k := k))
      have HN1 := Lib.hid (pick_no (p := fun v => decide (0 ≤ lvAt M (v : Int))) (k := k))
      have HE : Hid (lvAt M (k : Int) = M[k]?.getD 0) := by rw [Hid, lvAt, Int.toNat_natCast]
      have hl := pick_len (fun v => decide (0 ≤ lvAt M (v : Int))) k
      clear hcell
      generalize M[k]?.getD 0 = x at *
      by_cases hx : 0 ≤ x
      · have HN2 := Lib.hid (HY1.out (by simp only [HE.out]; exact decide_eq_true hx))
        clear HY1 HN1
        generalize pick (fun v => decide (0 ≤ lvAt M (v : Int))) k = xs at *
        have kl := grow0 wr (.cells #[.int .i64 (k : Nat)] 3)
        have HM1 := Lib.hid (MO.out.kept kl)
        have hge := Lib.hid MO.out.own_ge
        have HROW := Lib.hid (Row.newAt (w := wr) (g := wr.heap.size) (n := 1) (vs := #[.int .i64 (k : Nat)]) [(k : Int)] (by simp) rfl rfl (by simp) (by simp; omega))
        have GE := Lib.hid (grown_trans G.out kl)
        have GE1 := Lib.hid (grown_trans G1.out kl)
        have hgs := G.out.size
        clear kl MO G G1
        go_wp2_with (first | (at_builtin; refine wpList_app _ rfl _ _ rfl w1.heap.size _ _ _ rfl HM1.out _ 1 1 [(k : Int)] rfl HROW.out (by simp) (by omega) (by simp; omega) ?_))
        intro v1 w3 hm1 hg3 _
        have G3 := Lib.hid (grown_none GE.out hg3 (fun g hg => by have := hge.out g hg; omega))
        have G31 := Lib.hid (grown_none GE1.out hg3 (fun g hg => by have := hge.out g hg; omega))
        have HM3 := Lib.hid hm1
        clear hm1 hg3
        go_wp2
        go_roundw
        case rel => exact ⟨k + 1, by rw [HML.out]; omega, by go_num, G3.out, G31.out, by rw [HN2.out]; simpa using HM3.out⟩
        case measure => simp [intOf]; omega
      · have HN2 := Lib.hid (HN1.out (by simp only [HE.out]; exact decide_eq_false hx))
        clear HY1 HN1
        go_wp2
        go_roundw
        case rel => exact ⟨k + 1, by rw [HML.out]; omega, by go_num, G.out, G1.out, by rw [HN2.out]; exact MO.out⟩
        case measure => simp [intOf]; omega
    · obtain rfl : k = ml := by omega
      go_wp2
      go_ret2
      have hf := MO.out
      have q : reachE 0 = 0 := by decide
      refine ⟨_, (by rw [q]; rfl), ?_, G.out⟩
      rw [reachL, HML.out]
      exact hf.wide hw1

end Go.Proofs.Ytppcncblmakekaa
