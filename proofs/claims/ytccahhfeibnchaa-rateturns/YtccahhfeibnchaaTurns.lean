/-
  The walk of the law RateTurns: it answers true and changes nothing that was there.
-/
import Derived.Test.YtccahhfeibnchaaLend
import Derived.Test.YtccahhfeibnchaaMathB
import Derived.Deep.RegionLaw
import Derived.Deep.RegionHeld3
import Derived.Deep.DeepCutAuto
namespace Go.Proofs.Ytccahhfeibnchaa
open Go.RowKit

theorem step_app {ops : Array Oper} {o : Oper} {a : Act} {w : World} {K : Act → World → Prop} {Q : Exit → Act → World → Prop} {E : Prop} (hgd : o.guard = none) (s x : Operand)
    (ho : o.op = .call { callee := .builtin .append, args := #[s, x], argTypes := #[22, 22] }) (base : Nat) (v : Value) (n : Nat) (ys : List Int) (hs : a.eval s = v) (hown : Mine w base v n ys)
    {B : Nat} (A : Option Addr) (m c : Nat) (xs : List Int) (hx : a.eval x = .slice A m c) (hr : Row w B A m xs) (hnil : A = none → c = 0) (hbytes : (n + m) * 8 ≤ 140737488355328) (hbase : base ≤ w.heap.size)
    (h : ∀ v' w', Mine w' base v' (n + m) (ys ++ xs) → w.grownBy w' v.ownBlock → K (a.put o.dst v') w') :
    if Region.wanted o (yielded ops a.tmps) = true then Oper.wp Try.prog o a w K Q else E := by
  have hw : Region.wanted o (yielded ops a.tmps) = true := by simp [Region.wanted, hgd]
  rw [if_pos hw]
  obtain ⟨v', w', hrun, h2, h3, h4⟩ := run_app w base o.type v n ys hown A m c xs hr hnil hbytes hbase
  unfold Oper.wp execOp
  simp only [ho, resolve, invoke, builtin, Sem.run_bind, Sem.run_pure, Result.andThen_ok, List.map_toArray, List.map_cons, List.map_nil, hs, hx, hrun]
  exact h v' w' h2 h3

theorem turn_mine {w : World} {base : Nat} {v : Value} {n k : Nat} {ys : List Int} (hk : k ≤ n) (h : Mine w base v (n - k + k) ys) : Mine w base v n ys := by
  rwa [Nat.sub_add_cancel hk] at h
theorem below_undrew {B : Nat} {w w' : World} (h : Below B w.drew w') : Below B w w' := ⟨h.os, h.tape, h.output, h.size, h.block⟩

theorem turn_ok (xs : List Int) (k : Nat) (h : ∀ i : Nat, -9223372036854775808 ≤ xs[i]?.getD 0 ∧ xs[i]?.getD 0 ≤ 9223372036854775807) :
    ∀ i : Nat, -9223372036854775808 ≤ (xs.drop k ++ xs.take k)[i]?.getD 0 ∧ (xs.drop k ++ xs.take k)[i]?.getD 0 ≤ 9223372036854775807 := by
  intro i
  rcases Nat.lt_or_ge i (xs.drop k).length with hi | hi
  · rw [List.getElem?_append_left hi, List.getElem?_drop]; exact h _
  · rw [List.getElem?_append_right hi]
    rcases Nat.lt_or_ge (i - (xs.drop k).length) k with hj | hj
    · rw [List.getElem?_take_of_lt hj]; exact h _
    · rw [List.getElem?_eq_none (by simp at *; omega)]; simp

theorem least_to {P : Program} {f : FuncId} {args : Array Value} {w : World} {a b : Int} (e : a = b) (h : Calls P f args w fun e w' => e = .returned (.int .i64 b) ∧ w = w') :
    Calls P f args w fun e w' => e = .returned (.int .i64 a) ∧ w = w' := by rw [e]; exact h

def TurnCut (w : World) (n : Nat) (ys : List Int) (s5 : Value) (wx : World) : Prop := Mine wx w.heap.size s5 n ys ∧ Below w.heap.size w wx

set_option maxHeartbeats 1600000 in
theorem RateTurns_walk (A : Option Addr) (n c : Nat) (xs : List Int) (at_ : Int) (w : World) (h : In w A n c xs) (hat : -9223372036854775808 ≤ at_ ∧ at_ ≤ 9223372036854775807) :
    Calls Try.prog 6 #[.slice A n c, .int .i64 at_] w fun e w' => e = .returned (.bool true) ∧ Below w.heap.size w w' := by
  obtain ⟨hr, hnc, hreach, hnil⟩ := h
  have hn := hr.small
  by_cases h0 : at_ < 0
  · go_enter Try.func6, Try.ntmps6
    go_wp2
    go_ret
    exact ⟨rfl, Below.refl _ _⟩
  by_cases h1 : (n : Int) ≤ at_
  · go_enter Try.func6, Try.ntmps6
    go_wp2
    go_ret
    exact ⟨rfl, Below.refl _ _⟩
  obtain ⟨k, rfl⟩ := Int.eq_ofNat_of_zero_le (by omega : 0 ≤ at_)
  have hk : k < n := by omega
  have hck : ¬ c = k := by omega
  have hkn : k ≤ n := by omega
  have hkc : k ≤ c := by omega
  clear h0 h1 hat hnil
  obtain ⟨b, off, hA, hbB, hcell⟩ := hr.at_ (by omega)
  subst hA
  have HR := Lib.hid hr
  clear hr hcell
  have HTAIL := Lib.hid (HR.out.tail (A' := some ⟨b, off + k, none⟩) (Nat.le_of_lt hk) (fun _ => by rw [Option.map_some, add_at]))
  have HHEAD := Lib.hid (HR.out.head (Nat.le_of_lt hk))
  have HCOPY := Lib.hid (CopyInts_any (some ⟨b, off + k, none⟩) (n - k) (c - k) (xs.drop k) w.drew (B := w.heap.size) (HTAIL.out.keep fun _ _ => rfl) (Nat.le_refl _) (by simp) (by omega))
  go_enter Try.func6, Try.ntmps6
  go_upto_region 3 with fail
  go_cut [5] (fun s5 wx => TurnCut w n (xs.drop k ++ xs.take k) s5 wx)
  case first =>
    go_region_law (first | (refine step_app rfl _ _ rfl w.heap.size _ (n - k) (xs.drop k) rfl HM1.out (B := w.heap.size) _ k c (xs.take k) rfl HH1.out (by simp) (by omega) hz1 ?_; intro v2 w2 hm2 hg2; have HM2 := Lib.hid (turn_mine hkn hm2); have HB2 := Lib.hid (HB1.out.grown hg2 hz1 HM1.out.own_ge); clear hm2 hg2) | (go_simp; go_at_call 17; refine HCOPY.out.mono ?_; rintro e w1 ⟨v1, rfl, hm1, hb1⟩; have hz1 : w.heap.size ≤ w1.heap.size := hb1.size; have HM1 : Hid (Mine w1 w.heap.size v1 (n - k) (xs.drop k)) := hm1; have HB1 : Hid (Below w.heap.size w w1) := below_undrew hb1; have HH1 := Lib.hid (HHEAD.out.below HB1.out); clear hm1 hb1))
    go_wp2_with fail
    go_meet
    exact ⟨HM2.out, HB2.out⟩
  case rest =>
    obtain ⟨hm, hb⟩ := hcut
    have hyl : (xs.drop k ++ xs.take k).length = n := by have := HR.out.len; simp; omega
    have hyok := turn_ok xs k HR.out.ok
    obtain ⟨g, c2, hv, hc2, hgB, hrowY⟩ := hm.shape (by omega) hyok
    rw [hv]
    have HY := Lib.hid hrowY
    have HB := Lib.hid hb
    have HX := Lib.hid (HR.out.below hb)
    have HYL := Lib.hid hyl
    have HTS := Lib.hid (sum_turn xs k)
    have HTL := Lib.hid (least_turn xs k (by rw [HR.out.len]; omega))
    clear hv hm hb hrowY hyl hyok HCOPY HTAIL HHEAD
    generalize xs.drop k ++ xs.take k = ys at *
    go_wp2_with fail
    refine (Sum_any _ n c xs _ HX.out).mono ?_
    rintro e w1 ⟨rfl, rfl⟩
    go_wp2_with fail
    refine (Sum_any _ n c2 ys _ HY.out).mono ?_
    rintro e w1 ⟨rfl, rfl⟩
    rw [HTS.out.1, HTS.out.2]
    obtain ⟨b1, o1, hA1, hb1, hcx⟩ := HX.out.at_ (by omega)
    injection hA1 with hA1
    injection hA1 with e1 e2
    subst e1 e2
    obtain ⟨b2, o2, hA2, hb2, hcy⟩ := HY.out.at_ (by omega)
    injection hA2 with hA2
    injection hA2 with e1 e2
    subst e1 e2
    have hx0 := hcx 0 (by omega)
    have hy0 := hcy 0 (by omega)
    have hxb := HX.out.ok 0
    have hyb := HY.out.ok 0
    simp only [Nat.add_zero] at hx0 hy0
    clear hcx hcy
    generalize xs[0]?.getD 0 = x0 at *
    generalize ys[0]?.getD 0 = y0 at *
    generalize sumV xs = s at *
    generalize sumB xs = q at *
    by_cases hc1 : c = 1
    · obtain rfl : n = 1 := by omega
      obtain rfl : k = 0 := by omega
      subst hc1
      by_cases hc21 : c2 = 1
      · subst hc21
        have HXT : Hid (Row wc w.heap.size (some ⟨b, off, none⟩) (0) (xs.drop 1)) := HX.out.tail (k := 1) (by omega) (fun h => absurd h (by omega))
        have HYT : Hid (Row wc wc.heap.size (some ⟨g, 0, none⟩) (0) (ys.drop 1)) := HY.out.tail (k := 1) (by omega) (fun h => absurd h (by omega))
        have e1 : (s == s) = true := by simp
        have e2 : (q == q) = true := by simp
        go_wp2_with fail
        go_region_held3 (fun w' => w'.cell? ⟨b, off, none⟩ = some (.int .i64 x0) ∧ w'.cell? ⟨g, 0, none⟩ = some (.int .i64 y0)) (first | exact ⟨hx0, hy0⟩ | exact ⟨hx2, hy2⟩ | go_keep)
          (first
            | (go_at_call 14; refine (awake_any _).mono ?_; rintro e w2 ⟨rfl, hbel2⟩; have HB2 : Hid (Below wc.heap.size wc w2) := below_undrew hbel2; have hx2 : w2.cell? ⟨b, off, none⟩ = some (.int .i64 x0) := (HB2.out.cell (p := ⟨b, off, none⟩) (Nat.lt_of_lt_of_le hb1 HB.out.size)).trans hx0; have hy2 : w2.cell? ⟨g, 0, none⟩ = some (.int .i64 y0) := (HB2.out.cell (p := ⟨g, 0, none⟩) hb2).trans hy0; have HLX := Lib.hid (Least_any x0 _ (0) (0) (xs.drop 1) w2 (HXT.out.below (HB2.out.mono HB.out.size)) hxb); have HLY := Lib.hid (least_to HTL.out (Least_any y0 _ (0) (0) (ys.drop 1) w2 (HYT.out.below HB2.out) hyb)); clear hbel2)
            | (go_at_call_of 13 (Value.int .i64 x0); refine HLX.out.mono ?_; rintro e w3 ⟨rfl, rfl⟩)
            | (go_at_call_of 13 (Value.int .i64 y0); refine HLY.out.mono ?_; rintro e w3 ⟨rfl, rfl⟩))
        all_goals (go_wp2; go_ret; exact ⟨rfl, HB.out.trans (HB2.out.mono HB.out.size)⟩)
      · have HXT : Hid (Row wc w.heap.size (some ⟨b, off, none⟩) (0) (xs.drop 1)) := HX.out.tail (k := 1) (by omega) (fun h => absurd h (by omega))
        have HYT : Hid (Row wc wc.heap.size (some ⟨g, 1, none⟩) (0) (ys.drop 1)) := HY.out.tail (k := 1) (by omega) (fun h => absurd h (by omega))
        have h1c2 : 1 ≤ c2 := by omega
        have e1 : (s == s) = true := by simp
        have e2 : (q == q) = true := by simp
        go_wp2_with fail
        go_region_held3 (fun w' => w'.cell? ⟨b, off, none⟩ = some (.int .i64 x0) ∧ w'.cell? ⟨g, 0, none⟩ = some (.int .i64 y0)) (first | exact ⟨hx0, hy0⟩ | exact ⟨hx2, hy2⟩ | go_keep)
          (first
            | (go_at_call 14; refine (awake_any _).mono ?_; rintro e w2 ⟨rfl, hbel2⟩; have HB2 : Hid (Below wc.heap.size wc w2) := below_undrew hbel2; have hx2 : w2.cell? ⟨b, off, none⟩ = some (.int .i64 x0) := (HB2.out.cell (p := ⟨b, off, none⟩) (Nat.lt_of_lt_of_le hb1 HB.out.size)).trans hx0; have hy2 : w2.cell? ⟨g, 0, none⟩ = some (.int .i64 y0) := (HB2.out.cell (p := ⟨g, 0, none⟩) hb2).trans hy0; have HLX := Lib.hid (Least_any x0 _ (0) (0) (xs.drop 1) w2 (HXT.out.below (HB2.out.mono HB.out.size)) hxb); have HLY := Lib.hid (least_to HTL.out (Least_any y0 _ (0) (c2 - 1) (ys.drop 1) w2 (HYT.out.below HB2.out) hyb)); clear hbel2)
            | (go_at_call_of 13 (Value.int .i64 x0); refine HLX.out.mono ?_; rintro e w3 ⟨rfl, rfl⟩)
            | (go_at_call_of 13 (Value.int .i64 y0); refine HLY.out.mono ?_; rintro e w3 ⟨rfl, rfl⟩))
        all_goals (go_wp2; go_ret; exact ⟨rfl, HB.out.trans (HB2.out.mono HB.out.size)⟩)
    · by_cases hc21 : c2 = 1
      · obtain rfl : n = 1 := by omega
        obtain rfl : k = 0 := by omega
        subst hc21
        have HXT : Hid (Row wc w.heap.size (some ⟨b, off + 1, none⟩) (0) (xs.drop 1)) := HX.out.tail (k := 1) (by omega) (fun h => absurd h (by omega))
        have HYT : Hid (Row wc wc.heap.size (some ⟨g, 0, none⟩) (0) (ys.drop 1)) := HY.out.tail (k := 1) (by omega) (fun h => absurd h (by omega))
        have h1c : 1 ≤ c := by omega
        have e1 : (s == s) = true := by simp
        have e2 : (q == q) = true := by simp
        go_wp2_with fail
        go_region_held3 (fun w' => w'.cell? ⟨b, off, none⟩ = some (.int .i64 x0) ∧ w'.cell? ⟨g, 0, none⟩ = some (.int .i64 y0)) (first | exact ⟨hx0, hy0⟩ | exact ⟨hx2, hy2⟩ | go_keep)
          (first
            | (go_at_call 14; refine (awake_any _).mono ?_; rintro e w2 ⟨rfl, hbel2⟩; have HB2 : Hid (Below wc.heap.size wc w2) := below_undrew hbel2; have hx2 : w2.cell? ⟨b, off, none⟩ = some (.int .i64 x0) := (HB2.out.cell (p := ⟨b, off, none⟩) (Nat.lt_of_lt_of_le hb1 HB.out.size)).trans hx0; have hy2 : w2.cell? ⟨g, 0, none⟩ = some (.int .i64 y0) := (HB2.out.cell (p := ⟨g, 0, none⟩) hb2).trans hy0; have HLX := Lib.hid (Least_any x0 _ (0) (c - 1) (xs.drop 1) w2 (HXT.out.below (HB2.out.mono HB.out.size)) hxb); have HLY := Lib.hid (least_to HTL.out (Least_any y0 _ (0) (0) (ys.drop 1) w2 (HYT.out.below HB2.out) hyb)); clear hbel2)
            | (go_at_call_of 13 (Value.int .i64 x0); refine HLX.out.mono ?_; rintro e w3 ⟨rfl, rfl⟩)
            | (go_at_call_of 13 (Value.int .i64 y0); refine HLY.out.mono ?_; rintro e w3 ⟨rfl, rfl⟩))
        all_goals (go_wp2; go_ret; exact ⟨rfl, HB.out.trans (HB2.out.mono HB.out.size)⟩)
      · have HXT : Hid (Row wc w.heap.size (some ⟨b, off + 1, none⟩) (n - 1) (xs.drop 1)) := HX.out.tail (k := 1) (by omega) (fun _ => by rw [Option.map_some, add_at])
        have HYT : Hid (Row wc wc.heap.size (some ⟨g, 1, none⟩) (n - 1) (ys.drop 1)) := HY.out.tail (k := 1) (by omega) (fun _ => by rw [Option.map_some, add_at])
        have h1n : 1 ≤ n := by omega
        have h0n : 0 < n := by omega
        have i0n : (0 : Int) < (n : Int) := by omega
        have i1n : (1 : Int) ≤ (n : Int) := by omega
        have h1c : 1 ≤ c := by omega
        have h1c2 : 1 ≤ c2 := by omega
        have e1 : (s == s) = true := by simp
        have e2 : (q == q) = true := by simp
        go_wp2_with fail
        go_region_held3 (fun w' => w'.cell? ⟨b, off, none⟩ = some (.int .i64 x0) ∧ w'.cell? ⟨g, 0, none⟩ = some (.int .i64 y0)) (first | exact ⟨hx0, hy0⟩ | exact ⟨hx2, hy2⟩ | go_keep)
          (first
            | (go_at_call 14; refine (awake_any _).mono ?_; rintro e w2 ⟨rfl, hbel2⟩; have HB2 : Hid (Below wc.heap.size wc w2) := below_undrew hbel2; have hx2 : w2.cell? ⟨b, off, none⟩ = some (.int .i64 x0) := (HB2.out.cell (p := ⟨b, off, none⟩) (Nat.lt_of_lt_of_le hb1 HB.out.size)).trans hx0; have hy2 : w2.cell? ⟨g, 0, none⟩ = some (.int .i64 y0) := (HB2.out.cell (p := ⟨g, 0, none⟩) hb2).trans hy0; have HLX := Lib.hid (Least_any x0 _ (n - 1) (c - 1) (xs.drop 1) w2 (HXT.out.below (HB2.out.mono HB.out.size)) hxb); have HLY := Lib.hid (least_to HTL.out (Least_any y0 _ (n - 1) (c2 - 1) (ys.drop 1) w2 (HYT.out.below HB2.out) hyb)); clear hbel2)
            | (go_at_call_of 13 (Value.int .i64 x0); refine HLX.out.mono ?_; rintro e w3 ⟨rfl, rfl⟩)
            | (go_at_call_of 13 (Value.int .i64 y0); refine HLY.out.mono ?_; rintro e w3 ⟨rfl, rfl⟩))
        all_goals (go_wp2; go_ret; exact ⟨rfl, HB.out.trans (HB2.out.mono HB.out.size)⟩)
end Go.Proofs.Ytccahhfeibnchaa
