/-
  The reference's set and Least: all sets of vertices, as the bits of numbers.
-/
import Derived.Test.YtlpohlcmjnlbhaaPushC
import Derived.Test.YtlpohlcmjnlbhaaJI
import Derived.Test.YtlpohlcmjnlbhaaBools
set_option maxRecDepth 20000
namespace Go.Proofs.Ytlpohlcmjnlbhaa
open Go.RowKit

theorem bit_and (x : Nat) (h : x < 1000) : bits .and .i64 (x : Int) 1 = ((x % 2 : Nat) : Int) := by
  show IntKind.i64.wrap ((BitVec.ofInt 64 (x : Int) &&& BitVec.ofInt 64 1).toNat : Int) = _
  have h1 : (BitVec.ofInt 64 (x : Int)).toNat = x := by
    rw [BitVec.ofInt_natCast, BitVec.toNat_ofNat]; exact Nat.mod_eq_of_lt (by omega)
  have h2 : (BitVec.ofInt 64 1).toNat = 1 := by decide
  rw [BitVec.toNat_and, h1, h2, Nat.and_one_is_mod]
  exact IntWalk.i64_in _ (by omega)

def bitI (B v : Nat) : Int := if B.testBit v then 1 else 0

theorem bit_at (B v : Nat) (h : B < 1000) : bits .and .i64 ((B : Int) / 2 ^ v) 1 = bitI B v := by
  have e : ((B : Int) / 2 ^ v) = ((B / 2 ^ v : Nat) : Int) := by simp
  rw [e, bit_and _ (Nat.lt_of_le_of_lt (Nat.div_le_self _ _) h), bitI, Nat.testBit_eq_decide_div_mod_eq]
  rcases Nat.mod_two_eq_zero_or_one (B / 2 ^ v) with e | e <;> simp [e]

def SetRel (w : World) (vn B : Nat) (A : Option Addr) (n c : Nat) (o i : Value) (wr : World) : Prop :=
  ∃ k : Nat, k ≤ vn ∧ i = .int .i64 (k : Nat) ∧ w.grownBy wr none ∧ Own wr w.heap.size 24 [.int .i64 (vn : Nat), .slice A n c] ∧ Mine wr (w.heap.size + 1) o (pick (fun v => B.testBit v) k).length (pick (fun v => B.testBit v) k)

set_option maxRecDepth 20000 in
set_option maxHeartbeats 2000000 in
theorem RSet_any (vn B : Nat) (A : Option Addr) (n c : Nat) (w : World) (hv : vn ≤ 8) (hB : B < 1000) :
    Calls Try.prog 29 #[.agg #[.int .i64 (vn : Nat), .slice A n c], .int .i64 (B : Nat)] w (FlowPost w (pick (fun v => B.testBit v) vn)) := by
  have HS : Hid (SetRel w vn B A n c (.slice none 0 0) (.int .i64 0) (w.alloc (.cells #[.int .i64 (vn : Nat), .slice A n c] 24))) := ⟨0, Nat.zero_le _, rfl, grow0 _ _, Own.new w 24 [.int .i64 (vn : Nat), .slice A n c], Mine.nil _ _⟩
  go_enter Try.func29, Try.ntmps29
  go_wp2
  go_loopw [5, 6] (fun o i wr => SetRel w vn B A n c o i wr) (fun _ i _ => vn - (intOf i).toNat)
  case atStart => exact HS.out
  case round =>
    clear HS
    obtain ⟨k, hk, rfl, hg, ob, mo⟩ := hrel
    have G := Lib.hid hg
    have OB := Lib.hid ob
    have MO := Lib.hid mo
    have hsz := ob.lt
    obtain ⟨p0, p1⟩ := ob.two
    clear hg ob mo
    by_cases hlt : k < vn
    · have hb := bit_at B k hB
      have hl := pick_len (fun v => B.testBit v) k
      cases ht : B.testBit k
      · have HN : Hid (pick (fun v => B.testBit v) (k + 1) = pick (fun v => B.testBit v) k) := pick_no ht
        rw [bitI, ht] at hb
        simp only [Bool.false_eq_true, if_false] at hb
        clear ht
        go_wp2
        go_roundw
        case rel => exact ⟨k + 1, by omega, by go_num, G.out, OB.out, by rw [HN.out]; exact MO.out⟩
        case measure => simp [intOf]; omega
      · have HY : Hid (pick (fun v => B.testBit v) (k + 1) = pick (fun v => B.testBit v) k ++ [(k : Int)]) := pick_yes ht
        rw [bitI, ht] at hb
        simp only [if_true] at hb
        clear ht
        generalize pick (fun v => B.testBit v) k = xs at *
        have kl := grow0 wr (.cells #[.int .i64 (k : Nat)] 3)
        have HM1 := Lib.hid (MO.out.kept kl)
        have hge := Lib.hid MO.out.own_ge
        have HROW := Lib.hid (Row.newAt (w := wr) (g := wr.heap.size) (n := 1) (vs := #[.int .i64 (k : Nat)]) [(k : Int)] (by simp) rfl rfl (by simp) (by simp; omega))
        have GE := Lib.hid (grown_trans G.out kl)
        have OBE := Lib.hid (OB.out.kept kl)
        clear kl MO G OB
        go_wp2_with (first | (at_builtin; refine wpList_app _ rfl _ _ rfl (w.heap.size + 1) _ _ _ rfl HM1.out _ 1 1 [(k : Int)] rfl HROW.out (by simp) (by omega) (by simp; omega) ?_))
        intro v1 w3 hm1 hg3 _
        have G3 := Lib.hid (grown_none GE.out hg3 (fun g hg => by have := hge.out g hg; omega))
        have O3 := Lib.hid (OBE.out.kept' hg3 (fun e => by have := hge.out _ e; omega))
        have HM3 := Lib.hid hm1
        clear hm1 hg3
        go_wp2
        go_roundw
        case rel => exact ⟨k + 1, by omega, by go_num, G3.out, O3.out, by rw [HY.out]; simpa using HM3.out⟩
        case measure => simp [intOf]; omega
    · obtain rfl : k = vn := by omega
      go_wp2
      go_ret
      exact ⟨_, rfl, MO.out.wide (by omega), G.out⟩

theorem mem_bits {vn B : Nat} {x : Int} (h : 0 ≤ x ∧ x < (vn : Int)) : decide (x ∈ pick (fun v => B.testBit v) vn) = B.testBit x.toNat := by
  cases ht : B.testBit x.toNat
  · refine decide_eq_false fun hm => ?_
    obtain ⟨i, _, hi, rfl⟩ := pick_mem.1 hm
    rw [Int.toNat_natCast, hi] at ht
    cases ht
  · exact decide_eq_true (pick_mem.2 ⟨x.toNat, by omega, ht, by omega⟩)

theorem wk_cut {vn B : Nat} {L : List Lk} {caps : List Int} (hm : mayG (vn : Nat) L = true) : ∀ k, k ≤ L.length → wk L caps (pick (fun v => B.testBit v) vn) k = cutW (fun v => B.testBit v) L caps k
  | 0, _ => rfl
  | k + 1, hk => by
    have hj := may_joins hm (i := k) (by omega)
    have ih := wk_cut (B := B) (caps := caps) hm k (by omega)
    unfold cutW at ih ⊢
    rw [wk, sumN, ih, leaves, mem_bits ⟨hj.1, hj.2.1⟩, mem_bits ⟨hj.2.2.1, hj.2.2.2.1⟩]
    rfl

theorem worth_cut {vn B : Nat} {L : List Lk} {caps : List Int} (hm : mayG (vn : Nat) L = true) (hc : capsB L caps = true) : wthV (vn : Nat) L caps (pick (fun v => B.testBit v) vn) = .tuple #[.int .i64 (cutW (fun v => B.testBit v) L caps L.length), .int .i64 0] := by
  have hb : worthB (vn : Nat) L caps (pick (fun v => B.testBit v) vn) = true := by rw [worthB, leavB, hm, hc, verts_pick]; rfl
  rw [wthV, worthX, worthE, if_pos hb, if_pos hb, wk_cut hm _ (Nat.le_refl _)]

theorem cut_bd {vn B : Nat} {L : List Lk} {caps : List Int} (hm : mayG (vn : Nat) L = true) (hc : capsB L caps = true) : 0 ≤ cutW (fun v => B.testBit v) L caps L.length ∧ cutW (fun v => B.testBit v) L caps L.length ≤ 4611686018427387904 := by
  rw [← wk_cut (vn := vn) hm _ (Nat.le_refl _)]
  exact wk_bd _ hm hc (Nat.le_refl _)

def okC (s t B : Nat) : Bool := B.testBit s && !B.testBit t
def wtC (L : List Lk) (caps : List Int) (B : Nat) : Int := cutW (fun v => B.testBit v) L caps L.length

def LeastRel (w : World) (vn sn tn : Nat) (A : Option Addr) (n c : Nat) (L : List Lk) (caps : List Int) (o i : Value) (wr : World) : Prop :=
  ∃ B : Nat, B ≤ 2 ^ vn ∧ i = .int .i64 (B : Nat) ∧ o = .int .i64 (leastN (okC sn tn) (wtC L caps) B) ∧ w.grownBy wr none ∧ Own wr w.heap.size 24 [.int .i64 (vn : Nat), .slice A n c]

theorem least_yes {ok : Nat → Bool} {w : Nat → Int} {B : Nat} (h : ok B = true) (k : w B < leastN ok w B) : leastN ok w (B + 1) = w B := by rw [leastN, if_pos ⟨h, k⟩]
theorem least_no {ok : Nat → Bool} {w : Nat → Int} {B : Nat} (h : ¬ (ok B = true ∧ w B < leastN ok w B)) : leastN ok w (B + 1) = leastN ok w B := by rw [leastN, if_neg h]

set_option maxRecDepth 20000 in
set_option maxHeartbeats 4000000 in
theorem RLeast_any (vn sn tn : Nat) (A : Option Addr) (n c : Nat) (L : List Lk) (Y : Option Addr) (p e0 : Nat) (caps : List Int) (w : World) {B0 B'' : Nat} (h : Lks w B0 A n L) (hB : B0 ≤ w.heap.size) (hy : Row w B'' Y p caps) (hB'' : B'' ≤ w.heap.size) (hm : mayG (vn : Nat) L = true) (hc : capsB L caps = true) (hs : sn < vn) (ht : tn < vn) :
    Calls Try.prog 12 #[.agg #[.int .i64 (vn : Nat), .slice A n c], .slice Y p e0, .int .i64 (sn : Nat), .int .i64 (tn : Nat)] w (Says w (.int .i64 (leastN (okC sn tn) (wtC L caps) (2 ^ vn)))) := by
  have h8 := may_small hm
  have HR := Lib.hid h
  have HY := Lib.hid hy
  have HMAY := Lib.hid hm
  have HCAP := Lib.hid hc
  have hp : 2 ^ vn ≤ 256 := Nat.pow_le_pow_right (n := 2) (by omega) (show vn ≤ 8 by omega)
  have hp1 : 1 ≤ 2 ^ vn := Nat.one_le_two_pow
  have HS : Hid (LeastRel w vn sn tn A n c L caps (.int .i64 4611686018427387904) (.int .i64 0) (w.alloc (.cells #[.int .i64 (vn : Nat), .slice A n c] 24))) := ⟨0, Nat.zero_le _, rfl, rfl, grow0 _ _, Own.new w 24 [.int .i64 (vn : Nat), .slice A n c]⟩
  clear h hy hm hc
  obtain ⟨P, hP⟩ : ∃ P, 2 ^ vn = P := ⟨_, rfl⟩
  have HP := Lib.hid hP
  rw [hP] at hp hp1
  have hw : wrap64 ((2 : Int) ^ vn) = (P : Int) := by
    have e : ((2 : Int) ^ vn) = (P : Int) := by rw [← hP]; simp
    rw [e]
    exact IntWalk.wrap64_in (P : Int) (by omega)
  clear hP
  go_enter Try.func12, Try.ntmps12
  go_wp2
  go_loopw [9, 10] (fun o i wr => LeastRel w vn sn tn A n c L caps o i wr) (fun _ i _ => P - (intOf i).toNat)
  case atStart => exact HS.out
  case round =>
    clear HS
    obtain ⟨B, hBk, rfl, rfl, hg, ob⟩ := hrel
    rw [HP.out] at hBk
    have G := Lib.hid hg
    have OB := Lib.hid ob
    have hsz := ob.lt
    obtain ⟨p0, p1⟩ := ob.two
    have bd1 := least_most (ok := okC sn tn) (w := wtC L caps) B
    have bd0 := least_low (ok := okC sn tn) (w := wtC L caps) (x := 0) (by omega) B (fun B' _ _ => (cut_bd HMAY.out HCAP.out).1)
    clear hg ob
    by_cases hlt : B < P
    · have b1 := bit_at B sn (by omega)
      have b2 := bit_at B tn (by omega)
      have OKC : Hid (okC sn tn B = (B.testBit sn && !B.testBit tn)) := rfl
      have HY1 := Lib.hid (least_yes (ok := okC sn tn) (w := wtC L caps) (B := B))
      have HN1 := Lib.hid (least_no (ok := okC sn tn) (w := wtC L caps) (B := B))
      have WC := Lib.hid (worth_cut (B := B) HMAY.out HCAP.out)
      have cbd := cut_bd (B := B) HMAY.out HCAP.out
      have OKP : Hid (okI (pick (fun v => B.testBit v) vn)) := get_ok fun x hx => by
        obtain ⟨i, hi, _, rfl⟩ := pick_mem.1 hx
        omega
      have HWT : Hid (wtC L caps B = cutW (fun v => B.testBit v) L caps L.length) := rfl
      generalize leastN (okC sn tn) (wtC L caps) B = best at *
      cases h1 : B.testBit sn
      · rw [bitI, h1] at b1
        simp only [Bool.false_eq_true, if_false] at b1
        have HN2 := Lib.hid (HN1.out (fun h => by rw [OKC.out, h1] at h; simp at h))
        clear HY1 HN1 WC h1 b2
        go_wp2
        go_roundw
        case rel => exact ⟨B + 1, by rw [HP.out]; omega, by go_num, by rw [HN2.out], G.out, OB.out⟩
        case measure => simp [intOf]; omega
      · rw [bitI, h1] at b1
        simp only [if_true] at b1
        cases h2 : B.testBit tn
        case true =>
          rw [bitI, h2] at b2
          simp only [if_true] at b2
          have HN2 := Lib.hid (HN1.out (fun h => by rw [OKC.out, h1, h2] at h; simp at h))
          clear HY1 HN1 WC h1 h2
          go_wp2
          go_roundw
          case rel => exact ⟨B + 1, by rw [HP.out]; omega, by go_num, by rw [HN2.out], G.out, OB.out⟩
          case measure => simp [intOf]; omega
        rw [bitI, h2] at b2
        simp only [Bool.false_eq_true, if_false] at b2
        have HOK : Hid (okC sn tn B = true) := by rw [Hid, OKC.out, h1, h2]; rfl
        clear OKC h1 h2
        go_upto_region 6 with fail
        have HS := Lib.hid OB.out.two
        have GK := Lib.hid (World.grownBy.refl wr none)
        have C2 : Hid (∀ (wx : World) (Av : Option Addr) (cv : Nat), wr.grownBy wx none → Row wx wx.heap.size Av (pick (fun v => B.testBit v) vn).length (pick (fun v => B.testBit v) vn) → Calls Try.prog 28 #[.agg #[.int .i64 (vn : Nat), .slice A n c], .slice Y p e0, .slice Av (pick (fun v => B.testBit v) vn).length cv] wx (Says wx (.tuple #[.int .i64 (cutW (fun v => B.testBit v) L caps L.length), .int .i64 0]))) := fun wx Av cv g r => by
          have k := RWorth_any (vn : Nat) A n c L Y p e0 caps Av (pick (fun v => B.testBit v) vn).length cv (pick (fun v => B.testBit v) vn) wx (HR.out.grown hB (grown_trans G.out g)) (by have := (grown_trans G.out g).size; omega) (HY.out.grown hB'' (grown_trans G.out g)) (by have := (grown_trans G.out g).size; omega) r (Nat.le_refl _)
          rw [WC.out] at k
          exact k
        have C1 := Lib.hid (fun wx => RSet_any vn B A n c wx (by omega) (by omega))
        clear WC
        generalize cutW (fun v => B.testBit v) L caps L.length = wt at *
        generalize pick (fun v => B.testBit v) vn = xs at *
        go_region_held3 (fun w' : World => w'.cell? ⟨w.heap.size, 0, none⟩ = some (.int .i64 (vn : Nat)) ∧ w'.cell? ⟨w.heap.size, 1, none⟩ = some (.slice A n c))
          (exact HS.out)
          (first
            | (go_at_call 29; refine (C1.out _).mono ?_; rintro e w8 ⟨v, rfl, mv, g⟩; obtain ⟨Av, cv, rfl, _, _, rv⟩ := mv.rowN OKP.out; have RV := Lib.hid rv; have GK : Hid (wr.grownBy w8 none) := (by first | exact grown_trans GK.out g | exact grown_trans (grown_drew GK.out) g | exact grown_trans (grown_drewN GK.out _) g); have HS := Lib.hid (held2L g HS.out); clear g mv rv)
            | (go_at_call 28; refine (C2.out _ Av cv (by first | exact GK.out | exact grown_drew GK.out | exact grown_drewN GK.out _) (by first | exact RV.out | exact RV.out.drewN _)).mono ?_; rintro e w9 ⟨rfl, g⟩; have GK : Hid (wr.grownBy w9 none) := (by first | exact grown_trans GK.out g | exact grown_trans (grown_drew GK.out) g | exact grown_trans (grown_drewN GK.out _) g); have HS := Lib.hid (held2L g HS.out); clear g))
        have G9 := Lib.hid (grown_trans G.out GK.out)
        have OB9 := Lib.hid (OB.out.kept GK.out)
        clear GK HS C1 C2 RV G OB p0 p1
        by_cases hw2 : wt < best
        · have HY2 := Lib.hid (HY1.out HOK.out (by rw [HWT.out]; exact hw2))
          clear HY1 HN1
          go_wp2
          go_roundw
          case rel => exact ⟨B + 1, by rw [HP.out]; omega, by go_num, by rw [HY2.out, HWT.out], G9.out, OB9.out⟩
          case measure => simp [intOf]; omega
        · have HN2 := Lib.hid (HN1.out (fun h => hw2 (by rw [← HWT.out]; exact h.2)))
          clear HY1 HN1
          go_wp2
          go_roundw
          case rel => exact ⟨B + 1, by rw [HP.out]; omega, by go_num, by rw [HN2.out], G9.out, OB9.out⟩
          case measure => simp [intOf]; omega
    · obtain rfl : B = P := by omega
      go_wp2
      go_ret
      exact ⟨by rw [HP.out]; rfl, G.out⟩

end Go.Proofs.Ytlpohlcmjnlbhaa
