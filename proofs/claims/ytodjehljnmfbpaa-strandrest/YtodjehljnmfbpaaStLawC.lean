/-
  The laws StrandRest and StrandForms, walked.
-/
import Derived.Test.YtodjehljnmfbpaaStrandG
import Derived.Test.YtodjehljnmfbpaaLevelLawC
set_option maxRecDepth 20000
namespace Go.Proofs.Ytodjehljnmfbpaa
open Go.RowKit

def SFormMid (w : World) (b : Nat) (v x : Value) (wx : World) : Prop :=
  ∃ (f : List Int) (s t : Int), v = .int .i64 s ∧ x = .int .i64 t ∧ Row wx wx.heap.size (some ⟨b, 0, none⟩) 3 f ∧ flowB 3 smallL f f s t = false ∧ w.grownBy wx none

theorem sform_t {y : Nat} : flowB 3 smallL [4, 4, 3] [4, 4, 3] 0 (3 + (y : Int)) = false := by
  have : isV 3 (3 + (y : Int)) = false := isV_no1 (by omega)
  simp [flowB, this]

theorem Split_none {V s t : Int} {ls : List Lk} {f : List Int} {ps : List Pth} {z : Int} (h : flowB V ls f f s t = false) (hb : SplitIs V ls f s t ps z) : z = 1500 ∧ ps = [] := by
  rcases hb with ⟨h1, _⟩ | ⟨_, h2⟩
  · rw [h] at h1; cases h1
  · exact h2

set_option maxHeartbeats 8000000 in
theorem StrandForms_walk (a x : Int) (w : World) : Calls Try.prog 7 #[.int .i64 a, .int .i64 x] w (LawPost w) := by
  have g0 := grow0 w (.cells (ints [4, 4, 3]).toArray 3)
  have o1 := Own.new w 3 (ints [4, 4, 3])
  obtain ⟨y, hy, hyb⟩ := and_1023 x
  have HY := Lib.hid hyb
  clear hyb
  have G := Lib.hid g0
  have O1 := Lib.hid o1
  clear g0 o1
  go_enter Try.func7, Try.ntmps7
  go_upto_block 0 with fail
  rw [show w.alloc (.cells (ints [4, 4, 3]).toArray 3) = w.alloc (.cells #[.int .i64 4, .int .i64 4, .int .i64 3] 3) from rfl] at G O1
  generalize bits BinOp.and IntKind.i64 a 3 = m
  generalize w.alloc (.cells #[.int .i64 4, .int .i64 4, .int .i64 3] 3) = w2 at *
  have hw2 := G.out.size
  generalize hb : w.heap.size = b at *
  have d1 : w2.cell? ⟨b, 0, none⟩ = some (.int .i64 4) := O1.out.cell 0
  have d2 : w2.cell? ⟨b, 2, none⟩ = some (.int .i64 3) := O1.out.cell 2
  have f1 := O1.out.frozen 0
  have f2 := O1.out.frozen 2
  have hyw : bits BinOp.and IntKind.i64 x 1023 = (y : Int) := HY.out
  have RF := Lib.hid (Own.rowW (n := 3) [4, 4, 3] O1.out rfl (by decide) (okI_of (by decide)))
  go_cut [6, 7] (fun v x wx => SFormMid w b v x wx)
  case first =>
    by_cases m0 : m = 0
    · subst m0
      have HF : Hid (SFormMid w b (.int .i64 0) (.int .i64 2) (w2.setCell ⟨b, 0, none⟩ (.int .i64 3))) :=
        ⟨[3, 4, 3], 0, 2, rfl, rfl, Own.rowW [3, 4, 3] (O1.out.put _) rfl (by decide) (okI_of (by decide)), by decide, grown_new G.out (by omega) _⟩
      go_wp2
      go_meet
      exact HF.out
    have m0b : (m == 0) = false := by simp [m0]
    by_cases m1 : m = 1
    · subst m1
      have HF : Hid (SFormMid w b (.int .i64 0) (.int .i64 2) (w2.setCell ⟨b, 2, none⟩ (.int .i64 4))) :=
        ⟨[4, 4, 4], 0, 2, rfl, rfl, Own.rowW [4, 4, 4] (O1.out.put _) rfl (by decide) (okI_of (by decide)), by decide, grown_new G.out (by omega) _⟩
      go_wp2
      go_meet
      exact HF.out
    have m1b : (m == 1) = false := by simp [m1]
    by_cases m2 : m = 2
    · subst m2
      have HF : Hid (SFormMid w b (.int .i64 2) (.int .i64 0) w2) :=
        ⟨[4, 4, 3], 2, 0, rfl, rfl, RF.out, by decide, G.out⟩
      go_wp2
      go_meet
      exact HF.out
    have m2b : (m == 2) = false := by simp [m2]
    have hwy : IntKind.i64.wrap (3 + (y : Int)) = 3 + (y : Int) := IntWalk.i64_in _ (by omega)
    have HF : Hid (SFormMid w b (.int .i64 0) (.int .i64 (3 + (y : Int))) w2) :=
      ⟨[4, 4, 3], 0, 3 + (y : Int), rfl, rfl, RF.out, sform_t, G.out⟩
    go_wp2
    go_meet
    exact HF.out
  case rest =>
    clear RF G O1 d1 d2 f1 f2
    obtain ⟨f, s, t, rfl, rfl, rf, hl, gx⟩ := hcut
    have RF := Lib.hid rf
    have HLB := Lib.hid hl
    have GX := Lib.hid gx
    clear rf hl gx
    go_wp2_with fail
    refine (small15_any _).mono ?_
    rintro e w4 ⟨gs, rfl, ol, _, k⟩
    have HLK := Lib.hid (Own.lks' smallL 3 rfl (by decide) (by decide) ol)
    have RF := Lib.hid ((RF.out.grown (Nat.le_refl _) k).wide k.size)
    have GX := Lib.hid (grown_trans GX.out k)
    clear k ol
    go_wp2_with fail
    refine (Split_any 3 s t (some ⟨gs, 0, none⟩) 3 3 smallL (some ⟨b, 0, none⟩) 3 3 f _ HLK.out (Nat.le_refl _) RF.out (Nat.le_refl _)).mono ?_
    rintro e w5 ⟨ps, z, hbk, va, rfl, ha, k⟩
    obtain ⟨rfl, rfl⟩ := Split_none HLB.out hbk
    obtain ⟨Aa, ca, rfl⟩ := ha.sl
    have GX := Lib.hid (grown_trans GX.out k)
    clear k ha hbk
    go_wp2_with fail
    refine (awake15_any _).mono ?_
    rintro e w6 ⟨rfl, k⟩
    have GX := Lib.hid (grown_trans GX.out k)
    clear k
    go_wp2_with fail
    refine (num_says _ _).mono ?_
    rintro e w7 ⟨rfl, k⟩
    have GX := Lib.hid (grown_trans GX.out k)
    clear k
    go_wp2
    go_ret
    subst hb
    exact ⟨rfl, below_of GX.out⟩

/-- What is left, link by link, so far. -/
def restK (f l : List Int) (k : Nat) : List Int := (List.range f.length).map fun i => if i < k then f[i]?.getD 0 - l[i]?.getD 0 else f[i]?.getD 0

theorem rest_len (f l : List Int) (k : Nat) : (restK f l k).length = f.length := by simp [restK]
theorem rest_at {f l : List Int} {k i : Nat} (h : i < f.length) : (restK f l k)[i]?.getD 0 = if i < k then f[i]?.getD 0 - l[i]?.getD 0 else f[i]?.getD 0 := by simp [restK, h]
theorem rest_zero (f l : List Int) : restK f l 0 = f := by
  apply List.ext_getElem (by simp [restK])
  intro i h1 h2
  simp [restK, h2]
theorem rest_next {f l : List Int} {k : Nat} : (restK f l k).set k (f[k]?.getD 0 - l[k]?.getD 0) = restK f l (k + 1) := by
  apply List.ext_getElem (by simp [restK])
  intro i h1 h2
  rw [List.getElem_set]
  by_cases e : k = i
  · subst e
    simp [restK]
  · rw [if_neg e]
    simp only [restK, List.getElem_map, List.getElem_range]
    by_cases q : i < k
    · rw [if_pos q, if_pos (by omega)]
    · rw [if_neg q, if_neg (by omega)]

def RsRel (w : World) (base vn : Nat) (A : Option Addr) (n c : Nat) (f l : List Int) (Al : Option Addr) (Ar : Option Addr) (cr : Nat) (i : Value) (wr : World) : Prop :=
  ∃ k : Nat, k ≤ n ∧ i = .int .i64 (k : Nat) ∧ w.grownBy wr none ∧ Own wr w.heap.size 24 [.int .i64 (vn : Nat), .slice A n c] ∧ Row wr base Al n l ∧ Mine wr base (.slice Ar n cr) n (restK f l k) ∧ base ≤ wr.heap.size

def GnRel15 (w : World) (vn : Nat) (A : Option Addr) (n c : Nat) (r : List Int) (Ar : Option Addr) (i : Value) (wr : World) : Prop :=
  ∃ k : Nat, k ≤ vn ∧ i = .int .i64 (k : Nat) ∧ w.grownBy wr none ∧ Own wr w.heap.size 24 [.int .i64 (vn : Nat), .slice A n c] ∧ Row wr wr.heap.size Ar n r

set_option maxHeartbeats 4000000 in
theorem StrandRest_walk (V : Int) (A : Option Addr) (n c : Nat) (ls : List Lk) (X : Option Addr) (m d : Nat) (f : List Int) (s t : Int) (w : World) (h : InG w A n c ls) (hX : In w X m d f) :
    Calls Try.prog 6 #[.agg #[.int .i64 V, .slice A n c], .slice X m d, .int .i64 s, .int .i64 t] w (LawPost w) := by
  obtain ⟨hs, hnc, hc, hnil⟩ := h
  obtain ⟨hx, hpd, hd, hnilx⟩ := hX
  have HR := Lib.hid hs
  have HL := Lib.hid hs.len
  have HX := Lib.hid hx
  have HLX := Lib.hid hx.len
  have HNIX := Lib.hid hnilx
  have HG0 := Lib.hid (grow0 w (.cells #[.int .i64 V, .slice A n c] 24))
  clear hs hnil hx hnilx
  go_enter Try.func6, Try.ntmps6
  go_wp2_with fail
  refine (Split_any V s t A n c ls X m d f _ (HR.out.grown (Nat.le_refl _) HG0.out) (by simp) (HX.out.grown (Nat.le_refl _) HG0.out) (by simp)).mono ?_
  rintro e w1 ⟨ps, z, hb, v1, rfl, h1, k⟩
  obtain ⟨g1, ob⟩ := box1 [.int .i64 V, .slice A n c] k
  have HB := Lib.hid hb
  have M1 := Lib.hid h1
  have G := Lib.hid g1
  have OB := Lib.hid ob
  clear k ob g1 HG0 hb h1
  obtain ⟨p0, p1⟩ := OB.out.two
  go_wp2_with fail
  refine (num_says _ _).mono ?_
  rintro e w2 ⟨rfl, k⟩
  have G := Lib.hid (grown_trans G.out k)
  have OB := Lib.hid (OB.out.kept k)
  have M1 := Lib.hid (M1.out.kept k)
  clear k p0 p1
  obtain ⟨p0, p1⟩ := OB.out.two
  cases hfl : flowB V ls f f s t
  · obtain ⟨rfl, rfl⟩ := Split_none hfl HB.out
    clear hfl
    go_wp2
    go_ret
    exact ⟨rfl, below_of G.out⟩
  obtain ⟨hm, hcf⟩ := flow_v hfl
  have h16 := may_small hm
  rw [HL.out] at h16
  obtain ⟨vn, rfl⟩ : ∃ vn : Nat, V = (vn : Nat) := ⟨V.toNat, by omega⟩
  obtain ⟨rfl, sf⟩ := split_flow hfl HB.out
  obtain ⟨hp16, hok, hoks⟩ := splitF_ok hfl sf
  have hmn : m = n := by have := (capsB_parts hcf).1; have := HL.out; have := HLX.out; omega
  subst hmn
  obtain ⟨Ab, cb, rfl, rP⟩ := M1.out.pths hp16 hok hoks
  have RP := Lib.hid rP
  have HM := Lib.hid hm
  have HCF := Lib.hid hcf
  have SF := Lib.hid sf
  have LV := Lib.hid sf.loads
  have LE := Lib.hid sf.err
  have WI := Lib.hid sf.within
  have hll : (loadsQ ls.length (pairsOf ps)).length = m := by rw [loadsQ_len, HL.out]
  have OKL : Hid (okI (loadsQ ls.length (pairsOf ps))) := fun i => by
    have := loads_bd (V := (vn : Nat)) (L := ls) (ps := ps) i
    rw [LV.out] at this
    omega
  clear hm hcf hfl hp16 hok hoks rP M1 HB sf
  generalize hQ : loadsQ ls.length (pairsOf ps) = Q at *
  generalize ps.length = pl at *
  go_wp2_with fail
  refine (RLoads_any (vn : Nat) A m c ls Ab pl cb ps _ (HR.out.grown (Nat.le_refl _) G.out) G.out.size RP.out (Nat.le_refl _)).mono ?_
  rintro e w3 ⟨v3, he, h3, k⟩
  rw [LE.out] at he
  subst he
  rw [LV.out] at h3
  obtain ⟨Al, cl, rfl, _, _, rl⟩ := h3.rowN OKL.out
  rw [hll] at rl ⊢
  have RL := Lib.hid rl
  have G := Lib.hid (grown_trans G.out k)
  have OB := Lib.hid (OB.out.kept k)
  clear k h3 rl p0 p1 RP
  obtain ⟨p0, p1⟩ := OB.out.two
  have qn : ((m : Int) != (m : Int)) = false := by simp
  go_wp2_with fail
  refine (RWithin_any X m d f Al m cl _ _ (HX.out.grown (Nat.le_refl _) G.out) RL.out).mono ?_
  rintro e w4 ⟨he, k⟩
  rw [WI.out] at he
  subst he
  have RL := Lib.hid ((RL.out.grown (Nat.le_refl _) k).wide k.size)
  have G := Lib.hid (grown_trans G.out k)
  have OB := Lib.hid (OB.out.kept k)
  clear k p0 p1
  go_wp2_with fail
  refine (CopyInts_any X m d f _ (HX.out.grown (Nat.le_refl _) G.out) G.out.size HNIX.out (by omega)).mono ?_
  rintro e w5 ⟨v5, rfl, m5, bel⟩
  have k := grown_of_below bel
  have s5 := k.size
  have l4 := OB.out.lt
  obtain ⟨Ar, cr, rfl, _⟩ := m5.sl
  rw [← rest_zero f Q] at m5
  have HS : Hid (RsRel w w4.heap.size vn A m c f Q Al Ar cr (.int .i64 0) w5) := ⟨0, Nat.zero_le _, rfl, grown_trans G.out k, OB.out.kept k, RL.out.grown (Nat.le_refl _) k, m5, s5⟩
  have RB : Hid (∀ i, i < m → 0 ≤ Q[i]?.getD 0 ∧ Q[i]?.getD 0 ≤ f[i]?.getD 0 ∧ f[i]?.getD 0 ≤ 4611686018427387904) := fun i hi => by
    have a := rates_at WI.out (i := i) (by rw [HLX.out]; exact hi)
    have b := f_bd HCF.out (k := i) (by rw [HL.out]; exact hi)
    have c := may_sum HM.out (i + 1) (by rw [HL.out]; omega)
    have e := (gk_bd (f := f) 0 HCF.out i (by rw [HL.out]; omega)).1
    rw [capSum] at c
    omega
  have hw4 : w.heap.size < w4.heap.size := l4
  clear bel k m5 G OB RL
  generalize w4.heap.size = wb at *
  go_wp2
  go_loopw [14] (fun i wr => RsRel w wb vn A m c f Q Al Ar cr i wr) (fun i _ => m - (intOf i).toNat)
  case atStart => exact HS.out
  case round =>
    clear HS
    obtain ⟨k, hk, rfl, hg, ob, rl, mr, hwb⟩ := hrel
    have G := Lib.hid hg
    have OB := Lib.hid ob
    have RL := Lib.hid rl
    have MR := Lib.hid mr
    obtain ⟨p0, p1⟩ := ob.two
    by_cases hlt : k < m
    · obtain ⟨q0, q1, q2⟩ := RB.out k hlt
      have OKR : okI (restK f Q k) := fun i => by
        by_cases hi : i < m
        · rw [rest_at (by rw [HLX.out]; exact hi)]
          have := RB.out i hi
          split <;> omega
        · rw [List.getElem?_eq_none (by rw [rest_len, HLX.out]; omega)]; simp
      obtain ⟨gr, cr2, hA, hcc, hgr, re⟩ := mr.shape (by omega) OKR
      injection hA with hA _ hcr
      subst hA hcr
      obtain ⟨bb, oo, hA2, _, hcell⟩ := re.at_ (by omega)
      injection hA2 with hA2
      injection hA2 with e1 e2
      subst e1 e2
      have x0 := hcell k hlt
      rw [rest_at (by rw [HLX.out]; exact hlt), if_neg (Nat.lt_irrefl k), Nat.zero_add] at x0
      obtain ⟨bl, ol, rfl, hbl, hcl⟩ := rl.at_ (by omega)
      have d0 := hcl k hlt
      have f0 := mr.frozen k
      have hwx : IntKind.i64.wrap (f[k]?.getD 0 - Q[k]?.getD 0) = f[k]?.getD 0 - Q[k]?.getD 0 := IntWalk.i64_in _ (by omega)
      have M4 := mr.set k (f[k]?.getD 0 - Q[k]?.getD 0) hlt
      rw [rest_next] at M4
      have k4 : wr.grownBy (wr.setCell ⟨gr, k, none⟩ (.int .i64 (f[k]?.getD 0 - Q[k]?.getD 0))) (some gr) := grown_set (World.grownBy.refl wr _) _
      have hgw : wb ≤ gr := hgr
      have M5 := Lib.hid (M4.kept (grown_drew (World.grownBy.refl _ none)))
      have k5 := grown_drew k4
      have G5 := Lib.hid (grown_none hg k5 (fun g hg => by injection hg with hg; omega))
      have O5 := Lib.hid (ob.kept' k5 (fun e => by injection e with e; omega))
      have R5 := Lib.hid (rl.grown' hwb k5 (fun g hg => by injection hg with hg; omega))
      have S5 : Hid (wb ≤ (wr.setCell ⟨gr, k, none⟩ (.int .i64 (f[k]?.getD 0 - Q[k]?.getD 0))).drew.heap.size) := Nat.le_trans hwb k5.size
      clear hcell re hcl hg ob rl mr OKR M4 k4 k5 G OB RL MR
      generalize f[k]?.getD 0 = fx at *
      generalize Q[k]?.getD 0 = qx at *
      go_upto_region 11 with fail
      go_still_tail 12, (by kernel_rfl)
      go_wp2
      go_roundw
      case rel => exact ⟨k + 1, by omega, by go_num, G5.out, O5.out, R5.out, M5.out, S5.out⟩
      case measure => simp [intOf]; omega
    · obtain rfl : k = m := by omega
      have hrl : (restK f Q k).length = k := by rw [rest_len, HLX.out]
      have hat : ∀ i, i < k → (restK f Q k)[i]?.getD 0 = f[i]?.getD 0 - Q[i]?.getD 0 := fun i hi => by rw [rest_at (by rw [HLX.out]; exact hi), if_pos hi]
      have HCR : Hid (capsB ls (restK f Q k) = true) := by
        refine caps_in HCF.out (ratesB_mk (by rw [hrl, HLX.out]) fun i hi => ?_)
        unfold capI
        have hi : i < k := by rw [HLX.out] at hi; exact hi
        rw [hat i hi]
        have := RB.out i hi
        omega
      have HZ : Hid (∀ v : Nat, v < vn → gainOf ls (restK f Q k) (v : Int) = 0) := fun v hv => by
        refine split_rest SF.out (fun i => ?_) hv
        rw [hQ]
        by_cases hi : i < k
        · exact hat i hi
        · rw [List.getElem?_eq_none (by omega), List.getElem?_eq_none (by rw [HLX.out]; omega), List.getElem?_eq_none (by omega)]
          rfl
      have OKR : okI (restK f Q k) := fun i => by
        by_cases hi : i < k
        · rw [hat i hi]
          have := RB.out i hi
          omega
        · rw [List.getElem?_eq_none (by omega)]; simp
      have rr := mr.rowAt OKR
      clear hat hrl OKR RB hg ob rl mr RL MR
      generalize restK f Q k = rK at *
      have GS : Hid (GnRel15 w vn A k c rK Ar (.int .i64 0) wr) := ⟨0, Nat.zero_le _, rfl, G.out, OB.out, rr⟩
      clear G OB p0 p1 rr
      go_wp2
      go_loopw [15] (fun i wr => GnRel15 w vn A k c rK Ar i wr) (fun i _ => vn - (intOf i).toNat)
      case atStart => exact GS.out
      case round =>
        clear GS
        obtain ⟨v, hv, rfl, hg, ob, rr⟩ := hrel
        have G := Lib.hid hg
        have OB := Lib.hid ob
        have RR := Lib.hid rr
        obtain ⟨p0, p1⟩ := ob.two
        clear hg ob rr
        by_cases hlt : v < vn
        · have hz := HZ.out v hlt
          go_wp2_with fail
          refine (RGain_any (vn : Nat) A k c ls Ar k cr rK (v : Nat) _ (HR.out.grown (Nat.le_refl _) G.out) RR.out HM.out HCR.out).mono ?_
          rintro e w7 ⟨he, k7⟩
          rw [hz] at he
          subst he
          have G := Lib.hid (grown_trans G.out k7)
          have OB := Lib.hid (OB.out.kept k7)
          have RR := Lib.hid ((RR.out.grown (Nat.le_refl _) k7).wide k7.size)
          clear k7 p0 p1 hz
          go_wp2
          go_roundw
          case rel => exact ⟨v + 1, by omega, by go_num, G.out, OB.out, RR.out⟩
          case measure => simp [intOf]; omega
        · obtain rfl : v = vn := by omega
          go_wp2_with fail
          refine (awake15_any _).mono ?_
          rintro e w7 ⟨rfl, k7⟩
          have G := Lib.hid (grown_trans G.out k7)
          clear k7
          go_wp2
          go_ret
          exact ⟨rfl, below_of G.out⟩

end Go.Proofs.Ytodjehljnmfbpaa
