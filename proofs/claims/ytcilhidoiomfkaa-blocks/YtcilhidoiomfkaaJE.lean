/-
  The law Blocks, walked: a flow that is more by as much as is told, over arcs that step, and blocks them, or is all that was asked for.
-/
import Derived.Test.YtcilhidoiomfkaaJB
import Derived.Test.YtcilhidoiomfkaaJA

namespace Go.Proofs.Ytcilhidoiomfkaa
open Go.RowKit

/-- Does it step, and has it room still? -/
def openB (ls : List Lk) (caps f b M : List Int) (a : Nat) : Bool := decide (StepsA ls caps f M a) && decide (0 < roomI caps b (a : Int))

def BlkLoop (w6 : World) (q : Nat) (i : Value) (wr : World) : Prop := ∃ k : Nat, k ≤ q ∧ i = .int .i64 (k : Nat) ∧ w6.grownBy wr none

def BlkShutRel (w : World) (w5 : World) (gs vn : Nat) (A : Option Addr) (n c : Nat) (ls : List Lk) (caps f b M : List Int) (m2 : Nat) (i : Value) (wr : World) : Prop :=
  ∃ (k : Nat) (T : List Bool), k ≤ m2 ∧ i = .int .i64 (k : Nat) ∧ w5.grownBy wr none ∧ Own wr w.heap.size 24 [.int .i64 (vn : Nat), .slice A n c] ∧ Own wr gs 4 (bools T) ∧ T.length = m2 ∧ (∀ a, a < k → T[a]?.getD false = openB ls caps f b M a) ∧ ∀ a, k ≤ a → a < m2 → T[a]?.getD false = decide (StepsA ls caps f M a)

theorem shut_next {ls : List Lk} {caps f b M : List Int} {T : List Bool} {k m2 : Nat} (hk : k < m2) (hl : T.length = m2) (h1 : ∀ a, a < k → T[a]?.getD false = openB ls caps f b M a) (h2 : ∀ a, k ≤ a → a < m2 → T[a]?.getD false = decide (StepsA ls caps f M a)) :
    (∀ a, a < k + 1 → (T.set k (openB ls caps f b M k))[a]?.getD false = openB ls caps f b M a) ∧ ∀ a, k + 1 ≤ a → a < m2 → (T.set k (openB ls caps f b M k))[a]?.getD false = decide (StepsA ls caps f M a) := by
  constructor
  · intro a ha
    by_cases e : a = k
    · subst e
      rw [List.getElem?_set_self (by omega)]
      rfl
    · rw [List.getElem?_set_ne (by omega)]
      exact h1 a (by omega)
  · intro a ha hb
    rw [List.getElem?_set_ne (by omega)]
    exact h2 a (by omega) hb

theorem shut_end {vn : Nat} {ls : List Lk} {caps f b M : List Int} {s t most k : Int} {T : List Bool} (hb : BlkIs vn ls caps f s t most b k M) (hk : k ≠ most) (hl : T.length = 2 * ls.length) (h1 : ∀ a, a < 2 * ls.length → T[a]?.getD false = openB ls caps f b M a) : ¬ Way ls (lets T) (2 * ls.length) s t := by
  intro w
  rcases hb.shut with e | e
  · exact hk e
  · refine e (w.mono fun a ha => ?_)
    unfold lets at ha
    by_cases hlt : a < 2 * ls.length
    · rw [h1 a hlt, openB, Bool.and_eq_true] at ha
      exact ⟨of_decide_eq_true ha.1, of_decide_eq_true ha.2⟩
    · rw [List.getElem?_eq_none (by omega)] at ha
      cases ha

theorem Block_none2 {V s t most : Int} {ls : List Lk} {caps f b : List Int} {k z : Int} (h : blkB V ls caps f s t most = false) (hb : BlockIs V ls caps f s t most b k z) : z = 1100 ∧ b = [] ∧ k = 0 := by
  rcases hb with ⟨h1, _⟩ | ⟨_, h2⟩
  · rw [h] at h1; cases h1
  · exact h2

theorem RWays_m (vn : Nat) (A : Option Addr) (n c : Nat) (ls : List Lk) (gb cb : Nat) (bs : List Bool) (s t : Nat) (w : World) {B m2 : Nat} (e : 2 * n = m2) (h : Lks w B A n ls) (hB : B ≤ w.heap.size) (hb : Own w gb 4 (bools bs)) (hl : bs.length = m2) (hm : mayG (vn : Nat) ls = true) (hs : s < vn) (ht : t < vn) :
    Calls Try.prog 16 #[.agg #[.int .i64 (vn : Nat), .slice A n c], .slice (some ⟨gb, 0, none⟩) m2 cb, .int .i64 (s : Nat), .int .i64 (t : Nat)] w (WaysPost w (Way ls (lets bs) m2 (s : Int) (t : Int))) := by
  subst e
  exact RWays_any vn A n c ls gb cb bs s t w h hB hb hl hm hs ht

def BlkMid (w5 : World) (b : Value) (wx : World) : Prop := b = .bool false ∧ w5.grownBy wx none

set_option maxRecDepth 20000 in
set_option maxHeartbeats 40000000 in
theorem Blocks_walk (V : Int) (A : Option Addr) (n c : Nat) (ls : List Lk) (X : Option Addr) (p d : Nat) (caps : List Int) (Y : Option Addr) (q f0 : Nat) (f : List Int) (s t most : Int) (w : World) (h : InG w A n c ls) (hX : In w X p d caps) (hY : In w Y q f0 f) :
    Calls Try.prog 3 #[.agg #[.int .i64 V, .slice A n c], .slice X p d, .slice Y q f0, .int .i64 s, .int .i64 t, .int .i64 most] w (LawPost w) := by
  obtain ⟨hs, hnc, hc, hnil⟩ := h
  obtain ⟨hx, hpd, hd, hnilx⟩ := hX
  obtain ⟨hy, hqf, hf, hnily⟩ := hY
  have HR := Lib.hid hs
  have HL := Lib.hid hs.len
  have HX := Lib.hid hx
  have HY := Lib.hid hy
  have HLX := Lib.hid hx.len
  have HLY := Lib.hid hy.len
  have HNIX := Lib.hid hnilx
  have HNIY := Lib.hid hnily
  have HX1 := Lib.hid (hx.grown (Nat.le_refl _) (grow0 w (.cells #[.int .i64 V, .slice A n c] 24)))
  clear hs hnil hx hnilx hy hnily
  go_enter Try.func3, Try.ntmps3
  go_wp2_with fail
  refine (LendInts_any X p d caps _ HX1.out (by simp) HNIX.out (by omega)).mono ?_
  rintro e w2 ⟨gl, cl, rfl, hcl, hrow, bel⟩
  obtain ⟨g1, ob⟩ := box1 [.int .i64 V, .slice A n c] (grown_of_below bel)
  have RX := Lib.hid hrow
  have G := Lib.hid g1
  have OB := Lib.hid ob
  have s2 := g1.size
  clear bel g1 ob hrow HX1
  go_wp2_with fail
  refine (LendInts_any Y q f0 f _ (HY.out.grown (Nat.le_refl _) G.out) G.out.size HNIY.out (by omega)).mono ?_
  rintro e w3 ⟨gm, cm, rfl, hcm, hrow, bel⟩
  have k := grown_of_below bel
  have s3 := k.size
  have RY := Lib.hid hrow
  have G := Lib.hid (grown_trans G.out k)
  have OB := Lib.hid (OB.out.kept k)
  have RX := Lib.hid ((RX.out.grown (Nat.le_refl _) k).wide s3)
  clear hrow bel k
  obtain ⟨p0, p1⟩ := OB.out.two
  go_wp2_with fail
  refine (Block_any V s t most A n c ls (some ⟨gl, 0, none⟩) p cl caps (some ⟨gm, 0, none⟩) q cm f _ (HR.out.grown (Nat.le_refl _) G.out) G.out.size (RX.out.unmark HLX.out) (Nat.le_refl _) (RY.out.unmark HLY.out) (Nat.le_refl _)).mono ?_
  rintro e w4 ⟨b, kk, z, hb, v4, rfl, h4, k⟩
  obtain ⟨okb, _⟩ := Block_okI hb
  obtain ⟨Ab, cb, rfl, _, _, rB⟩ := h4.rowN okb
  have HB := Lib.hid hb
  have RB := Lib.hid rB
  have s4 := k.size
  have G := Lib.hid (grown_trans G.out k)
  have OB := Lib.hid (OB.out.kept k)
  have RY := Lib.hid ((RY.out.grown (Nat.le_refl _) k).wide s4)
  have RX := Lib.hid ((RX.out.grown (Nat.le_refl _) k).wide s4)
  clear k p0 p1 h4 rB okb hb
  obtain ⟨p0, p1⟩ := OB.out.two
  unfold blkV
  go_wp2_with fail
  refine (RFlow_any V s t A n c ls X p d caps Y q f0 f _ (HR.out.grown (Nat.le_refl _) G.out) G.out.size (HX.out.grown (Nat.le_refl _) G.out) G.out.size (HY.out.grown (Nat.le_refl _) G.out) G.out.size).mono ?_
  rintro e w5 ⟨rfl, k⟩
  have s5 := k.size
  have G := Lib.hid (grown_trans G.out k)
  have OB := Lib.hid (OB.out.kept k)
  have RB := Lib.hid ((RB.out.grown (Nat.le_refl _) k).wide s5)
  have RY := Lib.hid ((RY.out.grown (Nat.le_refl _) k).wide s5)
  have RX := Lib.hid ((RX.out.grown (Nat.le_refl _) k).wide s5)
  clear k p0 p1
  cases hbl : blkB V ls caps f s t most
  · obtain ⟨rfl, rfl, rfl⟩ := Block_none2 hbl HB.out
    have NOT := Lib.hid hbl
    clear HB
    cases hfl : flowB V ls caps f s t
    · clear hbl hfl
      go_wp2_with fail
      refine (awake11_any _).mono ?_
      rintro e w6 ⟨rfl, k⟩
      have G := Lib.hid (grown_trans G.out k)
      clear k
      go_wp2_with fail
      refine (num_says _ _).mono ?_
      rintro e w7 ⟨rfl, k⟩
      have G := Lib.hid (grown_trans G.out k)
      clear k
      go_wp2
      go_ret
      exact ⟨rfl, below_of G.out⟩
    by_cases m0 : most < 0
    · clear hbl hfl
      go_wp2_with fail
      refine (awake11_any _).mono ?_
      rintro e w6 ⟨rfl, k⟩
      have G := Lib.hid (grown_trans G.out k)
      clear k
      go_wp2_with fail
      refine (num_says _ _).mono ?_
      rintro e w7 ⟨rfl, k⟩
      have G := Lib.hid (grown_trans G.out k)
      clear k
      go_wp2
      go_ret
      exact ⟨rfl, below_of G.out⟩
    by_cases m1 : 4611686018427387904 < most
    · clear hbl hfl
      go_wp2_with fail
      refine (awake11_any _).mono ?_
      rintro e w6 ⟨rfl, k⟩
      have G := Lib.hid (grown_trans G.out k)
      clear k
      go_wp2_with fail
      refine (num_says _ _).mono ?_
      rintro e w7 ⟨rfl, k⟩
      have G := Lib.hid (grown_trans G.out k)
      clear k
      go_wp2
      go_ret
      exact ⟨rfl, below_of G.out⟩
    · rw [blkB_mk hfl (by omega) (by omega)] at hbl
      cases hbl
  obtain ⟨hfl, m0, m1⟩ := blkB_parts hbl
  have h8 := may_small (fits_parts (flow_may hfl)).1
  obtain ⟨vn, rfl⟩ : ∃ vn : Nat, V = (vn : Nat) := ⟨V.toNat, by omega⟩
  obtain ⟨hfit, hs2, ht2, _⟩ := flow_parts hfl
  obtain ⟨M, hM⟩ := lev_there (caps := caps) (f := f) (fits_parts hfit).1 rfl hs2
  obtain ⟨rfl, hbk⟩ := block_yes hbl HB.out hM
  have LV := Lib.hid hM
  have BK := Lib.hid hbk
  have HFIT := Lib.hid hfit
  have HMAY := Lib.hid (fits_parts hfit).1
  have HCF := Lib.hid (fits_parts hfit).2.2.2
  have HFB := Lib.hid hbk.flow
  have HFITB := Lib.hid (flow_parts hbk.flow).1
  have HCB := Lib.hid (fits_parts HFITB.out).2.2.2
  rw [HL.out] at h8
  have hqn : q = n := by rw [← HLY.out, flow_len hfl, HL.out]
  subst hqn
  have hbn : b.length = q := by rw [flow_len hbk.flow, HL.out]
  have RB : Hid (Row w5 w5.heap.size Ab q b) := by have := RB.out; rw [hbn] at this; exact this
  have HBN := Lib.hid hbn
  have k0 := hbk.low
  have k1 := hbk.high
  have hval := hbk.val
  have hgb := gain_bd s HMAY.out HCF.out
  have hgb2 := gain_bd s HMAY.out HCB.out
  obtain ⟨sn, rfl⟩ : ∃ sn : Nat, s = (sn : Nat) := ⟨s.toNat, by have := hs2.1; omega⟩
  obtain ⟨tn, rfl⟩ : ∃ tn : Nat, t = (tn : Nat) := ⟨t.toNat, by have := ht2.1; omega⟩
  have hsn : sn < vn := by have := hs2.2; omega
  have htn : tn < vn := by have := ht2.2; omega
  have HSV : Hid (isV (vn : Nat) (sn : Int) = true) := isV_yes (by omega) (by omega)
  have HVAL := Lib.hid hval
  have HFL := Lib.hid hfl
  rw [hbn]
  have C1 : Hid (∀ wx : World, w5.grownBy wx none → Calls Try.prog 10 #[.agg #[.int .i64 (vn : Nat), .slice A q c], .slice X p d, .slice Ab q cb, .int .i64 (sn : Nat), .int .i64 (tn : Nat)] wx (Says wx (.bool true))) := fun wx g => by
    have kx := RFlow_any (vn : Nat) (sn : Nat) (tn : Nat) A q c ls X p d caps Ab q cb b wx (HR.out.grown (Nat.le_refl _) (grown_trans G.out g)) (grown_trans G.out g).size (HX.out.grown (Nat.le_refl _) (grown_trans G.out g)) (grown_trans G.out g).size ((RB.out.grown (Nat.le_refl _) g).wide g.size) (Nat.le_refl _)
    rw [HFB.out] at kx
    exact kx
  have C2 : Hid (∀ wx : World, w5.grownBy wx none → Calls Try.prog 13 #[.agg #[.int .i64 (vn : Nat), .slice A q c], .slice Ab q cb, .int .i64 (sn : Nat)] wx (Says wx (.int .i64 (gainOf ls f (sn : Int) + kk)))) := fun wx g => by
    have kx := RGain_any (vn : Nat) A q c ls Ab q cb b (sn : Nat) wx (HR.out.grown (Nat.le_refl _) (grown_trans G.out g)) (RB.out.grown (Nat.le_refl _) g) HMAY.out HCB.out
    rw [HVAL.out] at kx
    exact kx
  have C3 : Hid (∀ wx : World, w5.grownBy wx none → Calls Try.prog 13 #[.agg #[.int .i64 (vn : Nat), .slice A q c], .slice Y q f0, .int .i64 (sn : Nat)] wx (Says wx (.int .i64 (gainOf ls f (sn : Int))))) := fun wx g =>
    RGain_any (vn : Nat) A q c ls Y q f0 f (sn : Nat) wx (HR.out.grown (Nat.le_refl _) (grown_trans G.out g)) (HY.out.grown (Nat.le_refl _) (grown_trans G.out g)) HMAY.out HCF.out
  rw [hval] at hgb2
  clear hfl hfit hs2 ht2 hM hbk hbl HB hval hbn
  obtain ⟨gf, hgf⟩ : ∃ gf, gainOf ls f (sn : Int) = gf := ⟨_, rfl⟩
  rw [hgf] at C2 C3 hgb hgb2
  clear hgf HVAL
  have hwg : IntKind.i64.wrap (gf + kk) = gf + kk := IntWalk.i64_in _ (by omega)
  have hne : (gf + kk != gf + kk) = false := by simp
  have z0 : decide (kk < 0) = false := decide_eq_false (by omega)
  have z1 : decide (most < kk) = false := decide_eq_false (by omega)
  go_upto_region 5 with fail
  go_cut [101] (fun b wx => BlkMid w5 b wx)
  case first =>
    have HSS : Hid ((fun w' : World => w'.cell? ⟨w.heap.size, 0, none⟩ = some (.int .i64 (vn : Nat)) ∧ w'.cell? ⟨w.heap.size, 1, none⟩ = some (.slice A q c)) w5) := OB.out.two
    have GK := Lib.hid (World.grownBy.refl w5 none)
    refine wp_region_held_drew (S := fun w' : World => w'.cell? ⟨w.heap.size, 0, none⟩ = some (.int .i64 (vn : Nat)) ∧ w'.cell? ⟨w.heap.size, 1, none⟩ = some (.slice A q c)) (by kernel_rfl) HSS.out (fun hHeld => ?_)
    refine takeH (i := 0) (d := 68) (v := .int .i64 0) rfl rfl (by kernel_rfl) (by kernel_rfl) (by kernel_rfl) (fun _ _ _ h => h) (Or.inl ⟨by rfl, ?_⟩) (by assumption) ?_
    · intro w hSw; go_simp
    simp only [Act.put, List.setIfInBounds_toArray, List.set_cons_zero, List.set_cons_succ]
    refine wpAnyH_ready (rs := [1]) (by kernel_rfl) (by simp) ?_
    refine AllReadyH.cons rfl (fun K hK => ?_) AllReadyH.nil
    go_simp
    go_at_call 12
    refine (num_says _ _).mono ?_
    rintro e w6 ⟨rfl, g⟩
    have GK : Hid (w5.grownBy w6 none) := (by first | exact grown_trans GK.out g | exact grown_trans (grown_drew GK.out) g | exact grown_trans (grown_drewN GK.out _) g)
    have HSS := Lib.hid (held2L g HSS.out)
    clear g
    go_wp2_with fail
    refine hK.out _ _ HSS.out (fun hHeld => ?_)
    clear hK
    refine takeH (i := 2) (d := 70) (v := .bool false) rfl rfl (by kernel_rfl) (by kernel_rfl) (by kernel_rfl) (fun _ _ _ h => h) (Or.inl ⟨by rfl, ?_⟩) (by assumption) ?_
    · intro w hSw; go_simp
    simp only [Act.put, List.setIfInBounds_toArray, List.set_cons_zero, List.set_cons_succ]
    refine takeH (i := 3) (d := 71) (v := .bool false) rfl rfl (by kernel_rfl) (by kernel_rfl) (by kernel_rfl) (fun _ _ _ h => h) (Or.inl ⟨by rfl, ?_⟩) (by assumption) ?_
    · intro w hSw; go_simp
    simp only [Act.put, List.setIfInBounds_toArray, List.set_cons_zero, List.set_cons_succ]
    refine takeH (i := 4) (d := 72) (v := .int .i64 kk) rfl rfl (by kernel_rfl) (by kernel_rfl) (by kernel_rfl) (fun _ _ _ h => h) (Or.inl ⟨by rfl, ?_⟩) (by assumption) ?_
    · intro w hSw; go_simp
    simp only [Act.put, List.setIfInBounds_toArray, List.set_cons_zero, List.set_cons_succ]
    refine takeH (i := 5) (d := 73) (v := .bool false) rfl rfl (by kernel_rfl) (by kernel_rfl) (by kernel_rfl) (fun _ _ _ h => h) (Or.inl ⟨by rfl, ?_⟩) (by assumption) ?_
    · intro w hSw; go_simp
    simp only [Act.put, List.setIfInBounds_toArray, List.set_cons_zero, List.set_cons_succ]
    refine takeH (i := 6) (d := 74) (v := .bool false) rfl rfl (by kernel_rfl) (by kernel_rfl) (by kernel_rfl) (fun _ _ _ h => h) (Or.inl ⟨by rfl, ?_⟩) (by assumption) ?_
    · intro w hSw; go_simp
    simp only [Act.put, List.setIfInBounds_toArray, List.set_cons_zero, List.set_cons_succ]
    refine takeH (i := 7) (d := 75) (v := .bool false) rfl rfl (by kernel_rfl) (by kernel_rfl) (by kernel_rfl) (fun _ _ _ h => h) (Or.inl ⟨by rfl, ?_⟩) (by assumption) ?_
    · intro w hSw; go_simp
    simp only [Act.put, List.setIfInBounds_toArray, List.set_cons_zero, List.set_cons_succ]
    refine takeH (i := 8) (d := 76) (v := .int .i64 kk) rfl rfl (by kernel_rfl) (by kernel_rfl) (by kernel_rfl) (fun _ _ _ h => h) (Or.inl ⟨by rfl, ?_⟩) (by assumption) ?_
    · intro w hSw; go_simp
    simp only [Act.put, List.setIfInBounds_toArray, List.set_cons_zero, List.set_cons_succ]
    refine takeH (i := 9) (d := 77) (v := .int .i64 most) rfl rfl (by kernel_rfl) (by kernel_rfl) (by kernel_rfl) (fun _ _ _ h => h) (Or.inl ⟨by rfl, ?_⟩) (by assumption) ?_
    · intro w hSw; go_simp
    simp only [Act.put, List.setIfInBounds_toArray, List.set_cons_zero, List.set_cons_succ]
    refine takeH (i := 10) (d := 78) (v := .bool false) rfl rfl (by kernel_rfl) (by kernel_rfl) (by kernel_rfl) (fun _ _ _ h => h) (Or.inl ⟨by rfl, ?_⟩) (by assumption) ?_
    · intro w hSw; go_simp
    simp only [Act.put, List.setIfInBounds_toArray, List.set_cons_zero, List.set_cons_succ]
    refine takeH (i := 11) (d := 79) (v := .bool false) rfl rfl (by kernel_rfl) (by kernel_rfl) (by kernel_rfl) (fun _ _ _ h => h) (Or.inl ⟨by rfl, ?_⟩) (by assumption) ?_
    · intro w hSw; go_simp
    simp only [Act.put, List.setIfInBounds_toArray, List.set_cons_zero, List.set_cons_succ]
    refine takeH (i := 12) (d := 80) (v := .bool false) rfl rfl (by kernel_rfl) (by kernel_rfl) (by kernel_rfl) (fun _ _ _ h => h) (Or.inl ⟨by rfl, ?_⟩) (by assumption) ?_
    · intro w hSw; go_simp
    simp only [Act.put, List.setIfInBounds_toArray, List.set_cons_zero, List.set_cons_succ]
    refine takeH (i := 13) (d := 81) (v := .agg #[.int .i64 (vn : Nat), .slice A q c]) rfl rfl (by kernel_rfl) (by kernel_rfl) (by kernel_rfl) (fun _ _ _ h => h) (Or.inl ⟨by rfl, ?_⟩) (by assumption) ?_
    · intro w hSw; go_simp
    simp only [Act.put, List.setIfInBounds_toArray, List.set_cons_zero, List.set_cons_succ]
    refine takeH (i := 14) (d := 82) (v := .slice X p d) rfl rfl (by kernel_rfl) (by kernel_rfl) (by kernel_rfl) (fun _ _ _ h => h) (Or.inl ⟨by rfl, ?_⟩) (by assumption) ?_
    · intro w hSw; go_simp
    simp only [Act.put, List.setIfInBounds_toArray, List.set_cons_zero, List.set_cons_succ]
    refine takeH (i := 15) (d := 83) (v := .slice Ab q cb) rfl rfl (by kernel_rfl) (by kernel_rfl) (by kernel_rfl) (fun _ _ _ h => h) (Or.inl ⟨by rfl, ?_⟩) (by assumption) ?_
    · intro w hSw; go_simp
    simp only [Act.put, List.setIfInBounds_toArray, List.set_cons_zero, List.set_cons_succ]
    refine takeH (i := 16) (d := 84) (v := .int .i64 (sn : Nat)) rfl rfl (by kernel_rfl) (by kernel_rfl) (by kernel_rfl) (fun _ _ _ h => h) (Or.inl ⟨by rfl, ?_⟩) (by assumption) ?_
    · intro w hSw; go_simp
    simp only [Act.put, List.setIfInBounds_toArray, List.set_cons_zero, List.set_cons_succ]
    refine takeH (i := 17) (d := 85) (v := .int .i64 (tn : Nat)) rfl rfl (by kernel_rfl) (by kernel_rfl) (by kernel_rfl) (fun _ _ _ h => h) (Or.inl ⟨by rfl, ?_⟩) (by assumption) ?_
    · intro w hSw; go_simp
    simp only [Act.put, List.setIfInBounds_toArray, List.set_cons_zero, List.set_cons_succ]
    refine wpAnyH_ready (rs := [18]) (by kernel_rfl) (by simp) ?_
    refine AllReadyH.cons rfl (fun K hK => ?_) AllReadyH.nil
    go_simp
    go_at_call 10
    refine (C1.out _ (by first | exact GK.out | exact grown_drew GK.out | exact grown_drewN GK.out _)).mono ?_
    rintro e w7 ⟨rfl, g⟩
    have GK : Hid (w5.grownBy w7 none) := (by first | exact grown_trans GK.out g | exact grown_trans (grown_drew GK.out) g | exact grown_trans (grown_drewN GK.out _) g)
    have HSS := Lib.hid (held2L g HSS.out)
    clear g
    go_wp2_with fail
    refine hK.out _ _ HSS.out (fun hHeld => ?_)
    clear hK
    refine takeH (i := 19) (d := 87) (v := .bool false) rfl rfl (by kernel_rfl) (by kernel_rfl) (by kernel_rfl) (fun _ _ _ h => h) (Or.inl ⟨by rfl, ?_⟩) (by assumption) ?_
    · intro w hSw; go_simp
    simp only [Act.put, List.setIfInBounds_toArray, List.set_cons_zero, List.set_cons_succ]
    refine takeH (i := 20) (d := 88) (v := .bool false) rfl rfl (by kernel_rfl) (by kernel_rfl) (by kernel_rfl) (fun _ _ _ h => h) (Or.inl ⟨by rfl, ?_⟩) (by assumption) ?_
    · intro w hSw; go_simp
    simp only [Act.put, List.setIfInBounds_toArray, List.set_cons_zero, List.set_cons_succ]
    refine takeH (i := 21) (d := 89) (v := .bool false) rfl rfl (by kernel_rfl) (by kernel_rfl) (by kernel_rfl) (fun _ _ _ h => h) (Or.inl ⟨by rfl, ?_⟩) (by assumption) ?_
    · intro w hSw; go_simp
    simp only [Act.put, List.setIfInBounds_toArray, List.set_cons_zero, List.set_cons_succ]
    refine takeH (i := 22) (d := 90) (v := .agg #[.int .i64 (vn : Nat), .slice A q c]) rfl rfl (by kernel_rfl) (by kernel_rfl) (by kernel_rfl) (fun _ _ _ h => h) (Or.inl ⟨by rfl, ?_⟩) (by assumption) ?_
    · intro w hSw; go_simp
    simp only [Act.put, List.setIfInBounds_toArray, List.set_cons_zero, List.set_cons_succ]
    refine takeH (i := 23) (d := 91) (v := .slice Ab q cb) rfl rfl (by kernel_rfl) (by kernel_rfl) (by kernel_rfl) (fun _ _ _ h => h) (Or.inl ⟨by rfl, ?_⟩) (by assumption) ?_
    · intro w hSw; go_simp
    simp only [Act.put, List.setIfInBounds_toArray, List.set_cons_zero, List.set_cons_succ]
    refine takeH (i := 24) (d := 92) (v := .int .i64 (sn : Nat)) rfl rfl (by kernel_rfl) (by kernel_rfl) (by kernel_rfl) (fun _ _ _ h => h) (Or.inl ⟨by rfl, ?_⟩) (by assumption) ?_
    · intro w hSw; go_simp
    simp only [Act.put, List.setIfInBounds_toArray, List.set_cons_zero, List.set_cons_succ]
    refine takeH (i := 26) (d := 94) (v := .agg #[.int .i64 (vn : Nat), .slice A q c]) rfl rfl (by kernel_rfl) (by kernel_rfl) (by kernel_rfl) (fun _ _ _ h => h) (Or.inl ⟨by rfl, ?_⟩) (by assumption) ?_
    · intro w hSw; go_simp
    simp only [Act.put, List.setIfInBounds_toArray, List.set_cons_zero, List.set_cons_succ]
    refine takeH (i := 27) (d := 95) (v := .slice Y q f0) rfl rfl (by kernel_rfl) (by kernel_rfl) (by kernel_rfl) (fun _ _ _ h => h) (Or.inl ⟨by rfl, ?_⟩) (by assumption) ?_
    · intro w hSw; go_simp
    simp only [Act.put, List.setIfInBounds_toArray, List.set_cons_zero, List.set_cons_succ]
    refine takeH (i := 28) (d := 96) (v := .int .i64 (sn : Nat)) rfl rfl (by kernel_rfl) (by kernel_rfl) (by kernel_rfl) (fun _ _ _ h => h) (Or.inl ⟨by rfl, ?_⟩) (by assumption) ?_
    · intro w hSw; go_simp
    simp only [Act.put, List.setIfInBounds_toArray, List.set_cons_zero, List.set_cons_succ]
    refine takeH (i := 30) (d := 98) (v := .int .i64 kk) rfl rfl (by kernel_rfl) (by kernel_rfl) (by kernel_rfl) (fun _ _ _ h => h) (Or.inl ⟨by rfl, ?_⟩) (by assumption) ?_
    · intro w hSw; go_simp
    simp only [Act.put, List.setIfInBounds_toArray, List.set_cons_zero, List.set_cons_succ]
    refine wpAnyH_ready (rs := [25]) (by kernel_rfl) (by simp) ?_
    refine AllReadyH.cons rfl (fun K hK => ?_) AllReadyH.nil
    go_simp
    go_at_call 13
    refine (C2.out _ (by first | exact GK.out | exact grown_drew GK.out | exact grown_drewN GK.out _)).mono ?_
    rintro e w8 ⟨rfl, g⟩
    have GK : Hid (w5.grownBy w8 none) := (by first | exact grown_trans GK.out g | exact grown_trans (grown_drew GK.out) g | exact grown_trans (grown_drewN GK.out _) g)
    have HSS := Lib.hid (held2L g HSS.out)
    clear g
    go_wp2_with fail
    refine hK.out _ _ HSS.out (fun hHeld => ?_)
    clear hK
    refine wpAnyH_ready (rs := [29]) (by kernel_rfl) (by simp) ?_
    refine AllReadyH.cons rfl (fun K hK => ?_) AllReadyH.nil
    go_simp
    go_at_call 13
    refine (C3.out _ (by first | exact GK.out | exact grown_drew GK.out | exact grown_drewN GK.out _)).mono ?_
    rintro e w9 ⟨rfl, g⟩
    have GK : Hid (w5.grownBy w9 none) := (by first | exact grown_trans GK.out g | exact grown_trans (grown_drew GK.out) g | exact grown_trans (grown_drewN GK.out _) g)
    have HSS := Lib.hid (held2L g HSS.out)
    clear g
    go_wp2_with fail
    refine hK.out _ _ HSS.out (fun hHeld => ?_)
    clear hK
    refine takeH (i := 31) (d := 99) (v := .int .i64 (gf + kk)) rfl rfl (by kernel_rfl) (by kernel_rfl) (by kernel_rfl) (fun _ _ _ h => h) (Or.inl ⟨by rfl, ?_⟩) (by assumption) ?_
    · intro w hSw; go_simp
    simp only [Act.put, List.setIfInBounds_toArray, List.set_cons_zero, List.set_cons_succ]
    refine takeH (i := 32) (d := 100) (v := .bool false) rfl rfl (by kernel_rfl) (by kernel_rfl) (by kernel_rfl) (fun _ _ _ h => h) (Or.inl ⟨by rfl, ?_⟩) (by assumption) ?_
    · intro w hSw; go_simp
    simp only [Act.put, List.setIfInBounds_toArray, List.set_cons_zero, List.set_cons_succ]
    refine takeH (i := 33) (d := 101) (v := .bool false) rfl rfl (by kernel_rfl) (by kernel_rfl) (by kernel_rfl) (fun _ _ _ h => h) (Or.inl ⟨by rfl, ?_⟩) (by assumption) ?_
    · intro w hSw; go_simp
    simp only [Act.put, List.setIfInBounds_toArray, List.set_cons_zero, List.set_cons_succ]
    refine wpAnyH_done (by kernel_rfl) ?_ _
    go_wp2
    go_meet
    case rel => exact ⟨rfl, GK.out⟩
  case rest =>
    obtain ⟨rfl, gx⟩ := hcut
    have OB := Lib.hid (OB.out.kept gx)
    have G6 := Lib.hid (grown_trans G.out gx)
    have GX := Lib.hid gx
    clear gx C1 C2 C3 hwg hne z0 z1
    obtain ⟨p0, p1⟩ := OB.out.two
    go_wp2_with fail
    refine (RSteps_any vn A q c ls X p d caps Y q f0 f (sn : Nat) M _ (HR.out.grown (Nat.le_refl _) G6.out) G6.out.size (HX.out.grown (Nat.le_refl _) G6.out) G6.out.size (HY.out.grown (Nat.le_refl _) G6.out) G6.out.size HFIT.out HSV.out (by have := LV.out; rw [HL.out] at this; exact this)).mono ?_
    rintro e w6 ⟨gs, rfl, hgs, os, k⟩
    have G7 := Lib.hid (grown_trans GX.out k)
    have GW := Lib.hid (grown_trans G6.out k)
    have OS := Lib.hid os
    have hgw : w.heap.size < gs := by have := OB.out.lt; omega
    have OB := Lib.hid (OB.out.kept k)
    have hgs5 : w5.heap.size ≤ gs := by have := GX.out.size; omega
    clear k os p0 p1 GX G6
    obtain ⟨m2, hm2⟩ : ∃ m2, 2 * q = m2 := ⟨_, rfl⟩
    have HM2 := Lib.hid hm2
    have hm32 : m2 ≤ 32 := by omega
    rw [hm2]
    rw [hm2] at OS
    have HS : Hid (BlkLoop w6 q (.int .i64 0) w6) := ⟨0, Nat.zero_le _, rfl, World.grownBy.refl _ _⟩
    go_wp2
    go_loopw [19] (fun i wr => BlkLoop w6 q i wr) (fun i _ => q - (intOf i).toNat)
    case atStart => exact HS.out
    case round =>
      clear HS
      obtain ⟨k, hk, rfl, hg⟩ := hrel
      have GR := Lib.hid hg
      clear hg
      by_cases hlt : k < q
      · obtain ⟨bb, offb, rfl, _, hcb⟩ := RB.out.at_ (by omega)
        obtain ⟨bf, offf, rfl, _, hcf⟩ := HY.out.at_ (by omega)
        have d0 := kept GR.out (kept G7.out (hcb k hlt))
        have d1 := kept GR.out (kept GW.out (hcf k hlt))
        have OS2 := Lib.hid (OS.out.kept GR.out)
        obtain ⟨k2, hk2⟩ : ∃ k2, 2 * k = k2 := ⟨_, rfl⟩
        obtain ⟨k3, hk3⟩ : ∃ k3, 2 * k + 1 = k3 := ⟨_, rfl⟩
        have d2 := OS2.out.cell k2
        have d3 := OS2.out.cell k3
        rw [bools_at (by rw [stepsL_len]; omega), stepsL_at (by omega)] at d2 d3
        have UP := Lib.hid (BK.out.over.up k (by rw [HL.out]; exact hlt))
        have DN := Lib.hid (BK.out.over.down k (by rw [HL.out]; exact hlt))
        rw [hk2] at UP
        rw [hk3] at DN
        have hw0 : IntKind.i64.wrap (2 * (k : Int)) = (k2 : Int) := by rw [IntWalk.i64_in _ (by omega)]; omega
        have hw1 : IntKind.i64.wrap ((k2 : Int) + 1) = (k3 : Int) := by rw [IntWalk.i64_in _ (by omega)]; omega
        have i0 : (0 : Int) ≤ (k : Int) := by omega
        have i1 : (k : Int) < (q : Int) := by omega
        have i2 : (0 : Int) ≤ (k2 : Int) := by omega
        have i3 : (k2 : Int) < (m2 : Int) := by omega
        have i4 : (0 : Int) ≤ (k3 : Int) := by omega
        have i5 : (k3 : Int) < (m2 : Int) := by omega
        clear hcb hcf OS2 hk2 hk3
        generalize b[k]?.getD 0 = x at *
        generalize f[k]?.getD 0 = y at *
        go_upto_region 11 with fail
        by_cases hxy : y < x
        · have e := UP.out hxy
          rw [decide_eq_true e] at d2
          have z0 : decide (y < x) = true := decide_eq_true hxy
          have z1 : decide (x < y) = false := decide_eq_false (by omega)
          generalize decide (StepsA ls caps f M k3) = e1 at *
          clear UP DN e
          refine wp_region_held_drew (S := fun w' : World => (w'.cell? ⟨bb, offb + k, none⟩ = some (.int .i64 x) ∧ w'.cell? ⟨bf, offf + k, none⟩ = some (.int .i64 y)) ∧ w'.cell? ⟨gs, k2, none⟩ = some (.bool true) ∧ w'.cell? ⟨gs, k3, none⟩ = some (.bool e1)) (by kernel_rfl) ⟨⟨d0, d1⟩, d2, d3⟩ (fun hHeld => ?_)
          refine takeH (i := 0) (d := 113) (v := .slice (some ⟨bb, offb, none⟩) q cb) rfl rfl (by kernel_rfl) (by kernel_rfl) (by kernel_rfl) (fun _ _ _ h => h) (Or.inl ⟨by rfl, ?_⟩) (by assumption) ?_
          · intro w hSw; go_simp
          simp only [Act.put, List.setIfInBounds_toArray, List.set_cons_zero, List.set_cons_succ]
          refine takeH (i := 1) (d := 114) (v := .int .i64 (k : Nat)) rfl rfl (by kernel_rfl) (by kernel_rfl) (by kernel_rfl) (fun _ _ _ h => h) (Or.inl ⟨by rfl, ?_⟩) (by assumption) ?_
          · intro w hSw; go_simp
          simp only [Act.put, List.setIfInBounds_toArray, List.set_cons_zero, List.set_cons_succ]
          refine takeH (i := 2) (d := 115) (v := .pointer (some ⟨bb, offb + k, none⟩)) rfl rfl (by kernel_rfl) (by kernel_rfl) (by kernel_rfl) (fun _ _ _ h => h) (Or.inl ⟨by rfl, ?_⟩) (by assumption) ?_
          · intro w hSw; go_simp
          simp only [Act.put, List.setIfInBounds_toArray, List.set_cons_zero, List.set_cons_succ]
          refine takeH (i := 3) (d := 116) (v := .int .i64 x) rfl rfl (by kernel_rfl) (by kernel_rfl) (by kernel_rfl) (fun _ _ _ h => h) (Or.inl ⟨by rfl, ?_⟩) (by assumption) ?_
          · intro w hSw; go_simp
          simp only [Act.put, List.setIfInBounds_toArray, List.set_cons_zero, List.set_cons_succ]
          refine takeH (i := 4) (d := 117) (v := .slice (some ⟨bf, offf, none⟩) q f0) rfl rfl (by kernel_rfl) (by kernel_rfl) (by kernel_rfl) (fun _ _ _ h => h) (Or.inl ⟨by rfl, ?_⟩) (by assumption) ?_
          · intro w hSw; go_simp
          simp only [Act.put, List.setIfInBounds_toArray, List.set_cons_zero, List.set_cons_succ]
          refine takeH (i := 5) (d := 118) (v := .int .i64 (k : Nat)) rfl rfl (by kernel_rfl) (by kernel_rfl) (by kernel_rfl) (fun _ _ _ h => h) (Or.inl ⟨by rfl, ?_⟩) (by assumption) ?_
          · intro w hSw; go_simp
          simp only [Act.put, List.setIfInBounds_toArray, List.set_cons_zero, List.set_cons_succ]
          refine takeH (i := 6) (d := 119) (v := .pointer (some ⟨bf, offf + k, none⟩)) rfl rfl (by kernel_rfl) (by kernel_rfl) (by kernel_rfl) (fun _ _ _ h => h) (Or.inl ⟨by rfl, ?_⟩) (by assumption) ?_
          · intro w hSw; go_simp
          simp only [Act.put, List.setIfInBounds_toArray, List.set_cons_zero, List.set_cons_succ]
          refine takeH (i := 7) (d := 120) (v := .int .i64 y) rfl rfl (by kernel_rfl) (by kernel_rfl) (by kernel_rfl) (fun _ _ _ h => h) (Or.inl ⟨by rfl, ?_⟩) (by assumption) ?_
          · intro w hSw; go_simp
          simp only [Act.put, List.setIfInBounds_toArray, List.set_cons_zero, List.set_cons_succ]
          refine takeH (i := 8) (d := 121) (v := .bool true) rfl rfl (by kernel_rfl) (by kernel_rfl) (by kernel_rfl) (fun _ _ _ h => h) (Or.inl ⟨by rfl, ?_⟩) (by assumption) ?_
          · intro w hSw; go_simp
          simp only [Act.put, List.setIfInBounds_toArray, List.set_cons_zero, List.set_cons_succ]
          refine takeH (i := 9) (d := 122) (v := .bool true) rfl rfl (by kernel_rfl) (by kernel_rfl) (by kernel_rfl) (fun _ _ _ h => h) (Or.inl ⟨by rfl, ?_⟩) (by assumption) ?_
          · intro w hSw; go_simp
          simp only [Act.put, List.setIfInBounds_toArray, List.set_cons_zero, List.set_cons_succ]
          refine takeH (i := 10) (d := 123) (v := .slice (some ⟨gs, 0, none⟩) m2 m2) rfl rfl (by kernel_rfl) (by kernel_rfl) (by kernel_rfl) (fun _ _ _ h => h) (Or.inl ⟨by rfl, ?_⟩) (by assumption) ?_
          · intro w hSw; go_simp
          simp only [Act.put, List.setIfInBounds_toArray, List.set_cons_zero, List.set_cons_succ]
          refine takeH (i := 11) (d := 124) (v := .int .i64 (k : Nat)) rfl rfl (by kernel_rfl) (by kernel_rfl) (by kernel_rfl) (fun _ _ _ h => h) (Or.inl ⟨by rfl, ?_⟩) (by assumption) ?_
          · intro w hSw; go_simp
          simp only [Act.put, List.setIfInBounds_toArray, List.set_cons_zero, List.set_cons_succ]
          refine takeH (i := 12) (d := 125) (v := .int .i64 (k2 : Nat)) rfl rfl (by kernel_rfl) (by kernel_rfl) (by kernel_rfl) (fun _ _ _ h => h) (Or.inl ⟨by rfl, ?_⟩) (by assumption) ?_
          · intro w hSw; go_simp
          simp only [Act.put, List.setIfInBounds_toArray, List.set_cons_zero, List.set_cons_succ]
          refine takeH (i := 13) (d := 126) (v := .pointer (some ⟨gs, k2, none⟩)) rfl rfl (by kernel_rfl) (by kernel_rfl) (by kernel_rfl) (fun _ _ _ h => h) (Or.inl ⟨by rfl, ?_⟩) (by assumption) ?_
          · intro w hSw; go_simp
          simp only [Act.put, List.setIfInBounds_toArray, List.set_cons_zero, List.set_cons_succ]
          refine takeH (i := 14) (d := 127) (v := .bool true) rfl rfl (by kernel_rfl) (by kernel_rfl) (by kernel_rfl) (fun _ _ _ h => h) (Or.inl ⟨by rfl, ?_⟩) (by assumption) ?_
          · intro w hSw; go_simp
          simp only [Act.put, List.setIfInBounds_toArray, List.set_cons_zero, List.set_cons_succ]
          refine takeH (i := 15) (d := 128) (v := .bool false) rfl rfl (by kernel_rfl) (by kernel_rfl) (by kernel_rfl) (fun _ _ _ h => h) (Or.inl ⟨by rfl, ?_⟩) (by assumption) ?_
          · intro w hSw; go_simp
          simp only [Act.put, List.setIfInBounds_toArray, List.set_cons_zero, List.set_cons_succ]
          refine takeH (i := 16) (d := 129) (v := .bool false) rfl rfl (by kernel_rfl) (by kernel_rfl) (by kernel_rfl) (fun _ _ _ h => h) (Or.inl ⟨by rfl, ?_⟩) (by assumption) ?_
          · intro w hSw; go_simp
          simp only [Act.put, List.setIfInBounds_toArray, List.set_cons_zero, List.set_cons_succ]
          refine takeH (i := 17) (d := 130) (v := .bool false) rfl rfl (by kernel_rfl) (by kernel_rfl) (by kernel_rfl) (fun _ _ _ h => h) (Or.inl ⟨by rfl, ?_⟩) (by assumption) ?_
          · intro w hSw; go_simp
          simp only [Act.put, List.setIfInBounds_toArray, List.set_cons_zero, List.set_cons_succ]
          refine takeH (i := 18) (d := 131) (v := .slice (some ⟨bb, offb, none⟩) q cb) rfl rfl (by kernel_rfl) (by kernel_rfl) (by kernel_rfl) (fun _ _ _ h => h) (Or.inl ⟨by rfl, ?_⟩) (by assumption) ?_
          · intro w hSw; go_simp
          simp only [Act.put, List.setIfInBounds_toArray, List.set_cons_zero, List.set_cons_succ]
          refine takeH (i := 19) (d := 132) (v := .int .i64 (k : Nat)) rfl rfl (by kernel_rfl) (by kernel_rfl) (by kernel_rfl) (fun _ _ _ h => h) (Or.inl ⟨by rfl, ?_⟩) (by assumption) ?_
          · intro w hSw; go_simp
          simp only [Act.put, List.setIfInBounds_toArray, List.set_cons_zero, List.set_cons_succ]
          refine takeH (i := 20) (d := 133) (v := .pointer (some ⟨bb, offb + k, none⟩)) rfl rfl (by kernel_rfl) (by kernel_rfl) (by kernel_rfl) (fun _ _ _ h => h) (Or.inl ⟨by rfl, ?_⟩) (by assumption) ?_
          · intro w hSw; go_simp
          simp only [Act.put, List.setIfInBounds_toArray, List.set_cons_zero, List.set_cons_succ]
          refine takeH (i := 21) (d := 134) (v := .int .i64 x) rfl rfl (by kernel_rfl) (by kernel_rfl) (by kernel_rfl) (fun _ _ _ h => h) (Or.inl ⟨by rfl, ?_⟩) (by assumption) ?_
          · intro w hSw; go_simp
          simp only [Act.put, List.setIfInBounds_toArray, List.set_cons_zero, List.set_cons_succ]
          refine takeH (i := 22) (d := 135) (v := .slice (some ⟨bf, offf, none⟩) q f0) rfl rfl (by kernel_rfl) (by kernel_rfl) (by kernel_rfl) (fun _ _ _ h => h) (Or.inl ⟨by rfl, ?_⟩) (by assumption) ?_
          · intro w hSw; go_simp
          simp only [Act.put, List.setIfInBounds_toArray, List.set_cons_zero, List.set_cons_succ]
          refine takeH (i := 23) (d := 136) (v := .int .i64 (k : Nat)) rfl rfl (by kernel_rfl) (by kernel_rfl) (by kernel_rfl) (fun _ _ _ h => h) (Or.inl ⟨by rfl, ?_⟩) (by assumption) ?_
          · intro w hSw; go_simp
          simp only [Act.put, List.setIfInBounds_toArray, List.set_cons_zero, List.set_cons_succ]
          refine takeH (i := 24) (d := 137) (v := .pointer (some ⟨bf, offf + k, none⟩)) rfl rfl (by kernel_rfl) (by kernel_rfl) (by kernel_rfl) (fun _ _ _ h => h) (Or.inl ⟨by rfl, ?_⟩) (by assumption) ?_
          · intro w hSw; go_simp
          simp only [Act.put, List.setIfInBounds_toArray, List.set_cons_zero, List.set_cons_succ]
          refine takeH (i := 25) (d := 138) (v := .int .i64 y) rfl rfl (by kernel_rfl) (by kernel_rfl) (by kernel_rfl) (fun _ _ _ h => h) (Or.inl ⟨by rfl, ?_⟩) (by assumption) ?_
          · intro w hSw; go_simp
          simp only [Act.put, List.setIfInBounds_toArray, List.set_cons_zero, List.set_cons_succ]
          refine takeH (i := 26) (d := 139) (v := .bool false) rfl rfl (by kernel_rfl) (by kernel_rfl) (by kernel_rfl) (fun _ _ _ h => h) (Or.inl ⟨by rfl, ?_⟩) (by assumption) ?_
          · intro w hSw; go_simp
          simp only [Act.put, List.setIfInBounds_toArray, List.set_cons_zero, List.set_cons_succ]
          refine takeH (i := 27) (d := 140) (v := .bool false) rfl rfl (by kernel_rfl) (by kernel_rfl) (by kernel_rfl) (fun _ _ _ h => h) (Or.inl ⟨by rfl, ?_⟩) (by assumption) ?_
          · intro w hSw; go_simp
          simp only [Act.put, List.setIfInBounds_toArray, List.set_cons_zero, List.set_cons_succ]
          refine takeH (i := 28) (d := 141) (v := undef) rfl rfl (by kernel_rfl) (by kernel_rfl) (by kernel_rfl) (fun _ _ _ h => h) (Or.inr ⟨by rfl, rfl⟩) (by assumption) ?_
          simp only [Act.put, List.setIfInBounds_toArray, List.set_cons_zero, List.set_cons_succ]
          refine takeH (i := 29) (d := 142) (v := undef) rfl rfl (by kernel_rfl) (by kernel_rfl) (by kernel_rfl) (fun _ _ _ h => h) (Or.inr ⟨by rfl, rfl⟩) (by assumption) ?_
          simp only [Act.put, List.setIfInBounds_toArray, List.set_cons_zero, List.set_cons_succ]
          refine takeH (i := 30) (d := 143) (v := undef) rfl rfl (by kernel_rfl) (by kernel_rfl) (by kernel_rfl) (fun _ _ _ h => h) (Or.inr ⟨by rfl, rfl⟩) (by assumption) ?_
          simp only [Act.put, List.setIfInBounds_toArray, List.set_cons_zero, List.set_cons_succ]
          refine takeH (i := 31) (d := 144) (v := undef) rfl rfl (by kernel_rfl) (by kernel_rfl) (by kernel_rfl) (fun _ _ _ h => h) (Or.inr ⟨by rfl, rfl⟩) (by assumption) ?_
          simp only [Act.put, List.setIfInBounds_toArray, List.set_cons_zero, List.set_cons_succ]
          refine takeH (i := 32) (d := 145) (v := undef) rfl rfl (by kernel_rfl) (by kernel_rfl) (by kernel_rfl) (fun _ _ _ h => h) (Or.inr ⟨by rfl, rfl⟩) (by assumption) ?_
          simp only [Act.put, List.setIfInBounds_toArray, List.set_cons_zero, List.set_cons_succ]
          refine takeH (i := 33) (d := 146) (v := undef) rfl rfl (by kernel_rfl) (by kernel_rfl) (by kernel_rfl) (fun _ _ _ h => h) (Or.inr ⟨by rfl, rfl⟩) (by assumption) ?_
          simp only [Act.put, List.setIfInBounds_toArray, List.set_cons_zero, List.set_cons_succ]
          refine takeH (i := 34) (d := 147) (v := undef) rfl rfl (by kernel_rfl) (by kernel_rfl) (by kernel_rfl) (fun _ _ _ h => h) (Or.inr ⟨by rfl, rfl⟩) (by assumption) ?_
          simp only [Act.put, List.setIfInBounds_toArray, List.set_cons_zero, List.set_cons_succ]
          refine takeH (i := 35) (d := 148) (v := .bool false) rfl rfl (by kernel_rfl) (by kernel_rfl) (by kernel_rfl) (fun _ _ _ h => h) (Or.inl ⟨by rfl, ?_⟩) (by assumption) ?_
          · intro w hSw; go_simp
          simp only [Act.put, List.setIfInBounds_toArray, List.set_cons_zero, List.set_cons_succ]
          refine takeH (i := 36) (d := 149) (v := .bool false) rfl rfl (by kernel_rfl) (by kernel_rfl) (by kernel_rfl) (fun _ _ _ h => h) (Or.inl ⟨by rfl, ?_⟩) (by assumption) ?_
          · intro w hSw; go_simp
          simp only [Act.put, List.setIfInBounds_toArray, List.set_cons_zero, List.set_cons_succ]
          refine wpAnyH_done (by kernel_rfl) ?_ _
          go_wp2
          go_roundw
          case rel => exact ⟨k + 1, by omega, by go_num, grown_drew GR.out⟩
          case measure => simp [intOf]; omega
        · by_cases hyx : x < y
          · have e := DN.out hyx
            rw [decide_eq_true e] at d3
            have z0 : decide (y < x) = false := decide_eq_false hxy
            have z1 : decide (x < y) = true := decide_eq_true hyx
            generalize decide (StepsA ls caps f M k2) = e0 at *
            clear UP DN e
            refine wp_region_held_drew (S := fun w' : World => (w'.cell? ⟨bb, offb + k, none⟩ = some (.int .i64 x) ∧ w'.cell? ⟨bf, offf + k, none⟩ = some (.int .i64 y)) ∧ w'.cell? ⟨gs, k2, none⟩ = some (.bool e0) ∧ w'.cell? ⟨gs, k3, none⟩ = some (.bool true)) (by kernel_rfl) ⟨⟨d0, d1⟩, d2, d3⟩ (fun hHeld => ?_)
            refine takeH (i := 0) (d := 113) (v := .slice (some ⟨bb, offb, none⟩) q cb) rfl rfl (by kernel_rfl) (by kernel_rfl) (by kernel_rfl) (fun _ _ _ h => h) (Or.inl ⟨by rfl, ?_⟩) (by assumption) ?_
            · intro w hSw; go_simp
            simp only [Act.put, List.setIfInBounds_toArray, List.set_cons_zero, List.set_cons_succ]
            refine takeH (i := 1) (d := 114) (v := .int .i64 (k : Nat)) rfl rfl (by kernel_rfl) (by kernel_rfl) (by kernel_rfl) (fun _ _ _ h => h) (Or.inl ⟨by rfl, ?_⟩) (by assumption) ?_
            · intro w hSw; go_simp
            simp only [Act.put, List.setIfInBounds_toArray, List.set_cons_zero, List.set_cons_succ]
            refine takeH (i := 2) (d := 115) (v := .pointer (some ⟨bb, offb + k, none⟩)) rfl rfl (by kernel_rfl) (by kernel_rfl) (by kernel_rfl) (fun _ _ _ h => h) (Or.inl ⟨by rfl, ?_⟩) (by assumption) ?_
            · intro w hSw; go_simp
            simp only [Act.put, List.setIfInBounds_toArray, List.set_cons_zero, List.set_cons_succ]
            refine takeH (i := 3) (d := 116) (v := .int .i64 x) rfl rfl (by kernel_rfl) (by kernel_rfl) (by kernel_rfl) (fun _ _ _ h => h) (Or.inl ⟨by rfl, ?_⟩) (by assumption) ?_
            · intro w hSw; go_simp
            simp only [Act.put, List.setIfInBounds_toArray, List.set_cons_zero, List.set_cons_succ]
            refine takeH (i := 4) (d := 117) (v := .slice (some ⟨bf, offf, none⟩) q f0) rfl rfl (by kernel_rfl) (by kernel_rfl) (by kernel_rfl) (fun _ _ _ h => h) (Or.inl ⟨by rfl, ?_⟩) (by assumption) ?_
            · intro w hSw; go_simp
            simp only [Act.put, List.setIfInBounds_toArray, List.set_cons_zero, List.set_cons_succ]
            refine takeH (i := 5) (d := 118) (v := .int .i64 (k : Nat)) rfl rfl (by kernel_rfl) (by kernel_rfl) (by kernel_rfl) (fun _ _ _ h => h) (Or.inl ⟨by rfl, ?_⟩) (by assumption) ?_
            · intro w hSw; go_simp
            simp only [Act.put, List.setIfInBounds_toArray, List.set_cons_zero, List.set_cons_succ]
            refine takeH (i := 6) (d := 119) (v := .pointer (some ⟨bf, offf + k, none⟩)) rfl rfl (by kernel_rfl) (by kernel_rfl) (by kernel_rfl) (fun _ _ _ h => h) (Or.inl ⟨by rfl, ?_⟩) (by assumption) ?_
            · intro w hSw; go_simp
            simp only [Act.put, List.setIfInBounds_toArray, List.set_cons_zero, List.set_cons_succ]
            refine takeH (i := 7) (d := 120) (v := .int .i64 y) rfl rfl (by kernel_rfl) (by kernel_rfl) (by kernel_rfl) (fun _ _ _ h => h) (Or.inl ⟨by rfl, ?_⟩) (by assumption) ?_
            · intro w hSw; go_simp
            simp only [Act.put, List.setIfInBounds_toArray, List.set_cons_zero, List.set_cons_succ]
            refine takeH (i := 8) (d := 121) (v := .bool false) rfl rfl (by kernel_rfl) (by kernel_rfl) (by kernel_rfl) (fun _ _ _ h => h) (Or.inl ⟨by rfl, ?_⟩) (by assumption) ?_
            · intro w hSw; go_simp
            simp only [Act.put, List.setIfInBounds_toArray, List.set_cons_zero, List.set_cons_succ]
            refine takeH (i := 9) (d := 122) (v := .bool false) rfl rfl (by kernel_rfl) (by kernel_rfl) (by kernel_rfl) (fun _ _ _ h => h) (Or.inl ⟨by rfl, ?_⟩) (by assumption) ?_
            · intro w hSw; go_simp
            simp only [Act.put, List.setIfInBounds_toArray, List.set_cons_zero, List.set_cons_succ]
            refine takeH (i := 10) (d := 123) (v := undef) rfl rfl (by kernel_rfl) (by kernel_rfl) (by kernel_rfl) (fun _ _ _ h => h) (Or.inr ⟨by rfl, rfl⟩) (by assumption) ?_
            simp only [Act.put, List.setIfInBounds_toArray, List.set_cons_zero, List.set_cons_succ]
            refine takeH (i := 11) (d := 124) (v := undef) rfl rfl (by kernel_rfl) (by kernel_rfl) (by kernel_rfl) (fun _ _ _ h => h) (Or.inr ⟨by rfl, rfl⟩) (by assumption) ?_
            simp only [Act.put, List.setIfInBounds_toArray, List.set_cons_zero, List.set_cons_succ]
            refine takeH (i := 12) (d := 125) (v := undef) rfl rfl (by kernel_rfl) (by kernel_rfl) (by kernel_rfl) (fun _ _ _ h => h) (Or.inr ⟨by rfl, rfl⟩) (by assumption) ?_
            simp only [Act.put, List.setIfInBounds_toArray, List.set_cons_zero, List.set_cons_succ]
            refine takeH (i := 13) (d := 126) (v := undef) rfl rfl (by kernel_rfl) (by kernel_rfl) (by kernel_rfl) (fun _ _ _ h => h) (Or.inr ⟨by rfl, rfl⟩) (by assumption) ?_
            simp only [Act.put, List.setIfInBounds_toArray, List.set_cons_zero, List.set_cons_succ]
            refine takeH (i := 14) (d := 127) (v := undef) rfl rfl (by kernel_rfl) (by kernel_rfl) (by kernel_rfl) (fun _ _ _ h => h) (Or.inr ⟨by rfl, rfl⟩) (by assumption) ?_
            simp only [Act.put, List.setIfInBounds_toArray, List.set_cons_zero, List.set_cons_succ]
            refine takeH (i := 15) (d := 128) (v := undef) rfl rfl (by kernel_rfl) (by kernel_rfl) (by kernel_rfl) (fun _ _ _ h => h) (Or.inr ⟨by rfl, rfl⟩) (by assumption) ?_
            simp only [Act.put, List.setIfInBounds_toArray, List.set_cons_zero, List.set_cons_succ]
            refine takeH (i := 16) (d := 129) (v := .bool false) rfl rfl (by kernel_rfl) (by kernel_rfl) (by kernel_rfl) (fun _ _ _ h => h) (Or.inl ⟨by rfl, ?_⟩) (by assumption) ?_
            · intro w hSw; go_simp
            simp only [Act.put, List.setIfInBounds_toArray, List.set_cons_zero, List.set_cons_succ]
            refine takeH (i := 17) (d := 130) (v := .bool false) rfl rfl (by kernel_rfl) (by kernel_rfl) (by kernel_rfl) (fun _ _ _ h => h) (Or.inl ⟨by rfl, ?_⟩) (by assumption) ?_
            · intro w hSw; go_simp
            simp only [Act.put, List.setIfInBounds_toArray, List.set_cons_zero, List.set_cons_succ]
            refine takeH (i := 18) (d := 131) (v := .slice (some ⟨bb, offb, none⟩) q cb) rfl rfl (by kernel_rfl) (by kernel_rfl) (by kernel_rfl) (fun _ _ _ h => h) (Or.inl ⟨by rfl, ?_⟩) (by assumption) ?_
            · intro w hSw; go_simp
            simp only [Act.put, List.setIfInBounds_toArray, List.set_cons_zero, List.set_cons_succ]
            refine takeH (i := 19) (d := 132) (v := .int .i64 (k : Nat)) rfl rfl (by kernel_rfl) (by kernel_rfl) (by kernel_rfl) (fun _ _ _ h => h) (Or.inl ⟨by rfl, ?_⟩) (by assumption) ?_
            · intro w hSw; go_simp
            simp only [Act.put, List.setIfInBounds_toArray, List.set_cons_zero, List.set_cons_succ]
            refine takeH (i := 20) (d := 133) (v := .pointer (some ⟨bb, offb + k, none⟩)) rfl rfl (by kernel_rfl) (by kernel_rfl) (by kernel_rfl) (fun _ _ _ h => h) (Or.inl ⟨by rfl, ?_⟩) (by assumption) ?_
            · intro w hSw; go_simp
            simp only [Act.put, List.setIfInBounds_toArray, List.set_cons_zero, List.set_cons_succ]
            refine takeH (i := 21) (d := 134) (v := .int .i64 x) rfl rfl (by kernel_rfl) (by kernel_rfl) (by kernel_rfl) (fun _ _ _ h => h) (Or.inl ⟨by rfl, ?_⟩) (by assumption) ?_
            · intro w hSw; go_simp
            simp only [Act.put, List.setIfInBounds_toArray, List.set_cons_zero, List.set_cons_succ]
            refine takeH (i := 22) (d := 135) (v := .slice (some ⟨bf, offf, none⟩) q f0) rfl rfl (by kernel_rfl) (by kernel_rfl) (by kernel_rfl) (fun _ _ _ h => h) (Or.inl ⟨by rfl, ?_⟩) (by assumption) ?_
            · intro w hSw; go_simp
            simp only [Act.put, List.setIfInBounds_toArray, List.set_cons_zero, List.set_cons_succ]
            refine takeH (i := 23) (d := 136) (v := .int .i64 (k : Nat)) rfl rfl (by kernel_rfl) (by kernel_rfl) (by kernel_rfl) (fun _ _ _ h => h) (Or.inl ⟨by rfl, ?_⟩) (by assumption) ?_
            · intro w hSw; go_simp
            simp only [Act.put, List.setIfInBounds_toArray, List.set_cons_zero, List.set_cons_succ]
            refine takeH (i := 24) (d := 137) (v := .pointer (some ⟨bf, offf + k, none⟩)) rfl rfl (by kernel_rfl) (by kernel_rfl) (by kernel_rfl) (fun _ _ _ h => h) (Or.inl ⟨by rfl, ?_⟩) (by assumption) ?_
            · intro w hSw; go_simp
            simp only [Act.put, List.setIfInBounds_toArray, List.set_cons_zero, List.set_cons_succ]
            refine takeH (i := 25) (d := 138) (v := .int .i64 y) rfl rfl (by kernel_rfl) (by kernel_rfl) (by kernel_rfl) (fun _ _ _ h => h) (Or.inl ⟨by rfl, ?_⟩) (by assumption) ?_
            · intro w hSw; go_simp
            simp only [Act.put, List.setIfInBounds_toArray, List.set_cons_zero, List.set_cons_succ]
            refine takeH (i := 26) (d := 139) (v := .bool true) rfl rfl (by kernel_rfl) (by kernel_rfl) (by kernel_rfl) (fun _ _ _ h => h) (Or.inl ⟨by rfl, ?_⟩) (by assumption) ?_
            · intro w hSw; go_simp
            simp only [Act.put, List.setIfInBounds_toArray, List.set_cons_zero, List.set_cons_succ]
            refine takeH (i := 27) (d := 140) (v := .bool true) rfl rfl (by kernel_rfl) (by kernel_rfl) (by kernel_rfl) (fun _ _ _ h => h) (Or.inl ⟨by rfl, ?_⟩) (by assumption) ?_
            · intro w hSw; go_simp
            simp only [Act.put, List.setIfInBounds_toArray, List.set_cons_zero, List.set_cons_succ]
            refine takeH (i := 28) (d := 141) (v := .slice (some ⟨gs, 0, none⟩) m2 m2) rfl rfl (by kernel_rfl) (by kernel_rfl) (by kernel_rfl) (fun _ _ _ h => h) (Or.inl ⟨by rfl, ?_⟩) (by assumption) ?_
            · intro w hSw; go_simp
            simp only [Act.put, List.setIfInBounds_toArray, List.set_cons_zero, List.set_cons_succ]
            refine takeH (i := 29) (d := 142) (v := .int .i64 (k : Nat)) rfl rfl (by kernel_rfl) (by kernel_rfl) (by kernel_rfl) (fun _ _ _ h => h) (Or.inl ⟨by rfl, ?_⟩) (by assumption) ?_
            · intro w hSw; go_simp
            simp only [Act.put, List.setIfInBounds_toArray, List.set_cons_zero, List.set_cons_succ]
            refine takeH (i := 30) (d := 143) (v := .int .i64 (k2 : Nat)) rfl rfl (by kernel_rfl) (by kernel_rfl) (by kernel_rfl) (fun _ _ _ h => h) (Or.inl ⟨by rfl, ?_⟩) (by assumption) ?_
            · intro w hSw; go_simp
            simp only [Act.put, List.setIfInBounds_toArray, List.set_cons_zero, List.set_cons_succ]
            refine takeH (i := 31) (d := 144) (v := .int .i64 (k3 : Nat)) rfl rfl (by kernel_rfl) (by kernel_rfl) (by kernel_rfl) (fun _ _ _ h => h) (Or.inl ⟨by rfl, ?_⟩) (by assumption) ?_
            · intro w hSw; go_simp
            simp only [Act.put, List.setIfInBounds_toArray, List.set_cons_zero, List.set_cons_succ]
            refine takeH (i := 32) (d := 145) (v := .pointer (some ⟨gs, k3, none⟩)) rfl rfl (by kernel_rfl) (by kernel_rfl) (by kernel_rfl) (fun _ _ _ h => h) (Or.inl ⟨by rfl, ?_⟩) (by assumption) ?_
            · intro w hSw; go_simp
            simp only [Act.put, List.setIfInBounds_toArray, List.set_cons_zero, List.set_cons_succ]
            refine takeH (i := 33) (d := 146) (v := .bool true) rfl rfl (by kernel_rfl) (by kernel_rfl) (by kernel_rfl) (fun _ _ _ h => h) (Or.inl ⟨by rfl, ?_⟩) (by assumption) ?_
            · intro w hSw; go_simp
            simp only [Act.put, List.setIfInBounds_toArray, List.set_cons_zero, List.set_cons_succ]
            refine takeH (i := 34) (d := 147) (v := .bool false) rfl rfl (by kernel_rfl) (by kernel_rfl) (by kernel_rfl) (fun _ _ _ h => h) (Or.inl ⟨by rfl, ?_⟩) (by assumption) ?_
            · intro w hSw; go_simp
            simp only [Act.put, List.setIfInBounds_toArray, List.set_cons_zero, List.set_cons_succ]
            refine takeH (i := 35) (d := 148) (v := .bool false) rfl rfl (by kernel_rfl) (by kernel_rfl) (by kernel_rfl) (fun _ _ _ h => h) (Or.inl ⟨by rfl, ?_⟩) (by assumption) ?_
            · intro w hSw; go_simp
            simp only [Act.put, List.setIfInBounds_toArray, List.set_cons_zero, List.set_cons_succ]
            refine takeH (i := 36) (d := 149) (v := .bool false) rfl rfl (by kernel_rfl) (by kernel_rfl) (by kernel_rfl) (fun _ _ _ h => h) (Or.inl ⟨by rfl, ?_⟩) (by assumption) ?_
            · intro w hSw; go_simp
            simp only [Act.put, List.setIfInBounds_toArray, List.set_cons_zero, List.set_cons_succ]
            refine wpAnyH_done (by kernel_rfl) ?_ _
            go_wp2
            go_roundw
            case rel => exact ⟨k + 1, by omega, by go_num, grown_drew GR.out⟩
            case measure => simp [intOf]; omega
          · obtain rfl : x = y := by omega
            generalize decide (StepsA ls caps f M k2) = e0 at *
            generalize decide (StepsA ls caps f M k3) = e1 at *
            have z0 : decide (x < x) = false := by simp
            clear UP DN hxy hyx
            refine wp_region_held_drew (S := fun w' : World => (w'.cell? ⟨bb, offb + k, none⟩ = some (.int .i64 x) ∧ w'.cell? ⟨bf, offf + k, none⟩ = some (.int .i64 x)) ∧ w'.cell? ⟨gs, k2, none⟩ = some (.bool e0) ∧ w'.cell? ⟨gs, k3, none⟩ = some (.bool e1)) (by kernel_rfl) ⟨⟨d0, d1⟩, d2, d3⟩ (fun hHeld => ?_)
            refine takeH (i := 0) (d := 113) (v := .slice (some ⟨bb, offb, none⟩) q cb) rfl rfl (by kernel_rfl) (by kernel_rfl) (by kernel_rfl) (fun _ _ _ h => h) (Or.inl ⟨by rfl, ?_⟩) (by assumption) ?_
            · intro w hSw; go_simp
            simp only [Act.put, List.setIfInBounds_toArray, List.set_cons_zero, List.set_cons_succ]
            refine takeH (i := 1) (d := 114) (v := .int .i64 (k : Nat)) rfl rfl (by kernel_rfl) (by kernel_rfl) (by kernel_rfl) (fun _ _ _ h => h) (Or.inl ⟨by rfl, ?_⟩) (by assumption) ?_
            · intro w hSw; go_simp
            simp only [Act.put, List.setIfInBounds_toArray, List.set_cons_zero, List.set_cons_succ]
            refine takeH (i := 2) (d := 115) (v := .pointer (some ⟨bb, offb + k, none⟩)) rfl rfl (by kernel_rfl) (by kernel_rfl) (by kernel_rfl) (fun _ _ _ h => h) (Or.inl ⟨by rfl, ?_⟩) (by assumption) ?_
            · intro w hSw; go_simp
            simp only [Act.put, List.setIfInBounds_toArray, List.set_cons_zero, List.set_cons_succ]
            refine takeH (i := 3) (d := 116) (v := .int .i64 x) rfl rfl (by kernel_rfl) (by kernel_rfl) (by kernel_rfl) (fun _ _ _ h => h) (Or.inl ⟨by rfl, ?_⟩) (by assumption) ?_
            · intro w hSw; go_simp
            simp only [Act.put, List.setIfInBounds_toArray, List.set_cons_zero, List.set_cons_succ]
            refine takeH (i := 4) (d := 117) (v := .slice (some ⟨bf, offf, none⟩) q f0) rfl rfl (by kernel_rfl) (by kernel_rfl) (by kernel_rfl) (fun _ _ _ h => h) (Or.inl ⟨by rfl, ?_⟩) (by assumption) ?_
            · intro w hSw; go_simp
            simp only [Act.put, List.setIfInBounds_toArray, List.set_cons_zero, List.set_cons_succ]
            refine takeH (i := 5) (d := 118) (v := .int .i64 (k : Nat)) rfl rfl (by kernel_rfl) (by kernel_rfl) (by kernel_rfl) (fun _ _ _ h => h) (Or.inl ⟨by rfl, ?_⟩) (by assumption) ?_
            · intro w hSw; go_simp
            simp only [Act.put, List.setIfInBounds_toArray, List.set_cons_zero, List.set_cons_succ]
            refine takeH (i := 6) (d := 119) (v := .pointer (some ⟨bf, offf + k, none⟩)) rfl rfl (by kernel_rfl) (by kernel_rfl) (by kernel_rfl) (fun _ _ _ h => h) (Or.inl ⟨by rfl, ?_⟩) (by assumption) ?_
            · intro w hSw; go_simp
            simp only [Act.put, List.setIfInBounds_toArray, List.set_cons_zero, List.set_cons_succ]
            refine takeH (i := 7) (d := 120) (v := .int .i64 x) rfl rfl (by kernel_rfl) (by kernel_rfl) (by kernel_rfl) (fun _ _ _ h => h) (Or.inl ⟨by rfl, ?_⟩) (by assumption) ?_
            · intro w hSw; go_simp
            simp only [Act.put, List.setIfInBounds_toArray, List.set_cons_zero, List.set_cons_succ]
            refine takeH (i := 8) (d := 121) (v := .bool false) rfl rfl (by kernel_rfl) (by kernel_rfl) (by kernel_rfl) (fun _ _ _ h => h) (Or.inl ⟨by rfl, ?_⟩) (by assumption) ?_
            · intro w hSw; go_simp
            simp only [Act.put, List.setIfInBounds_toArray, List.set_cons_zero, List.set_cons_succ]
            refine takeH (i := 9) (d := 122) (v := .bool false) rfl rfl (by kernel_rfl) (by kernel_rfl) (by kernel_rfl) (fun _ _ _ h => h) (Or.inl ⟨by rfl, ?_⟩) (by assumption) ?_
            · intro w hSw; go_simp
            simp only [Act.put, List.setIfInBounds_toArray, List.set_cons_zero, List.set_cons_succ]
            refine takeH (i := 10) (d := 123) (v := undef) rfl rfl (by kernel_rfl) (by kernel_rfl) (by kernel_rfl) (fun _ _ _ h => h) (Or.inr ⟨by rfl, rfl⟩) (by assumption) ?_
            simp only [Act.put, List.setIfInBounds_toArray, List.set_cons_zero, List.set_cons_succ]
            refine takeH (i := 11) (d := 124) (v := undef) rfl rfl (by kernel_rfl) (by kernel_rfl) (by kernel_rfl) (fun _ _ _ h => h) (Or.inr ⟨by rfl, rfl⟩) (by assumption) ?_
            simp only [Act.put, List.setIfInBounds_toArray, List.set_cons_zero, List.set_cons_succ]
            refine takeH (i := 12) (d := 125) (v := undef) rfl rfl (by kernel_rfl) (by kernel_rfl) (by kernel_rfl) (fun _ _ _ h => h) (Or.inr ⟨by rfl, rfl⟩) (by assumption) ?_
            simp only [Act.put, List.setIfInBounds_toArray, List.set_cons_zero, List.set_cons_succ]
            refine takeH (i := 13) (d := 126) (v := undef) rfl rfl (by kernel_rfl) (by kernel_rfl) (by kernel_rfl) (fun _ _ _ h => h) (Or.inr ⟨by rfl, rfl⟩) (by assumption) ?_
            simp only [Act.put, List.setIfInBounds_toArray, List.set_cons_zero, List.set_cons_succ]
            refine takeH (i := 14) (d := 127) (v := undef) rfl rfl (by kernel_rfl) (by kernel_rfl) (by kernel_rfl) (fun _ _ _ h => h) (Or.inr ⟨by rfl, rfl⟩) (by assumption) ?_
            simp only [Act.put, List.setIfInBounds_toArray, List.set_cons_zero, List.set_cons_succ]
            refine takeH (i := 15) (d := 128) (v := undef) rfl rfl (by kernel_rfl) (by kernel_rfl) (by kernel_rfl) (fun _ _ _ h => h) (Or.inr ⟨by rfl, rfl⟩) (by assumption) ?_
            simp only [Act.put, List.setIfInBounds_toArray, List.set_cons_zero, List.set_cons_succ]
            refine takeH (i := 16) (d := 129) (v := .bool false) rfl rfl (by kernel_rfl) (by kernel_rfl) (by kernel_rfl) (fun _ _ _ h => h) (Or.inl ⟨by rfl, ?_⟩) (by assumption) ?_
            · intro w hSw; go_simp
            simp only [Act.put, List.setIfInBounds_toArray, List.set_cons_zero, List.set_cons_succ]
            refine takeH (i := 17) (d := 130) (v := .bool false) rfl rfl (by kernel_rfl) (by kernel_rfl) (by kernel_rfl) (fun _ _ _ h => h) (Or.inl ⟨by rfl, ?_⟩) (by assumption) ?_
            · intro w hSw; go_simp
            simp only [Act.put, List.setIfInBounds_toArray, List.set_cons_zero, List.set_cons_succ]
            refine takeH (i := 18) (d := 131) (v := .slice (some ⟨bb, offb, none⟩) q cb) rfl rfl (by kernel_rfl) (by kernel_rfl) (by kernel_rfl) (fun _ _ _ h => h) (Or.inl ⟨by rfl, ?_⟩) (by assumption) ?_
            · intro w hSw; go_simp
            simp only [Act.put, List.setIfInBounds_toArray, List.set_cons_zero, List.set_cons_succ]
            refine takeH (i := 19) (d := 132) (v := .int .i64 (k : Nat)) rfl rfl (by kernel_rfl) (by kernel_rfl) (by kernel_rfl) (fun _ _ _ h => h) (Or.inl ⟨by rfl, ?_⟩) (by assumption) ?_
            · intro w hSw; go_simp
            simp only [Act.put, List.setIfInBounds_toArray, List.set_cons_zero, List.set_cons_succ]
            refine takeH (i := 20) (d := 133) (v := .pointer (some ⟨bb, offb + k, none⟩)) rfl rfl (by kernel_rfl) (by kernel_rfl) (by kernel_rfl) (fun _ _ _ h => h) (Or.inl ⟨by rfl, ?_⟩) (by assumption) ?_
            · intro w hSw; go_simp
            simp only [Act.put, List.setIfInBounds_toArray, List.set_cons_zero, List.set_cons_succ]
            refine takeH (i := 21) (d := 134) (v := .int .i64 x) rfl rfl (by kernel_rfl) (by kernel_rfl) (by kernel_rfl) (fun _ _ _ h => h) (Or.inl ⟨by rfl, ?_⟩) (by assumption) ?_
            · intro w hSw; go_simp
            simp only [Act.put, List.setIfInBounds_toArray, List.set_cons_zero, List.set_cons_succ]
            refine takeH (i := 22) (d := 135) (v := .slice (some ⟨bf, offf, none⟩) q f0) rfl rfl (by kernel_rfl) (by kernel_rfl) (by kernel_rfl) (fun _ _ _ h => h) (Or.inl ⟨by rfl, ?_⟩) (by assumption) ?_
            · intro w hSw; go_simp
            simp only [Act.put, List.setIfInBounds_toArray, List.set_cons_zero, List.set_cons_succ]
            refine takeH (i := 23) (d := 136) (v := .int .i64 (k : Nat)) rfl rfl (by kernel_rfl) (by kernel_rfl) (by kernel_rfl) (fun _ _ _ h => h) (Or.inl ⟨by rfl, ?_⟩) (by assumption) ?_
            · intro w hSw; go_simp
            simp only [Act.put, List.setIfInBounds_toArray, List.set_cons_zero, List.set_cons_succ]
            refine takeH (i := 24) (d := 137) (v := .pointer (some ⟨bf, offf + k, none⟩)) rfl rfl (by kernel_rfl) (by kernel_rfl) (by kernel_rfl) (fun _ _ _ h => h) (Or.inl ⟨by rfl, ?_⟩) (by assumption) ?_
            · intro w hSw; go_simp
            simp only [Act.put, List.setIfInBounds_toArray, List.set_cons_zero, List.set_cons_succ]
            refine takeH (i := 25) (d := 138) (v := .int .i64 x) rfl rfl (by kernel_rfl) (by kernel_rfl) (by kernel_rfl) (fun _ _ _ h => h) (Or.inl ⟨by rfl, ?_⟩) (by assumption) ?_
            · intro w hSw; go_simp
            simp only [Act.put, List.setIfInBounds_toArray, List.set_cons_zero, List.set_cons_succ]
            refine takeH (i := 26) (d := 139) (v := .bool false) rfl rfl (by kernel_rfl) (by kernel_rfl) (by kernel_rfl) (fun _ _ _ h => h) (Or.inl ⟨by rfl, ?_⟩) (by assumption) ?_
            · intro w hSw; go_simp
            simp only [Act.put, List.setIfInBounds_toArray, List.set_cons_zero, List.set_cons_succ]
            refine takeH (i := 27) (d := 140) (v := .bool false) rfl rfl (by kernel_rfl) (by kernel_rfl) (by kernel_rfl) (fun _ _ _ h => h) (Or.inl ⟨by rfl, ?_⟩) (by assumption) ?_
            · intro w hSw; go_simp
            simp only [Act.put, List.setIfInBounds_toArray, List.set_cons_zero, List.set_cons_succ]
            refine takeH (i := 28) (d := 141) (v := undef) rfl rfl (by kernel_rfl) (by kernel_rfl) (by kernel_rfl) (fun _ _ _ h => h) (Or.inr ⟨by rfl, rfl⟩) (by assumption) ?_
            simp only [Act.put, List.setIfInBounds_toArray, List.set_cons_zero, List.set_cons_succ]
            refine takeH (i := 29) (d := 142) (v := undef) rfl rfl (by kernel_rfl) (by kernel_rfl) (by kernel_rfl) (fun _ _ _ h => h) (Or.inr ⟨by rfl, rfl⟩) (by assumption) ?_
            simp only [Act.put, List.setIfInBounds_toArray, List.set_cons_zero, List.set_cons_succ]
            refine takeH (i := 30) (d := 143) (v := undef) rfl rfl (by kernel_rfl) (by kernel_rfl) (by kernel_rfl) (fun _ _ _ h => h) (Or.inr ⟨by rfl, rfl⟩) (by assumption) ?_
            simp only [Act.put, List.setIfInBounds_toArray, List.set_cons_zero, List.set_cons_succ]
            refine takeH (i := 31) (d := 144) (v := undef) rfl rfl (by kernel_rfl) (by kernel_rfl) (by kernel_rfl) (fun _ _ _ h => h) (Or.inr ⟨by rfl, rfl⟩) (by assumption) ?_
            simp only [Act.put, List.setIfInBounds_toArray, List.set_cons_zero, List.set_cons_succ]
            refine takeH (i := 32) (d := 145) (v := undef) rfl rfl (by kernel_rfl) (by kernel_rfl) (by kernel_rfl) (fun _ _ _ h => h) (Or.inr ⟨by rfl, rfl⟩) (by assumption) ?_
            simp only [Act.put, List.setIfInBounds_toArray, List.set_cons_zero, List.set_cons_succ]
            refine takeH (i := 33) (d := 146) (v := undef) rfl rfl (by kernel_rfl) (by kernel_rfl) (by kernel_rfl) (fun _ _ _ h => h) (Or.inr ⟨by rfl, rfl⟩) (by assumption) ?_
            simp only [Act.put, List.setIfInBounds_toArray, List.set_cons_zero, List.set_cons_succ]
            refine takeH (i := 34) (d := 147) (v := undef) rfl rfl (by kernel_rfl) (by kernel_rfl) (by kernel_rfl) (fun _ _ _ h => h) (Or.inr ⟨by rfl, rfl⟩) (by assumption) ?_
            simp only [Act.put, List.setIfInBounds_toArray, List.set_cons_zero, List.set_cons_succ]
            refine takeH (i := 35) (d := 148) (v := .bool false) rfl rfl (by kernel_rfl) (by kernel_rfl) (by kernel_rfl) (fun _ _ _ h => h) (Or.inl ⟨by rfl, ?_⟩) (by assumption) ?_
            · intro w hSw; go_simp
            simp only [Act.put, List.setIfInBounds_toArray, List.set_cons_zero, List.set_cons_succ]
            refine takeH (i := 36) (d := 149) (v := .bool false) rfl rfl (by kernel_rfl) (by kernel_rfl) (by kernel_rfl) (fun _ _ _ h => h) (Or.inl ⟨by rfl, ?_⟩) (by assumption) ?_
            · intro w hSw; go_simp
            simp only [Act.put, List.setIfInBounds_toArray, List.set_cons_zero, List.set_cons_succ]
            refine wpAnyH_done (by kernel_rfl) ?_ _
            go_wp2
            go_roundw
            case rel => exact ⟨k + 1, by omega, by go_num, grown_drew GR.out⟩
            case measure => simp [intOf]; omega
      · obtain rfl : k = q := by omega
        have OS2 := Lib.hid (OS.out.kept GR.out)
        have OB2 := Lib.hid (OB.out.kept GR.out)
        have HS : Hid (BlkShutRel w w5 gs vn A k c ls caps f b M m2 (.int .i64 0) wr) := ⟨0, _, Nat.zero_le _, rfl, grown_trans G7.out GR.out, OB2.out, OS2.out, stepsL_len _ _ _ _ _, fun a ha => by omega, fun a _ ha => stepsL_at ha⟩
        clear OS OB OS2 OB2 GR
        go_wp2
        go_loopw [20] (fun i wi => BlkShutRel w w5 gs vn A k c ls caps f b M m2 i wi) (fun i _ => m2 - (intOf i).toNat)
        case atStart => exact HS.out
        case round =>
          clear HS
          obtain ⟨a, T, ha, rfl, hg, ob, ot, htl, t1, t2⟩ := hrel
          have GR := Lib.hid hg
          have OB := Lib.hid ob
          have OT := Lib.hid ot
          have T1 := Lib.hid t1
          have T2 := Lib.hid t2
          have lsz := ot.lt
          have GG := Lib.hid (grown_trans G.out hg)
          obtain ⟨p0, p1⟩ := ob.two
          clear hg ob ot t1 t2
          by_cases hal : a < m2
          · have NX := Lib.hid (shut_next hal htl T1.out T2.out)
            have ea := T2.out a (Nat.le_refl _) hal
            have EO : Hid (openB ls caps f b M a = (decide (StepsA ls caps f M a) && decide (0 < roomI caps b (a : Int)))) := rfl
            have hrn := room_nonneg (fits_parts HFITB.out).2.2.1 (a := a) (by rw [(capsB_parts (fits_parts HFITB.out).2.1).1, HL.out, HM2.out]; exact hal)
            go_wp2_with fail
            refine (RRoom_yes vn (a : Nat) A k c ls X p d caps Ab k cb b _ (HR.out.grown (Nat.le_refl _) GG.out) GG.out.size (HX.out.grown (Nat.le_refl _) GG.out) GG.out.size ((RB.out.grown (Nat.le_refl _) GR.out).wide GR.out.size) (Nat.le_refl _) HFITB.out ⟨by omega, by rw [HM2.out]; omega⟩).mono ?_
            rintro e w7 ⟨rfl, k7⟩
            have GR := Lib.hid (grown_trans GR.out k7)
            have OB := Lib.hid (OB.out.kept k7)
            have OT := Lib.hid (OT.out.kept k7)
            have lsz := OT.out.lt
            clear k7 p0 p1
            have c0 := OT.out.cell a
            rw [bools_at (by omega), ea] at c0
            have f1 := OT.out.frozen a
            generalize roomI caps b (a : Int) = rm at *
            generalize decide (StepsA ls caps f M a) = sa at *
            generalize hop : openB ls caps f b M a = op at *
            have P2 : Hid (Own (w7.setCell ⟨gs, a, none⟩ (.bool op)) gs 4 (bools (T.set a op))) := by
              have := OT.out.put (i := a) (.bool op)
              rw [bools_set] at this
              exact this
            have FIN : Hid (BlkShutRel w w5 gs vn A k c ls caps f b M m2 (.int .i64 ((a + 1 : Nat) : Int)) (w7.setCell ⟨gs, a, none⟩ (.bool op))) := ⟨a + 1, T.set a op, by omega, rfl, grown_new GR.out hgs5 _, OB.out.setOther (by omega) _, P2.out, by rw [List.length_set]; exact htl, NX.out.1, NX.out.2⟩
            have hEO : (sa && decide (0 < rm)) = op := EO.out.symm
            clear NX EO hop P2 OT T1 T2 ea
            cases sa with
            | false =>
              obtain rfl : op = false := by rw [← hEO]; rfl
              clear hEO
              go_wp2
              go_roundw
              case rel => exact FIN.out
              case measure => simp [intOf]; omega
            | true =>
              by_cases hr : 0 < rm
              · obtain rfl : op = true := by rw [← hEO]; simp [hr]
                clear hEO
                go_wp2
                go_roundw
                case rel => exact FIN.out
                case measure => simp [intOf]; omega
              · obtain rfl : op = false := by rw [← hEO]; simp [hr]
                obtain rfl : rm = 0 := by omega
                clear hEO hr
                go_wp2
                go_roundw
                case rel => exact FIN.out
                case measure => simp [intOf]; omega
          · obtain rfl : a = m2 := by omega
            have hsz := GR.out.size
            have RX := Lib.hid ((RX.out.grown (Nat.le_refl _) GR.out).wide hsz)
            have RY := Lib.hid ((RY.out.grown (Nat.le_refl _) GR.out).wide hsz)
            have TA : Hid (∀ i, i < 2 * ls.length → T[i]?.getD false = openB ls caps f b M i) := by rw [HL.out, HM2.out]; exact T1.out
            have TLN : Hid (T.length = 2 * ls.length) := by rw [Hid, HL.out, HM2.out]; exact htl
            clear T1 T2 GR
            go_wp2_with fail
            refine (awake11_any _).mono ?_
            rintro e w7 ⟨rfl, k7⟩
            have GG := Lib.hid (grown_trans GG.out k7)
            have OB := Lib.hid (OB.out.kept k7)
            have OT := Lib.hid (OT.out.kept k7)
            have RX := Lib.hid ((RX.out.grown (Nat.le_refl _) k7).wide k7.size)
            have RY := Lib.hid ((RY.out.grown (Nat.le_refl _) k7).wide k7.size)
            clear k7 p0 p1
            obtain ⟨p0, p1⟩ := OB.out.two
            by_cases hkm : kk = most
            · subst hkm
              have hkb : (kk == kk) = true := by simp
              go_wp2_with fail
              refine (same_says (KeptInts_any gl p cl caps X d _ RX.out HLX.out hcl (HX.out.grown (Nat.le_refl _) GG.out))).mono ?_
              rintro e w11 ⟨rfl, k⟩
              have GG := Lib.hid (grown_trans GG.out k)
              have RY := Lib.hid (RY.out.grown (Nat.le_refl _) k)
              clear k
              go_wp2_with fail
              refine (same_says (KeptInts_any gm _ cm f Y f0 _ RY.out HLY.out hcm (HY.out.grown (Nat.le_refl _) GG.out))).mono ?_
              rintro e w12 ⟨rfl, k⟩
              have GG := Lib.hid (grown_trans GG.out k)
              clear k
              go_wp2
              go_ret
              exact ⟨rfl, below_of GG.out⟩
            · have hkb : (kk == most) = false := by simp [hkm]
              have NOW := Lib.hid (shut_end BK.out hkm TLN.out TA.out)
              go_wp2_with fail
              refine (RWays_m vn A k c ls gs a T sn tn _ HM2.out (HR.out.grown (Nat.le_refl _) GG.out) GG.out.size OT.out htl HMAY.out hsn htn).mono ?_
              rintro e w9 ⟨zz, rfl, hz, k⟩
              obtain rfl : zz = false := by
                cases zz
                · rfl
                · have hw := hz rfl
                  have hno := NOW.out
                  rw [HL.out, HM2.out] at hno
                  exact absurd hw hno
              have GG := Lib.hid (grown_trans GG.out k)
              have RX := Lib.hid ((RX.out.grown (Nat.le_refl _) k).wide k.size)
              have RY := Lib.hid ((RY.out.grown (Nat.le_refl _) k).wide k.size)
              clear k hz
              go_wp2_with fail
              refine (same_says (KeptInts_any gl p cl caps X d _ RX.out HLX.out hcl (HX.out.grown (Nat.le_refl _) GG.out))).mono ?_
              rintro e w11 ⟨rfl, k⟩
              have GG := Lib.hid (grown_trans GG.out k)
              have RY := Lib.hid (RY.out.grown (Nat.le_refl _) k)
              clear k
              go_wp2_with fail
              refine (same_says (KeptInts_any gm _ cm f Y f0 _ RY.out HLY.out hcm (HY.out.grown (Nat.le_refl _) GG.out))).mono ?_
              rintro e w12 ⟨rfl, k⟩
              have GG := Lib.hid (grown_trans GG.out k)
              clear k
              go_wp2
              go_ret
              exact ⟨rfl, below_of GG.out⟩

end Go.Proofs.Ytcilhidoiomfkaa
