/-
  The law PathJoins, walked.
-/
import Derived.Test.YtfldicenikkacaaPathLawA
namespace Go.Proofs.Ytfldicenikkacaa
open Go.RowKit

theorem allL_app (n : Nat) (a b : List Int) : allL n (a ++ b) = (allL n a && allL n b) := by simp [allL]

theorem join_parts {V : Int} {L : List Lk} {s : Int} {a b : List Int} (h : goesW V L s a = true) (ha : a.length ≤ 30) (hb : b.length ≤ 30) :
    formW V L s (a ++ b) = allL L.length b ∧ formW V L (endOf L s a) b = allL L.length b ∧ chain L s (a ++ b) = chain L (endOf L s a) b := by
  obtain ⟨hm, hs, _, hl, hc⟩ := goes_parts h
  have he := end_in hm a s hl hs
  refine ⟨?_, ?_, ?_⟩
  · have : a.length + b.length ≤ 64 := by omega
    simp [formW, isV, hm, hs.1, hs.2, this, allL_app, hl]
  · have : b.length ≤ 64 := by omega
    simp [formW, isV, hm, he.1, he.2, this]
  · rw [chain_app, hc, Bool.true_and]

theorem join_E {V : Int} {L : List Lk} {s : Int} {a b : List Int} (h : goesW V L s a = true) (ha : a.length ≤ 30) (hb : b.length ≤ 30) : walkE V L s (a ++ b) = walkE V L (endOf L s a) b := by
  obtain ⟨h1, h2, h3⟩ := join_parts h ha hb
  rw [walkE, walkE, h1, h2, h3]

theorem join_goes {V : Int} {L : List Lk} {s : Int} {a b : List Int} (h : goesW V L s a = true) (ha : a.length ≤ 30) (hb : b.length ≤ 30) : goesW V L s (a ++ b) = goesW V L (endOf L s a) b := by
  obtain ⟨h1, h2, h3⟩ := join_parts h ha hb
  rw [goesW, goesW, h1, h2, h3]

theorem join_vs (L : List Lk) (s : Int) (a b : List Int) : vsOf L s (a ++ b) = vsOf L s a ++ (vsOf L (endOf L s a) b).drop 1 := by simp [vsOf]

theorem held2e {w w1 : World} {k k1 i i1 : Nat} {x0 x1 : Value} (g : w.grownBy w1 none) (h : (fun w' : World => w'.cell? ⟨k, i, none⟩ = some x0 ∧ w'.cell? ⟨k1, i1, none⟩ = some x1) w) :
    (fun w' : World => w'.cell? ⟨k, i, none⟩ = some x0 ∧ w'.cell? ⟨k1, i1, none⟩ = some x1) w1 := ⟨kept g h.1, kept g h.2⟩

theorem held3c {w w1 : World} {k k1 k2 i i1 i2 : Nat} {x0 x1 x2 : Value} (g : w.grownBy w1 none) (h : (fun w' : World => w'.cell? ⟨k, i, none⟩ = some x0 ∧ w'.cell? ⟨k1, i1, none⟩ = some x1 ∧ w'.cell? ⟨k2, i2, none⟩ = some x2) w) :
    (fun w' : World => w'.cell? ⟨k, i, none⟩ = some x0 ∧ w'.cell? ⟨k1, i1, none⟩ = some x1 ∧ w'.cell? ⟨k2, i2, none⟩ = some x2) w1 := ⟨kept g h.1, kept g h.2.1, kept g h.2.2⟩

theorem okI_append {xs ys : List Int} (h : okI xs) (k : okI ys) : okI (xs ++ ys) := by
  intro i
  rcases Nat.lt_or_ge i xs.length with j | j
  · rw [List.getElem?_append_left j]; exact h i
  · rw [List.getElem?_append_right j]; exact k _

theorem step_appW {ops : Array Oper} {o : Oper} {a : Act} {w : World} {K : Act → World → Prop} {Q : Exit → Act → World → Prop} {E : Prop} (hw : Region.wanted o (yielded ops a.tmps) = true) (s x : Operand)
    (ho : o.op = .call { callee := .builtin .append, args := #[s, x], argTypes := #[26, 26] }) (base : Nat) (v : Value) (n : Nat) (ys : List Int) (hs : a.eval s = v) (hown : Mine w base v n ys)
    {B : Nat} (A : Option Addr) (m c : Nat) (xs : List Int) (hx : a.eval x = .slice A m c) (hr : Row w B A m xs) (hnil : A = none → c = 0) (hbytes : (n + m) * 8 ≤ 140737488355328) (hbase : base ≤ w.heap.size)
    (h : ∀ v' w', Mine w' base v' (n + m) (ys ++ xs) → w.grownBy w' v.ownBlock → (v'.ownBlock = v.ownBlock ∨ v'.ownBlock = some w.heap.size) → K (a.put o.dst v') w') :
    if Region.wanted o (yielded ops a.tmps) = true then Oper.wp Try.prog o a w K Q else E := by
  rw [if_pos hw]
  obtain ⟨v', w', hrun, h2, h3, h4⟩ := run_app w base o.type v n ys hown A m c xs hr hnil hbytes hbase
  unfold Oper.wp execOp
  simp only [ho, resolve, invoke, builtin, Sem.run_bind, Sem.run_pure, Result.andThen_ok, List.map_toArray, List.map_cons, List.map_nil, hs, hx, hrun]
  exact h v' w' h2 h3 h4

set_option maxRecDepth 20000 in
set_option maxHeartbeats 4000000 in
theorem PathJoins_walk (V : Int) (A : Option Addr) (n c : Nat) (L : List Lk) (s : Int) (X : Option Addr) (m d : Nat) (xs : List Int) (Y : Option Addr) (p q : Nat) (ys : List Int) (w : World) (h : InG w A n c L) (hI : In w X m d xs) (hJ : In w Y p q ys) :
    Calls Try.prog 13 #[.agg #[.int .i64 V, .slice A n c], .int .i64 s, .slice X m d, .slice Y p q] w (LawPost w) := by
  obtain ⟨hs, hnc, hc, hnil⟩ := h
  obtain ⟨hx, hmd, hd, hnilx⟩ := hI
  obtain ⟨hy, hpq, hq, hnily⟩ := hJ
  have HR := Lib.hid hs
  have HX := Lib.hid hx
  have HY := Lib.hid hy
  have HLX := Lib.hid hx.len
  have HLY := Lib.hid hy.len
  have HNX := Lib.hid hnilx
  have HNY := Lib.hid hnily
  have k0 := grow0 w (.cells #[.int .i64 V, .slice A n c] 24)
  have HR1 := Lib.hid (hs.grown (Nat.le_refl _) k0)
  have HX1 := Lib.hid (hx.grown (Nat.le_refl _) k0)
  clear hs hnil hx hnilx hy hnily k0
  go_enter Try.func13, Try.ntmps13
  go_wp2_with fail
  refine (Walk_any V s A n c L X m d xs _ HR1.out (by simp) HX1.out (by simp)).mono ?_
  rintro e w1 ⟨va, rfl, ha, k⟩
  obtain ⟨g, ob⟩ := box1 [.int .i64 V, .slice A n c] k
  have G := Lib.hid g
  have OB := Lib.hid ob
  have s1 := ob.lt
  clear g ob k HR1 HX1
  cases hgo : goesW V L s xs
  · have hne : (walkE V L s xs != 0) = true := by simp [walkE_ne hgo]
    clear hgo ha
    generalize walkE V L s xs = z at *
    go_wp2_with fail
    refine (Num0_any _ _).mono ?_
    rintro e w2 ⟨rfl, rfl⟩
    go_wp2
    go_ret
    exact ⟨rfl, below_of G.out⟩
  · have E := Lib.hid (walk_ok hgo)
    rw [E.out.1]
    have okV := walkV_ok V L s xs
    rw [E.out.2.1] at okV
    rw [E.out.2.1, vsOf_len, HLX.out] at ha
    obtain ⟨gv, cv, rfl, hcv, hgv, hrv⟩ := ha.shape (by omega) okV
    have RV := Lib.hid hrv
    go_wp2_with fail
    refine (Num0_any _ _).mono ?_
    rintro e w2 ⟨rfl, rfl⟩
    by_cases hm30 : m ≤ 30
    · by_cases hp30 : p ≤ 30
      · have HE := Lib.hid (join_E (b := ys) hgo (by rw [HLX.out]; exact hm30) (by rw [HLY.out]; exact hp30))
        have HG := Lib.hid (join_goes (b := ys) hgo (by rw [HLX.out]; exact hm30) (by rw [HLY.out]; exact hp30))
        have HV := Lib.hid (join_vs L s xs ys)
        have hv0 := end_at L xs s
        rw [HLX.out] at hv0
        have okW := walkV_ok V L s (xs ++ ys)
        have OKW := Lib.hid okW
        have okU := walkV_ok V L (endOf L s xs) ys
        have OKU := Lib.hid okU
        have HWN := Lib.hid (fun h : goesW V L (endOf L s xs) ys = true => walk_ok h)
        have HWM := Lib.hid (fun h : goesW V L s (xs ++ ys) = true => walk_ok h)
        have HZN := Lib.hid (fun h : goesW V L (endOf L s xs) ys = false => walkE_ne h)
        have HLU := Lib.hid (vsOf_len L (endOf L s xs) ys)
        have HLV := Lib.hid (vsOf_len L s xs)
        have f0 := RV.out.cellAt (i := m) (by omega)
        rw [hv0, Nat.zero_add] at f0
        obtain ⟨c0, c1⟩ := OB.out.two
        have CW : Hid (∀ (wx : World), w1.grownBy wx none → Calls Try.prog 38 #[.agg #[.int .i64 V, .slice A n c], .int .i64 (endOf L s xs), .slice Y p q] wx (SelPost wx (walkV V L (endOf L s xs) ys) (walkE V L (endOf L s xs) ys))) := fun wx k => Walk_any V _ A n c L Y p q ys wx (HR.out.grown (Nat.le_refl _) (grown_trans G.out k)) (grown_trans G.out k).size (HY.out.grown (Nat.le_refl _) (grown_trans G.out k)) (grown_trans G.out k).size
        have z2 : IntKind.i64.wrap (m : Int) = (m : Int) := IntWalk.i64_in _ (by omega)
        have z4 : (m : Int) < (m : Int) + 1 := by omega
        have z5 : ((m : Int) + 1 != (m : Int) + 1) = false := by simp
        clear E okV okW okU ha hrv hv0 hgo
        generalize endOf L s xs = en at *
        have HS3 := Lib.hid (show (fun w' : World => w'.cell? ⟨w.heap.size, 0, none⟩ = some (.int .i64 V) ∧ w'.cell? ⟨w.heap.size, 1, none⟩ = some (.slice A n c) ∧ w'.cell? ⟨gv, m, none⟩ = some (.int .i64 en)) w1 from ⟨c0, c1, f0⟩)
        have HS := Lib.hid HS3.out
        go_upto_region 6 with fail
        go_region_held3 (fun w' : World => w'.cell? ⟨w.heap.size, 0, none⟩ = some (.int .i64 V) ∧ w'.cell? ⟨w.heap.size, 1, none⟩ = some (.slice A n c) ∧ w'.cell? ⟨gv, m, none⟩ = some (.int .i64 en))
          (exact HS.out)
          (first
          | (go_at_call 38; refine (CW.out _ (by first | exact World.grownBy.refl _ _ | exact grown_drew (World.grownBy.refl _ _) | exact grown_drewN (World.grownBy.refl _ _) _)).mono ?_; rintro e w3 ⟨vu, rfl, hu, g3⟩; have G3 : Hid (w1.grownBy w3 none) := (by first | exact g3 | exact grown_undrew g3); have HS := Lib.hid (held3c G3.out HS3.out); clear g3))
        have s3 := G3.out.size
        obtain ⟨Au, cu, rfl, hcu, hnu, hru⟩ := hu.rowN OKU.out
        have RU := Lib.hid hru
        have G := Lib.hid (grown_trans G.out G3.out)
        have s3g := G.out.size
        have OB := Lib.hid (OB.out.kept G3.out)
        have RV := Lib.hid (RV.out.grown (Nat.le_refl _) G3.out)
        have HNU := Lib.hid hnu
        have OKXY : Hid (okI (xs ++ ys)) := okI_append HX.out.ok HY.out.ok
        have CC : Hid (∀ (wx : World), w3.grownBy wx none → Calls Try.prog 46 #[.slice X m d] wx (CopyPost wx m xs)) := fun wx k => CopyInts_any X m d xs wx (HX.out.grown (Nat.le_refl _) (grown_trans G.out k)) (grown_trans G.out k).size HNX.out (by omega)
        have CX : Hid (∀ (wx : World) (A6 : Option Addr) (c6 : Nat), w3.grownBy wx none → Row wx wx.heap.size A6 (m + p) (xs ++ ys) → Calls Try.prog 38 #[.agg #[.int .i64 V, .slice A n c], .int .i64 s, .slice A6 (m + p) c6] wx (SelPost wx (walkV V L s (xs ++ ys)) (walkE V L en ys))) := fun wx A6 c6 k r => HE.out ▸ Walk_any V s A n c L A6 (m + p) c6 (xs ++ ys) wx (HR.out.grown (Nat.le_refl _) (grown_trans G.out k)) (grown_trans G.out k).size r (Nat.le_refl _)
        have MU := Lib.hid hu
        clear hu hru hnu CW G3 HE HS HS3
        obtain ⟨c0, c1⟩ := OB.out.two
        have HS3 := Lib.hid (show (fun w' : World => w'.cell? ⟨w.heap.size, 0, none⟩ = some (.int .i64 V) ∧ w'.cell? ⟨w.heap.size, 1, none⟩ = some (.slice A n c)) w3 from ⟨c0, c1⟩)
        have HS := Lib.hid HS3.out
        generalize walkE V L en ys = z at *
        go_upto_region 7 with fail
        go_region_held3 (fun w' : World => w'.cell? ⟨w.heap.size, 0, none⟩ = some (.int .i64 V) ∧ w'.cell? ⟨w.heap.size, 1, none⟩ = some (.slice A n c))
          (exact HS.out)
          (first
          | (refine step_app4 rfl _ _ rfl w3.heap.size _ m xs rfl MC.out Y p q ys rfl RY5.out HNY.out (by omega) (by omega) ?_; intro v6 w6 hm6 hg6 _; obtain ⟨A6, c6, rfl, -, -, hr6⟩ := hm6.rowN OKXY.out; have hge := MC.out.own_ge; have G6 := Lib.hid (grown_none G5.out hg6 (fun g hg => by have := hge g hg; omega)); have R6 := Lib.hid hr6; have HS := Lib.hid (held2e G6.out HS3.out); clear hm6 hg6 hr6 hge)
          | (go_at_call 46; refine (CC.out _ (by first | exact World.grownBy.refl _ _ | exact grown_drew (World.grownBy.refl _ _) | exact grown_drewN (World.grownBy.refl _ _) _)).mono ?_; rintro e w5 ⟨v5, rfl, hm5, b5⟩; have G5 : Hid (w3.grownBy w5 none) := (by first | exact grown_of_below b5 | exact grown_undrew (grown_of_below b5)); have MC : Hid (Mine w5 w3.heap.size v5 m xs) := hm5; have RY5 := Lib.hid (HY.out.grown (Nat.le_refl _) (grown_trans G.out G5.out)); have s5 := G5.out.size; have HS := Lib.hid (held2e G5.out HS3.out); clear hm5 b5)
          | (go_at_call 38; refine (CX.out _ A6 c6 (by first | exact G6.out | exact grown_drew G6.out | exact grown_drewN G6.out _) (by exact R6.out)).mono ?_; rintro e w7 ⟨vw, rfl, hw, g7⟩; have G7 : Hid (w3.grownBy w7 none) := (by first | exact grown_trans G6.out g7 | exact grown_trans G6.out (grown_undrew g7)); have HS := Lib.hid (held2e G7.out HS3.out); clear g7))
        have s7 := G7.out.size
        have MW := Lib.hid hw
        have G := Lib.hid (grown_trans G.out G7.out)
        have MU := Lib.hid (MU.out.kept G7.out)
        have RV := Lib.hid (RV.out.grown (by omega) G7.out)
        clear hw R6 G6 G5 RY5 MC CC CX HS HS3 c0 c1 RU OB
        have hzz : (z == z) = true := by simp
        cases hg2 : goesW V L en ys
        · have hne : (z != 0) = true := by simp [HZN.out hg2]
          obtain ⟨Aw, cw, rfl, _⟩ := MW.out.sl
          clear hg2 HZN HWN HWM
          generalize (walkV V L s (xs ++ ys)).length = nw at *
          generalize (walkV V L en ys).length = nu at *
          go_wp2_with fail
          refine (Num0_any _ _).mono ?_
          rintro e w8 ⟨rfl, rfl⟩
          go_wp2_with fail
          refine (awake6_any _).mono ?_
          rintro e w8 ⟨rfl, k⟩
          have G := Lib.hid (grown_trans G.out k)
          clear k
          go_wp2_with fail
          refine (Num0_any _ _).mono ?_
          rintro e w9 ⟨rfl, rfl⟩
          go_wp2_with fail
          refine (Num0_any _ _).mono ?_
          rintro e w9 ⟨rfl, rfl⟩
          go_wp2
          go_ret
          exact ⟨rfl, below_of G.out⟩
        · obtain ⟨hz, hU, -⟩ := HWN.out hg2
          obtain ⟨-, hW, -⟩ := HWM.out (by rw [HG.out]; exact hg2)
          rw [HV.out] at hW
          have mu := MU.out
          have mw := MW.out
          rw [hU, HLU.out, HLY.out] at mu
          rw [hU] at OKU
          obtain ⟨gu, cu', he1, hcu', hgu, hru⟩ := mu.shape (by omega) OKU.out
          obtain ⟨Aw, cw, rfl, -, -, hrw⟩ := mw.rowN OKW.out
          have RW := Lib.hid hrw
          have RU := Lib.hid hru
          injection he1 with e1 e2 e3
          subst e1 e3
          have HW := Lib.hid hW
          rw [hU, HLU.out, HLY.out]
          have rt : ∀ o : Nat, (1 < p + 1 → o = 1) → Row w7 w7.heap.size (some ⟨gu, o, none⟩) p ((vsOf L en ys).drop 1) := by
            intro o ho
            have := RU.out.tail (k := 1) (A' := some ⟨gu, o, none⟩) (by omega) (fun hp => by rw [ho hp]; rfl)
            simpa using this
          have RTT := Lib.hid rt
          have OKT : Hid (okI (vsOf L s xs ++ (vsOf L en ys).drop 1)) := by rw [Hid, ← HW.out]; exact OKW.out
          clear rt hU hW mu mw OKU OKW hru hrw hg2 HZN HWN HWM HV HG HLU HLV MU MW RU
          generalize (vsOf L en ys).drop 1 = ut at *
          generalize vsOf L s xs = vs at *
          generalize walkV V L s (xs ++ ys) = ws at *
          have CC : Hid (∀ (wx : World), w7.grownBy wx none → Calls Try.prog 46 #[.slice (some ⟨gv, 0, none⟩) (m + 1) cv] wx (fun e w' => ∃ v, e = .returned v ∧ Mine w' w7.heap.size v (m + 1) vs ∧ wx.grownBy w' none)) := fun wx k => (CopyInts_any _ (m + 1) cv vs wx (RV.out.grown (by omega) k) (by have := k.size; omega) (by simp) (by omega)).mono (by
            rintro e w' ⟨v, rfl, hm, hb⟩
            exact ⟨v, rfl, hm.wide k.size, grown_of_below hb⟩)
          have CS : Hid (∀ (wx : World) (A9 : Option Addr) (c9 : Nat), w7.grownBy wx none → Row wx wx.heap.size A9 (m + 1 + p) (vs ++ ut) → Calls Try.prog 24 #[.slice Aw ws.length cw, .slice A9 (m + 1 + p) c9] wx (Says wx (.bool true))) := fun wx A9 c9 k r => by
            have h := same_says (SameInts0_any Aw ws.length cw ws A9 (m + 1 + p) c9 (vs ++ ut) wx (RW.out.grown (Nat.le_refl _) k) r)
            rw [HW.out, sameB_refl] at h
            rw [HW.out]
            exact h
          subst hz
          have z6 : ((p : Int) + 1 == (p : Int) + 1) = true := by simp
          have z7 : (1 : Int) ≤ (p : Int) + 1 := by omega
          have z8 : IntKind.i64.wrap ((p : Int) + 1) = (p : Int) + 1 := IntWalk.i64_in _ (by omega)
          have GK := Lib.hid (World.grownBy.refl w7 none)
          by_cases hc1 : cu = 1
          · have RT := Lib.hid (RTT.out 0 (by omega))
            subst hc1
            clear hcu hcu'
            go_wp2_with fail
            refine (Num0_any _ _).mono ?_
            rintro e w8 ⟨rfl, rfl⟩
            go_upto_region 10 with fail
            go_region_held3 (fun _ : World => True)
              (exact trivial)
              (first
              | (refine step_appW (by first | rfl | (simp [Region.wanted, yielded])) _ _ rfl w7.heap.size _ (m + 1) vs rfl MC.out _ p _ ut rfl RT9.out (by simp) (by omega) (by omega) ?_; intro v6 w6 hm6 hg6 _; obtain ⟨A6, c6, rfl, -, -, hr6⟩ := hm6.rowN OKT.out; have hge := MC.out.own_ge; have G6 := Lib.hid (grown_none G9.out hg6 (fun g hg => by have := hge g hg; omega)); have R6 := Lib.hid hr6; clear hm6 hg6 hr6 hge)
              | (go_at_call 42; refine (awake6_any _).mono ?_; rintro e w8 ⟨rfl, g⟩; have GK : Hid (w7.grownBy w8 none) := (by first | exact grown_trans GK.out g | exact grown_trans GK.out (grown_undrew g)); clear g)
              | (go_at_call 25; refine (num_says _ _).mono ?_; rintro e w8 ⟨rfl, g⟩; have GK : Hid (w7.grownBy w8 none) := (by first | exact grown_trans GK.out g | exact grown_trans GK.out (grown_undrew g)); clear g)
              | (go_at_call 46; refine (CC.out _ (by first | exact GK.out | exact grown_drew GK.out | exact grown_drewN GK.out _)).mono ?_; rintro e w9 ⟨v9, rfl, hm9, b9⟩; have G9 : Hid (w7.grownBy w9 none) := (by first | exact grown_trans GK.out b9 | exact grown_trans GK.out (grown_undrew b9)); have MC := Lib.hid hm9; have RT9 := Lib.hid (RT.out.grown (Nat.le_refl _) G9.out); have s9 := G9.out.size; clear hm9 b9)
              | (go_at_call 24; refine (CS.out _ A6 c6 (by first | exact G6.out | exact grown_drew G6.out | exact grown_drewN G6.out _) (by exact R6.out)).mono ?_; rintro e w10 ⟨rfl, g⟩; have GK : Hid (w7.grownBy w10 none) := (by first | exact grown_trans G6.out g | exact grown_trans G6.out (grown_undrew g)); clear g))
            go_wp2
            go_ret
            exact ⟨rfl, below_of (grown_trans G.out (by first | exact GK.out | exact grown_drew GK.out | exact grown_drewN GK.out _))⟩
          · have RT := Lib.hid (RTT.out 1 (fun _ => rfl))
            have hc2 : ¬ (cu : Int) = 1 := by omega
            have hc3 : ¬ (1 : Nat) = cu := by omega
            go_wp2_with fail
            refine (Num0_any _ _).mono ?_
            rintro e w8 ⟨rfl, rfl⟩
            go_upto_region 10 with fail
            go_region_held3 (fun _ : World => True)
              (exact trivial)
              (first
              | (refine step_appW (by first | rfl | (simp [Region.wanted, yielded])) _ _ rfl w7.heap.size _ (m + 1) vs rfl MC.out _ p _ ut rfl RT9.out (by simp) (by omega) (by omega) ?_; intro v6 w6 hm6 hg6 _; obtain ⟨A6, c6, rfl, -, -, hr6⟩ := hm6.rowN OKT.out; have hge := MC.out.own_ge; have G6 := Lib.hid (grown_none G9.out hg6 (fun g hg => by have := hge g hg; omega)); have R6 := Lib.hid hr6; clear hm6 hg6 hr6 hge)
              | (go_at_call 42; refine (awake6_any _).mono ?_; rintro e w8 ⟨rfl, g⟩; have GK : Hid (w7.grownBy w8 none) := (by first | exact grown_trans GK.out g | exact grown_trans GK.out (grown_undrew g)); clear g)
              | (go_at_call 25; refine (num_says _ _).mono ?_; rintro e w8 ⟨rfl, g⟩; have GK : Hid (w7.grownBy w8 none) := (by first | exact grown_trans GK.out g | exact grown_trans GK.out (grown_undrew g)); clear g)
              | (go_at_call 46; refine (CC.out _ (by first | exact GK.out | exact grown_drew GK.out | exact grown_drewN GK.out _)).mono ?_; rintro e w9 ⟨v9, rfl, hm9, b9⟩; have G9 : Hid (w7.grownBy w9 none) := (by first | exact grown_trans GK.out b9 | exact grown_trans GK.out (grown_undrew b9)); have MC := Lib.hid hm9; have RT9 := Lib.hid (RT.out.grown (Nat.le_refl _) G9.out); have s9 := G9.out.size; clear hm9 b9)
              | (go_at_call 24; refine (CS.out _ A6 c6 (by first | exact G6.out | exact grown_drew G6.out | exact grown_drewN G6.out _) (by exact R6.out)).mono ?_; rintro e w10 ⟨rfl, g⟩; have GK : Hid (w7.grownBy w10 none) := (by first | exact grown_trans G6.out g | exact grown_trans G6.out (grown_undrew g)); clear g))
            go_wp2
            go_ret
            exact ⟨rfl, below_of (grown_trans G.out (by first | exact GK.out | exact grown_drew GK.out | exact grown_drewN GK.out _))⟩
      · clear ha hrv okV E hgo
        go_wp2
        go_ret
        exact ⟨rfl, below_of G.out⟩
    · clear ha hrv okV E hgo
      go_wp2
      go_ret
      exact ⟨rfl, below_of G.out⟩

end Go.Proofs.Ytfldicenikkacaa
