/-
  The law PathLoops, walked.
-/
import Derived.Test.YtfldicenikkacaaPathLawA
namespace Go.Proofs.Ytfldicenikkacaa
open Go.RowKit

def CntRel (w : World) (n : Nat) (i : Value) (wr : World) : Prop := ∃ k : Nat, k ≤ n ∧ i = .int .i64 (k : Nat) ∧ w.grownBy wr none

theorem held2 {w w1 : World} {k k1 i i1 : Nat} {x0 x1 : Value} (g : w.grownBy w1 none) (h : (fun w' : World => w'.cell? ⟨k, i, none⟩ = some x0 ∧ w'.cell? ⟨k1, i1, none⟩ = some x1) w) :
    (fun w' : World => w'.cell? ⟨k, i, none⟩ = some x0 ∧ w'.cell? ⟨k1, i1, none⟩ = some x1) w1 := ⟨kept g h.1, kept g h.2⟩

theorem nodup_ne {xs : List Int} (h : xs.Nodup) {i j : Nat} (hi : i < xs.length) (hj : j < i) : ¬ xs[i]?.getD 0 = xs[j]?.getD 0 := by
  rw [List.getElem?_eq_getElem hi, List.getElem?_eq_getElem (by omega), Option.getD_some, Option.getD_some]
  intro e
  have := (List.getElem_inj h).1 e
  omega

set_option maxHeartbeats 4000000 in
theorem PathLoops_walk (V : Int) (A : Option Addr) (n c : Nat) (L : List Lk) (s : Int) (X : Option Addr) (m d : Nat) (xs : List Int) (w : World) (h : InG w A n c L) (hI : In w X m d xs) :
    Calls Try.prog 12 #[.agg #[.int .i64 V, .slice A n c], .int .i64 s, .slice X m d] w (LawPost w) := by
  obtain ⟨hs, hnc, hc, hnil⟩ := h
  obtain ⟨hx, hmd, hd, hnilx⟩ := hI
  have HR := Lib.hid hs
  have HX := Lib.hid hx
  have HLX := Lib.hid hx.len
  have k0 := grow0 w (.cells #[.int .i64 V, .slice A n c] 24)
  have HR1 := Lib.hid (hs.grown (Nat.le_refl _) k0)
  have HX1 := Lib.hid (hx.grown (Nat.le_refl _) k0)
  clear hs hnil hx hnilx k0
  go_enter Try.func12, Try.ntmps12
  go_wp2_with fail
  refine (Walk_any V s A n c L X m d xs _ HR1.out (by simp) HX1.out (by simp)).mono ?_
  rintro e w1 ⟨va, rfl, ha, k⟩
  obtain ⟨g, ob⟩ := box1 [.int .i64 V, .slice A n c] k
  have G := Lib.hid g
  have OB := Lib.hid ob
  have s1 := ob.lt
  clear g ob k HR1 HX1
  cases hgo : goesW V L s xs
  · have hne : (walkE V L s xs != 0) = true := by simp [walkE_ne hgo]
    clear hgo ha
    generalize walkE V L s xs = z at *
    go_wp2_with fail
    refine (Num0_any _ _).mono ?_
    rintro e w2 ⟨rfl, rfl⟩
    go_wp2
    go_ret
    exact ⟨rfl, below_of G.out⟩
  · have E := Lib.hid (walk_ok hgo)
    obtain ⟨hgk, hnd, hend, hsame⟩ := sim_goes hgo
    have h64 := (goes_parts hgo).2.2.1
    rw [HLX.out] at h64
    have hkl := sim_len L s xs
    rw [HLX.out] at hkl
    have EK := Lib.hid (walk_ok hgk)
    have okV := walkV_ok V L s xs
    have okS := simV_ok V L s xs
    have okU := walkV_ok V L s (simK L s xs)
    have okT := simV_ok V L s (simK L s xs)
    rw [E.out.2.1] at okV
    rw [E.out.2.2] at okS
    rw [EK.out.2.1] at okU
    rw [EK.out.2.2, hsame] at okT
    rw [E.out.1]
    rw [E.out.2.1, vsOf_len, HLX.out] at ha
    have hv0 := end_at L xs s
    rw [HLX.out] at hv0
    have hu0 := end_at L (simK L s xs) s
    rw [hend] at hu0
    obtain ⟨nv, hnv⟩ : ∃ nv, nv = m + 1 := ⟨_, rfl⟩
    obtain ⟨nu, hnu⟩ : ∃ nu, nu = (simK L s xs).length + 1 := ⟨_, rfl⟩
    have hul := vsOf_len L s (simK L s xs)
    rw [← hnv] at ha
    rw [← hnu] at hul
    have CS : Hid (∀ (wx : World) (B B' : Nat), Lks wx B A n L → B ≤ wx.heap.size → Row wx B' X m xs → B' ≤ wx.heap.size → Calls Try.prog 44 #[.agg #[.int .i64 V, .slice A n c], .int .i64 s, .slice X m d] wx (SelPost wx (simK L s xs) 0)) := fun wx B B' a b e f => by
      have := Simple_any V s A n c L X m d xs wx a b e f
      rwa [E.out.1, E.out.2.2] at this
    have CW : Hid (∀ (wx : World) (Y : Option Addr) (cy B B' : Nat), Lks wx B A n L → B ≤ wx.heap.size → Row wx B' Y (simK L s xs).length (simK L s xs) → B' ≤ wx.heap.size → Calls Try.prog 38 #[.agg #[.int .i64 V, .slice A n c], .int .i64 s, .slice Y (simK L s xs).length cy] wx (SelPost wx (vsOf L s (simK L s xs)) 0)) := fun wx Y cy B B' a b e f => by
      have := Walk_any V s A n c L Y (simK L s xs).length cy (simK L s xs) wx a b e f
      rwa [EK.out.1, EK.out.2.1] at this
    have CT : Hid (∀ (wx : World) (Y : Option Addr) (cy B B' : Nat), Lks wx B A n L → B ≤ wx.heap.size → Row wx B' Y (simK L s xs).length (simK L s xs) → B' ≤ wx.heap.size → Calls Try.prog 44 #[.agg #[.int .i64 V, .slice A n c], .int .i64 s, .slice Y (simK L s xs).length cy] wx (SelPost wx (simK L s xs) 0)) := fun wx Y cy B B' a b e f => by
      have := Simple_any V s A n c L Y (simK L s xs).length cy (simK L s xs) wx a b e f
      rwa [EK.out.1, EK.out.2.2, hsame] at this
    have HND := Lib.hid hnd
    have HUL := Lib.hid hul
    have HU0 := Lib.hid hu0
    have HV0 := Lib.hid hv0
    have OKV := Lib.hid okV
    have OKS := Lib.hid okS
    have OKU := Lib.hid okU
    clear hgo hgk hnd hend hsame E EK okV okS okU okT hul hu0 hv0
    generalize vsOf L s (simK L s xs) = us at *
    generalize vsOf L s xs = vs at *
    generalize simK L s xs = kp at *
    generalize endOf L s xs = en at *
    obtain ⟨gv, cv, rfl, hcv, hgv, hrv⟩ := ha.shape (by omega) OKV.out
    have RV := Lib.hid hrv
    clear ha hrv
    obtain ⟨p0, p1⟩ := OB.out.two
    go_wp2_with fail
    refine (Num0_any _ _).mono ?_
    rintro e w2 ⟨rfl, rfl⟩
    go_wp2_with fail
    refine (CS.out _ _ _ (HR.out.grown (Nat.le_refl _) G.out) G.out.size (HX.out.grown (Nat.le_refl _) G.out) G.out.size).mono ?_
    rintro e w2 ⟨vk, rfl, hk, k⟩
    have s2 := k.size
    obtain ⟨Ak, ck, rfl, _, hrk⟩ := hk.row OKS.out
    have RK := Lib.hid hrk
    have RV := Lib.hid (RV.out.grown (Nat.le_refl _) k)
    have G := Lib.hid (grown_trans G.out k)
    have OB := Lib.hid (OB.out.kept k)
    clear k hk hrk p0 p1
    obtain ⟨p0, p1⟩ := OB.out.two
    go_wp2_with fail
    refine (CW.out _ Ak ck _ _ (HR.out.grown (Nat.le_refl _) G.out) G.out.size RK.out (Nat.le_refl _)).mono ?_
    rintro e w3 ⟨vu, rfl, hu, k⟩
    have s3 := k.size
    rw [HUL.out] at hu
    obtain ⟨gu, cu, rfl, hcu, hgu, hru⟩ := hu.shape (by omega) OKU.out
    have RU := Lib.hid hru
    have RK := Lib.hid (RK.out.grown (Nat.le_refl _) k)
    have RV := Lib.hid (RV.out.grown (by omega) k)
    have G := Lib.hid (grown_trans G.out k)
    have OB := Lib.hid (OB.out.kept k)
    clear k hu hru p0 p1
    obtain ⟨p0, p1⟩ := OB.out.two
    go_wp2_with fail
    refine (CT.out _ Ak ck _ _ (HR.out.grown (Nat.le_refl _) G.out) G.out.size RK.out (by omega)).mono ?_
    rintro e w4 ⟨vt, rfl, ht, k⟩
    have s4 := k.size
    obtain ⟨At, ct, rfl, _, hrt⟩ := ht.row OKS.out
    have RT := Lib.hid hrt
    have RU := Lib.hid (RU.out.grown (Nat.le_refl _) k)
    have RK := Lib.hid (RK.out.grown (by omega) k)
    have RV := Lib.hid (RV.out.grown (by omega) k)
    have G := Lib.hid (grown_trans G.out k)
    clear k ht hrt p0 p1 OB CS CW CT
    have f0 := RU.out.cellAt (i := kp.length) (by omega)
    have f1 := RV.out.cellAt (i := m) (by omega)
    rw [HU0.out, Nat.zero_add] at f0
    rw [HV0.out, Nat.zero_add] at f1
    have C1 : Hid (∀ wx : World, w4.grownBy wx none → Calls Try.prog 24 #[.slice Ak kp.length ck, .slice At kp.length ct] wx (Says wx (.bool true))) := fun wx k => sameB_refl kp ▸ same_says (SameInts0_any Ak kp.length ck kp At kp.length ct kp wx (RK.out.grown (by omega) k) (RT.out.grown (Nat.le_refl _) k))
    have hS : (fun w' : World => w'.cell? ⟨gu, kp.length, none⟩ = some (.int .i64 en) ∧ w'.cell? ⟨gv, m, none⟩ = some (.int .i64 en)) w4 := ⟨f0, f1⟩
    have HS := Lib.hid hS
    have GK := Lib.hid (World.grownBy.refl w4 none)
    subst hnu hnv
    have x3 : ((kp.length : Int) + 1 == 0) = false := by simp; omega
    have x4 : ((m : Int) + 1 == 0) = false := by simp; omega
    have x7 : (en != en) = false := by simp
    have x8 : (0 : Int) ≤ (kp.length : Int) := by omega
    have x9 : (0 : Int) ≤ (m : Int) := by omega
    have z1 : IntKind.i64.wrap (kp.length : Int) = (kp.length : Int) := IntWalk.i64_in _ (by omega)
    have z2 : IntKind.i64.wrap (m : Int) = (m : Int) := IntWalk.i64_in _ (by omega)
    have z3 : (kp.length : Int) < (kp.length : Int) + 1 := by omega
    have z4 : (m : Int) < (m : Int) + 1 := by omega
    clear hS f0 f1
    generalize kp.length = kn at *
    go_upto_region 7 with fail
    go_region_held3 (fun w' : World => w'.cell? ⟨gu, kn, none⟩ = some (.int .i64 en) ∧ w'.cell? ⟨gv, m, none⟩ = some (.int .i64 en))
      (exact HS.out)
      (first
        | (go_at_call 24; refine (C1.out _ (by first | exact GK.out | exact grown_drew GK.out | exact grown_drewN GK.out _)).mono ?_; rintro e w8 ⟨rfl, g⟩; have GK : Hid (w4.grownBy w8 none) := (by first | exact grown_trans GK.out g | exact grown_trans (grown_drew GK.out) g | exact grown_trans (grown_drewN GK.out _) g); have HS := Lib.hid (held2 g HS.out); clear g)
        | (go_at_call 25; refine (num_says _ _).mono ?_; rintro e w8 ⟨rfl, g⟩; have GK : Hid (w4.grownBy w8 none) := (by first | exact grown_trans GK.out g | exact grown_trans (grown_drew GK.out) g | exact grown_trans (grown_drewN GK.out _) g); have HS := Lib.hid (held2 g HS.out); clear g))
    clear C1 RK RT HS HR HX RV
    go_wp2
    go_loopw [15] (fun i wr => CntRel w4 (kn + 1) i wr) (fun i _ => kn + 1 - (intOf i).toNat)
    case atStart => exact ⟨0, by omega, rfl, by first | exact GK.out | exact grown_drew GK.out | exact grown_drewN GK.out _⟩
    case round =>
      clear GK
      obtain ⟨a, hal, rfl, hg⟩ := hrel
      have GK := Lib.hid hg
      by_cases hlt : a < kn + 1
      · have HS : Hid (CntRel w4 a (.int .i64 0) wr) := ⟨0, by omega, rfl, hg⟩
        clear hg GK
        go_wp2
        go_loopw [16] (fun i wr => CntRel w4 a i wr) (fun i _ => a - (intOf i).toNat)
        case atStart => exact HS.out
        case round =>
          clear HS
          obtain ⟨b, hbl, rfl, hg⟩ := hrel
          have GK := Lib.hid hg
          by_cases hlb : b < a
          · have d0 := kept hg (RU.out.cellAt (i := a) (by omega))
            have d1 := kept hg (RU.out.cellAt (i := b) (by omega))
            rw [Nat.zero_add] at d0 d1
            have hne := nodup_ne HND.out (i := a) (j := b) (by rw [HUL.out]; omega) hlb
            have hbe : (us[a]?.getD 0 == us[b]?.getD 0) = false := by simp [hne]
            clear hg hne
            generalize us[a]?.getD 0 = ya at *
            generalize us[b]?.getD 0 = yb at *
            go_wp2_with fail
            go_quiet (fail)
            go_wp2
            go_roundw
            case rel => exact ⟨b + 1, by omega, by go_num, grown_drewN GK.out _⟩
            case measure => simp [intOf]; omega
          · obtain rfl : b = a := by omega
            clear hg
            go_wp2
            go_roundw
            case rel => exact ⟨b + 1, by omega, by go_num, GK.out⟩
            case measure => simp [intOf]; omega
      · obtain rfl : a = kn + 1 := by omega
        clear hg
        go_wp2_with fail
        refine (awake6_any _).mono ?_
        rintro e w9 ⟨rfl, k⟩
        have G := Lib.hid (grown_trans G.out (grown_trans GK.out k))
        clear k
        go_wp2
        go_ret
        exact ⟨rfl, below_of G.out⟩

end Go.Proofs.Ytfldicenikkacaa
