/-
  The reference's Simple.
-/
import Derived.Test.YtfldicenikkacaaPathE
namespace Go.Proofs.Ytfldicenikkacaa
open Go.RowKit

def RSimRel (w : World) (L : List Lk) (s : Int) (m : Nat) (xs : List Int) (o p i : Value) (wr : World) : Prop :=
  ∃ k : Nat, k ≤ m ∧ i = .int .i64 (k : Nat) ∧ w.grownBy wr none ∧ Duo wr w.heap.size o p (simK L s (xs.take k)) (vsOf L s (simK L s (xs.take k)))

def RInRel (w : World) (kp vs : List Int) (l tv : Int) (o p j : Value) (wr : World) : Prop :=
  ∃ t : Nat, j = .int .i64 (t : Nat) ∧ w.grownBy wr none ∧
    ((t ≤ vs.length ∧ (∀ u, u < t → ¬ vs[u]?.getD 0 = tv) ∧ Duo wr w.heap.size o p (kp ++ [l]) (vs ++ [tv])) ∨
      (∃ i : Nat, idx tv vs = some i ∧ t = i + 1 ∧ Duo wr w.heap.size o p (kp.take i) (vs.take (i + 1))))

def lenOf : Value → Nat | .slice _ n _ => n | _ => 0

theorem vsOf_get (L : List Lk) (s : Int) {xs : List Int} {k : Nat} (h : k < xs.length) : (vsOf L s xs)[k + 1]?.getD 0 = tow L (xs[k]?.getD 0) := by
  simp [vsOf, List.getElem?_eq_getElem h]

theorem idx_no {x : Int} {xs : List Int} (h : ∀ j, j < xs.length → ¬ xs[j]?.getD 0 = x) : idx x xs = none := idx_none.2 (not_mem_of h)

theorem get_app {xs ys : List Int} {i : Nat} (h : i < xs.length) : (xs ++ ys)[i]?.getD 0 = xs[i]?.getD 0 := by rw [List.getElem?_append_left h]

theorem okI_app {xs : List Int} {x : Int} (h : okI xs) (hx : bd64 x) : okI (xs ++ [x]) := by
  intro i
  rcases Nat.lt_or_ge i xs.length with k | k
  · rw [get_app k]; exact h i
  · rcases Nat.eq_or_lt_of_le k with e | e
    · subst e; unfold bd64 at hx; simpa using hx
    · rw [List.getElem?_eq_none (by simp; omega)]; simp

set_option maxHeartbeats 2000000 in
theorem RSimple_any (V s : Int) (A : Option Addr) (n c : Nat) (L : List Lk) (X : Option Addr) (m d : Nat) (xs : List Int) (w : World) {B B' : Nat} (h : Lks w B A n L) (hB : B ≤ w.heap.size) (hx : Row w B' X m xs) (hB' : B' ≤ w.heap.size) :
    Calls Try.prog 45 #[.agg #[.int .i64 V, .slice A n c], .int .i64 s, .slice X m d] w (SelPost w (simV V L s xs) (walkE V L s xs)) := by
  have hm := hx.small
  have HLX := Lib.hid hx.len
  have HX1 := Lib.hid (hx.grown hB' (grow0 w (.cells #[.int .i64 V, .slice A n c] 24)))
  have HR1 := Lib.hid (h.grown hB (grow0 w (.cells #[.int .i64 V, .slice A n c] 24)))
  have HR := Lib.hid h
  clear h hx
  go_enter Try.func45, Try.ntmps45
  go_wp2_with fail
  refine (RWalk_any V s A n c L X m d xs _ HR1.out (by simp; omega) HX1.out (by simp; omega)).mono ?_
  rintro e w1 ⟨v, rfl, hv, g1⟩
  have HX := Lib.hid (HX1.out.grown (by simp; omega) g1)
  have G := Lib.hid (grown_trans (grow0 _ _) g1)
  have hsz := G.out.size
  clear g1 HR1 HX1
  cases hgo : goesW V L s xs
  · have E := Lib.hid (walk_no hgo)
    have hne : (walkE V L s xs != 0) = true := by simp [walkE_ne hgo]
    clear hgo hv
    generalize walkE V L s xs = z at *
    go_wp2
    go_ret2
    exact ⟨.slice none 0 0, rfl, by rw [E.out.2.2]; exact Mine.nil _ _, G.out⟩
  · have E := Lib.hid (walk_ok hgo)
    obtain ⟨hmay, hs, h64, hall, hch⟩ := goes_parts hgo
    rw [HLX.out] at h64
    rw [E.out.1]
    have hsb : bd64 s := by have := may_small hmay; unfold bd64; omega
    have HOK := Lib.hid (vs_ok HR.out hsb)
    rw [E.out.2.1, vsOf_len, HLX.out] at hv
    obtain ⟨gv, cv, rfl, hcv, hgv, hrv⟩ := hv.shape (by omega) (HOK.out xs)
    have HRV := Lib.hid hrv
    have HS : Hid (RSimRel w1 L s m xs (.slice none 0 0) (.slice (some ⟨w1.heap.size, 0, none⟩) 1 1) (.int .i64 0) (w1.alloc (.cells #[.int .i64 s] 3))) :=
      ⟨0, Nat.zero_le _, rfl, grow0 _ _, Mine.nil _ _, Mine.lit [s] 1 rfl rfl rfl (Nat.le_refl _) (by simp), (apart_nil _).1⟩
    clear hgo hmay hs hall hch hsb hv hrv
    go_wp2
    go_loopw [10, 11, 12] (fun o p i wr => RSimRel w1 L s m xs o p i wr) (fun _ _ i _ => m - (intOf i).toNat)
    case atStart => exact HS.out
    case round =>
      clear HS
      obtain ⟨k, hk, rfl, hg, duo⟩ := hrel
      have G1 := Lib.hid hg
      have hs1 := hg.size
      by_cases hlt : k < m
      · obtain ⟨b, off, hA, hb, hcell⟩ := HX.out.at_ (by omega)
        subst hA
        have d0 := kept hg (hcell k hlt)
        have e1 := HRV.out.cellAt (i := k + 1) (by omega)
        rw [vsOf_get L s (by rw [HLX.out]; exact hlt), Nat.zero_add] at e1
        have e0 := kept hg e1
        have HE1 := Lib.hid e1
        clear e1
        have HNX := Lib.hid (sim_step L s (xs := xs) (k := k) (by rw [HLX.out]; exact hlt))
        have hkl : (simK L s (xs.take k)).length ≤ 64 := by have := sim_len L s (xs.take k); rw [List.length_take] at this; omega
        have hbl := HX.out.ok k
        have hbt : bd64 (tow L (xs[k]?.getD 0)) := (HR.out.ok _).2.1
        generalize xs[k]?.getD 0 = l at *
        have HSS := Lib.hid (fun (kp : List Int) (i : Nat) => step_some (L := L) (s := s) (l := l) (kept := kp) (i := i))
        have HSN := Lib.hid (fun (kp : List Int) => step_none (L := L) (s := s) (l := l) (kept := kp))
        have HVA := Lib.hid (fun (kp : List Int) => vsOf_app L s kp l)
        generalize tow L l = tv at *
        generalize simK L s (xs.take k) = kp at *
        have hvl := vsOf_len L s kp
        have HVT := Lib.hid (vsOf_take L s kp)
        have HOKV := Lib.hid (HOK.out kp)
        have hx1 : IntKind.i64.wrap ((k : Int) + 1) = (k : Int) + 1 := IntWalk.i64_in _ (by omega)
        have hx2 : ((k : Int) + 1).toNat = k + 1 := by omega
        have hx3 : (k : Int) + 1 < ((m + 1 : Nat) : Int) := by omega
        have hx4 : (0 : Int) ≤ (k : Int) + 1 := by omega
        have D1 := Lib.hid (duo.kept (grow0 _ (.cells #[.int .i64 l] 3)))
        have HJ := Lib.hid (Row.newAt (w := wr) (g := wr.heap.size) (n := 1) (vs := #[.int .i64 l]) [l] rfl rfl rfl (by simp) (by simp; exact hbl))
        have hge := duo.S.own_ge
        have HGE := Lib.hid hge
        clear hcell hg hge duo
        go_wp2_with (first | (at_builtin; refine wpList_app _ rfl _ _ rfl w1.heap.size _ kp.length kp rfl D1.out.S _ 1 1 [l] rfl HJ.out (by simp) (by omega) (by simp; omega) ?_))
        intro v1 w3 hm1 hg3 ho3
        have G3 := Lib.hid (grown_none (grown_alloc G1.out (.cells #[.int .i64 l] 3)) hg3 (fun g hg => by have := HGE.out g hg; omega))
        have D3 := Lib.hid (D1.out.stepS (s' := kp ++ [l]) (by simpa using hm1) hg3 (by simpa using ho3))
        have hs3 := G3.out.size
        clear hm1 hg3 ho3 D1 HJ HGE d0 e0
        have e0 := kept G3.out HE1.out
        have D4 := Lib.hid (D3.out.kept (grow0 _ (.cells #[.int .i64 tv] 3)))
        have HJ := Lib.hid (Row.newAt (w := w3) (g := w3.heap.size) (n := 1) (vs := #[.int .i64 tv]) [tv] rfl rfl rfl (by simp) (by simp; exact hbt))
        go_wp2_with (first | (at_builtin; refine wpList_app _ rfl _ _ rfl w1.heap.size _ (vsOf L s kp).length (vsOf L s kp) rfl D4.out.O _ 1 1 [tv] rfl HJ.out (by simp) (by omega) (by simp; omega) ?_))
        intro v2 w4 hm1 hg3 ho3
        have HGE := Lib.hid D3.out.O.own_ge
        have G4 := Lib.hid (grown_none (grown_alloc G3.out (.cells #[.int .i64 tv] 3)) hg3 (fun g hg => by have := HGE.out g hg; omega))
        have D5 := Lib.hid (D4.out.stepO (o' := vsOf L s kp ++ [tv]) (by simpa [hvl] using hm1) hg3 (by simpa using ho3))
        have HS : Hid (RInRel w1 kp (vsOf L s kp) l tv v1 v2 (.int .i64 0) w4) := ⟨0, rfl, G4.out, .inl ⟨by omega, by omega, D5.out⟩⟩
        clear hm1 hg3 ho3 D3 D4 D5 HJ HGE G3 G4 e0
        have HSS := Lib.hid (HSS.out kp)
        have HSN := Lib.hid (HSN.out kp)
        have HVA := Lib.hid (HVA.out kp)
        generalize vsOf L s kp = vs at *
        go_wp2
        go_loopw [10, 11, 13] (fun o p i wr => RInRel w1 kp vs l tv o p i wr) (fun _ p i _ => lenOf p - (intOf i).toNat)
        case atStart => exact HS.out
        case round =>
          clear HS
          obtain ⟨t, rfl, hg, hd⟩ := hrel
          have G4 := Lib.hid hg
          have e0 := kept hg HE1.out
          rcases hd with ⟨htl, hno, duo⟩ | ⟨i, hi, rfl, duo⟩
          · have hlo : (kp ++ [l]).length = kp.length + 1 := by simp
            have hlp : (vs ++ [tv]).length = kp.length + 2 := by simp [hvl]
            obtain ⟨np, hnp⟩ : ∃ np, np = kp.length + 2 := ⟨_, rfl⟩
            obtain ⟨no, hnoo⟩ : ∃ no, no = kp.length + 1 := ⟨_, rfl⟩
            have hS := duo.S
            have hO := duo.O
            rw [hlo, ← hnoo] at hS
            rw [hlp, ← hnp] at hO
            have HLO := Lib.hid (hnoo.trans hlo.symm)
            have HLP := Lib.hid (hnp.trans hlp.symm)
            have hp1 : np ≤ kp.length + 2 := by omega
            have hp2 : kp.length + 2 ≤ np := by omega
            have ho1 : no ≤ kp.length + 1 := by omega
            have ho2 : kp.length + 1 ≤ no := by omega
            obtain ⟨gp, cp, rfl, hcp, _, hrp⟩ := hO.shape (by omega) (okI_app HOKV.out hbt)
            rcases hS.two with ⟨rfl, h0⟩ | ⟨go, co, rfl, hco, hgo, hcm⟩
            · omega
            · have D := Lib.hid duo
              have HNO := Lib.hid hno
              by_cases hlt2 : t < kp.length + 1
              · have f0 := hrp.cellAt (i := t) (by omega)
                rw [get_app (by omega), Nat.zero_add] at f0
                have hy1 : IntKind.i64.wrap ((t : Int) + 1) = (t : Int) + 1 := IntWalk.i64_in _ (by omega)
                have hy2 : ((t : Int) + 1).toNat = t + 1 := by omega
                have hy3 : (t : Int) < (np : Int) - 1 := by omega
                have hy4 : (t : Int) + 1 ≤ (cp : Int) := by omega
                have hy5 : (t : Int) ≤ (co : Int) := by omega
                have hy6 : IntKind.i64.wrap ((np : Int) - 1) = (np : Int) - 1 := IntWalk.i64_in _ (by omega)
                by_cases he : vs[t]?.getD 0 = tv
                · have HI := Lib.hid (idx_of (xs := vs) (k := t) (by omega) he hno)
                  have HT1 : Hid (kp.take t = (kp ++ [l]).take t) := (List.take_append_of_le_length (by omega)).symm
                  have HT2 : Hid (vs.take (t + 1) = (vs ++ [tv]).take (t + 1)) := (List.take_append_of_le_length (by omega)).symm
                  rw [he] at f0
                  have hne : (tv == tv) = true := by simp
                  clear he hg hno duo hS hO hrp hlo hlp hnp hnoo
                  go_wp2_with fail
                  go_quiet (fail)
                  go_wp2
                  go_roundw
                  case rel => exact ⟨t + 1, by go_num, grown_drewN G4.out _, .inr ⟨t, HI.out, rfl, (D.out.drewN _).cut HLO.out HLP.out HT1.out HT2.out (by simp; omega) (by simp; omega)⟩⟩
                  case measure => simp [intOf, lenOf]; omega
                · have HNO2 : Hid (∀ u, u < t + 1 → ¬ vs[u]?.getD 0 = tv) := fun u hu => by
                    rcases Nat.lt_or_ge u t with a | a
                    · exact HNO.out u a
                    · obtain rfl : u = t := by omega
                      exact he
                  have hne : (vs[t]?.getD 0 == tv) = false := by simp [he]
                  clear he hg hno duo hS hO hrp hlo hlp hnp hnoo
                  generalize vs[t]?.getD 0 = y at *
                  go_wp2_with fail
                  go_quiet (fail)
                  go_wp2
                  go_roundw
                  case rel => exact ⟨t + 1, by go_num, grown_drewN G4.out _, .inl ⟨by omega, HNO2.out, D.out.drewN _⟩⟩
                  case measure => simp [intOf, lenOf]; omega
              · have EI := Lib.hid (idx_no (x := tv) (xs := vs) fun j hj => hno j (by omega))
                have HE := Lib.hid (HNX.out.trans (HSN.out EI.out))
                have hy3 : ¬ (t : Int) < (np : Int) - 1 := by omega
                have hy6 : IntKind.i64.wrap ((np : Int) - 1) = (np : Int) - 1 := IntWalk.i64_in _ (by omega)
                clear hg hno duo hS hO hrp hlo hlp hnp hnoo
                go_wp2
                go_roundw
                case rel => exact ⟨k + 1, by omega, by go_num, G4.out, by rw [HE.out, HVA.out]; exact D.out⟩
                case measure => simp [intOf]; omega
          · obtain ⟨hil, _⟩ := idx_some hi
            have hlo : (kp.take i).length = i := by rw [List.length_take]; omega
            have hlp : (vs.take (i + 1)).length = i + 1 := by rw [List.length_take]; omega
            obtain ⟨Ap, cp, rfl, _⟩ := duo.O.sl
            have HE := Lib.hid (HNX.out.trans (HSS.out i hi))
            have D := Lib.hid duo
            obtain ⟨np, hnp⟩ : ∃ np, np = (vs.take (i + 1)).length := ⟨_, rfl⟩
            rw [← hnp] at D ⊢
            have hp1 : np ≤ i + 1 := by omega
            have hp2 : i + 1 ≤ np := by omega
            have hy3 : ¬ ((i + 1 : Nat) : Int) < (np : Int) - 1 := by omega
            have hy6 : IntKind.i64.wrap ((np : Int) - 1) = (np : Int) - 1 := IntWalk.i64_in _ (by omega)
            clear hg hi duo hlo hlp hnp
            obtain ⟨t, ht⟩ : ∃ t, t = i + 1 := ⟨_, rfl⟩
            rw [← ht] at hy3 ⊢
            clear ht
            go_wp2
            go_roundw
            case rel => exact ⟨k + 1, by omega, by go_num, G4.out, by rw [HE.out, HVT.out]; exact D.out⟩
            case measure => simp [intOf]; omega
      · obtain rfl : k = m := by omega
        have ex : xs.take k = xs := List.take_of_length_le (by rw [HLX.out]; exact Nat.le_refl _)
        rw [ex] at duo
        have D := Lib.hid duo
        clear hg ex duo
        go_wp2
        go_ret2
        exact ⟨_, ret_sel E.out.1, by rw [E.out.2.2]; exact D.out.S.wide (by omega), grown_trans G.out G1.out⟩

end Go.Proofs.Ytfldicenikkacaa
