/-
  path.Simple.
-/
import Derived.Test.YtfldicenikkacaaPathD
namespace Go.Proofs.Ytfldicenikkacaa
open Go.RowKit

def SimRel (w : World) (V : Int) (A : Option Addr) (n c : Nat) (L : List Lk) (s : Int) (m : Nat) (xs : List Int) (o p i : Value) (wr : World) : Prop :=
  ∃ k : Nat, k ≤ m ∧ i = .int .i64 (k : Nat) ∧ w.grownBy wr none ∧ Own wr w.heap.size 24 [.int .i64 V, .slice A n c] ∧ Duo wr (w.heap.size + 1) o p (simK L s (xs.take k)) (vsOf L s (simK L s (xs.take k)))

theorem Mine.two {w : World} {base : Nat} {v : Value} {n : Nat} {xs : List Int} (h : Mine w base v n xs) : (v = .slice none 0 0 ∧ n = 0) ∨ ∃ g c, v = .slice (some ⟨g, 0, none⟩) n c ∧ n ≤ c ∧ base ≤ g ∧ c ≤ 9223372036854775807 := by
  rcases h.2 with h | ⟨g, cap, cur, rfl, hb, _, hnc, hm, _⟩
  · exact .inl h
  · exact .inr ⟨g, cap, rfl, hnc, hb, by unfold maxLen at hm; omega⟩

theorem Duo.cut {w : World} {base : Nat} {A A' : Option Addr} {c c' i : Nat} {n n' : Nat} {s o s' o' : List Int} (t : Duo w base (.slice A n c) (.slice A' n' c') s o) (hn : n = s.length) (hn' : n' = o.length) (e : s' = s.take i) (e' : o' = o.take (i + 1)) (hi : i ≤ s.length) (hi' : i + 1 ≤ o.length) :
    Duo w base (.slice A i c) (.slice A' (i + 1) c') s' o' := by
  subst e e' hn hn'
  refine ⟨?_, ?_, apart_cut t.so⟩
  · have := t.S.take hi
    rw [List.length_take, Nat.min_eq_left hi]
    exact this
  · have := t.O.take hi'
    rw [List.length_take, Nat.min_eq_left hi']
    exact this

theorem Duo.drewN {w : World} {base : Nat} {x y : Value} {s o : List Int} (t : Duo w base x y s o) (k : Nat) : Duo (w.drewN k) base x y s o := t.kept (grown_drewN (World.grownBy.refl w none) k)

set_option maxHeartbeats 1000000 in
theorem Simple_any (V s : Int) (A : Option Addr) (n c : Nat) (L : List Lk) (X : Option Addr) (m d : Nat) (xs : List Int) (w : World) {B B' : Nat} (h : Lks w B A n L) (hB : B ≤ w.heap.size) (hx : Row w B' X m xs) (hB' : B' ≤ w.heap.size) :
    Calls Try.prog 44 #[.agg #[.int .i64 V, .slice A n c], .int .i64 s, .slice X m d] w (SelPost w (simV V L s xs) (walkE V L s xs)) := by
  have hn := h.small
  have hm := hx.small
  have HL := Lib.hid h.len
  have HLX := Lib.hid hx.len
  have HR := Lib.hid h
  have HX := Lib.hid hx
  have HR1 := Lib.hid (h.grown hB (grow0 w (.cells #[.int .i64 V, .slice A n c] 24)))
  have HX1 := Lib.hid (hx.grown hB' (grow0 w (.cells #[.int .i64 V, .slice A n c] 24)))
  clear h hx
  go_enter Try.func44, Try.ntmps44
  go_wp2_with fail
  refine (Walk_any V s A n c L X m d xs _ HR1.out (by simp; omega) HX1.out (by simp; omega)).mono ?_
  rintro e w1 ⟨v, rfl, hv, g1⟩
  obtain ⟨g, o2⟩ := box1 [.int .i64 V, .slice A n c] g1
  have G := Lib.hid g
  have O2 := Lib.hid o2
  clear g g1 o2 HR1 HX1 hv
  cases hgo : goesW V L s xs
  · have E := Lib.hid (walk_no hgo)
    have hne : (walkE V L s xs != 0) = true := by simp [walkE_ne hgo]
    clear hgo
    generalize walkE V L s xs = z at *
    go_wp2
    go_ret2
    exact ⟨.slice none 0 0, rfl, by rw [E.out.2.2]; exact Mine.nil _ _, G.out⟩
  · have E := Lib.hid (walk_ok hgo)
    obtain ⟨hmay, hs, h64, hall, hch⟩ := goes_parts hgo
    rw [HLX.out] at h64
    rw [HL.out] at hall
    have HALL := Lib.hid hall
    rw [E.out.1]
    have hsb : bd64 s := by have := may_small hmay; unfold bd64; omega
    have HOK := Lib.hid (vs_ok HR.out hsb)
    have HS : Hid (SimRel w V A n c L s m xs (.slice none 0 0) (.slice (some ⟨w1.heap.size, 0, none⟩) 1 1) (.int .i64 0) (w1.alloc (.cells #[.int .i64 s] 3))) :=
      ⟨0, Nat.zero_le _, rfl, grown_alloc G.out _, O2.out.alloc _, Mine.nil _ _, Mine.lit [s] 1 rfl rfl rfl (by have := O2.out.lt; omega) (by simp), (apart_nil _).1⟩
    clear hgo hmay hs hall hch O2 G hsb
    go_wp2
    go_loopw [10, 11, 30] (fun o p i wr => SimRel w V A n c L s m xs o p i wr) (fun _ _ i _ => m - (intOf i).toNat)
    case atStart => exact HS.out
    case round =>
      clear HS
      obtain ⟨k, hk, rfl, hg, ob, duo⟩ := hrel
      have G := Lib.hid hg
      have hsz := ob.lt
      obtain ⟨c0, c1⟩ := ob.two
      have O := Lib.hid ob
      by_cases hlt : k < m
      · obtain ⟨b, off, hA, hb, hcell⟩ := HX.out.at_ (by omega)
        subst hA
        have d0 := kept hg (hcell k hlt)
        obtain ⟨j, hj, hjx⟩ := allL_get HALL.out (i := k) (by rw [HLX.out]; exact hlt)
        rw [hjx] at d0
        obtain ⟨b2, off2, hA2, hb2, hcell2⟩ := HR.out.cells (by omega)
        subst hA2
        obtain ⟨e0, e1, e2⟩ := hcell2 j hj
        have e1 := kept hg e1
        have HNX := Lib.hid (sim_step L s (xs := xs) (k := k) (by rw [HLX.out]; exact hlt))
        rw [hjx] at HNX
        have hkl : (simK L s (xs.take k)).length ≤ 64 := by have := sim_len L s (xs.take k); rw [List.length_take] at this; omega
        have et : tow L (j : Int) = (at3 L j).2.1 := by simp [tow]
        have HSS := Lib.hid (fun (kp : List Int) (i : Nat) => step_some (L := L) (s := s) (l := (j : Int)) (kept := kp) (i := i))
        have HSN := Lib.hid (fun (kp : List Int) => step_none (L := L) (s := s) (l := (j : Int)) (kept := kp))
        rw [et] at HSS HSN
        have hbt := (HR.out.ok j).2.1
        have HVA : Hid (∀ kp, vsOf L s (kp ++ [(j : Int)]) = vsOf L s kp ++ [(at3 L j).2.1]) := fun kp => by rw [vsOf_app, et]
        generalize simK L s (xs.take k) = kp at *
        generalize (at3 L j).2.1 = tv at *
        have hvl := vsOf_len L s kp
        have hok := HOK.out kp
        have hmo := duo.O
        have hms := duo.S
        rw [hvl] at hmo
        obtain ⟨gv, cv, rfl, hcv, hgv, hrv⟩ := hmo.shape (by omega) hok
        have HRV := Lib.hid hrv
        have D := Lib.hid duo
        clear hcell hcell2 hg ob duo hmo e0 e2 et hjx hrv hok
        go_wp2_with fail
        refine (Index_any tv _ _ cv _ _ HRV.out).mono ?_
        rintro e w2 ⟨rfl, g2⟩
        have G := Lib.hid (grown_trans G.out g2)
        have O := Lib.hid (O.out.kept g2)
        have D := Lib.hid (D.out.kept g2)
        clear g2 HRV c0 c1 d0 e1
        cases hi : idx tv (vsOf L s kp) with
        | some i =>
          have hiv : idxV tv (vsOf L s kp) = (i : Int) := by rw [idxV, hi]
          rw [hiv]
          have hib := (idx_some hi).1
          rw [hvl] at hib
          have HE := Lib.hid (HNX.out.trans (HSS.out kp i hi))
          have HT := Lib.hid (vsOf_take L s kp i)
          clear HSS HSN HVA hi hiv
          have hw1 : IntKind.i64.wrap ((i : Int) + 1) = (i : Int) + 1 := IntWalk.i64_in _ (by omega)
          have ht1 : ((i : Int) + 1).toNat = i + 1 := by omega
          have hl1 : (i : Int) + 1 ≤ (cv : Int) := by omega
          have hge : (0 : Int) ≤ (i : Int) := by omega
          rcases hms.two with ⟨rfl, h0⟩ | ⟨gk, ck, rfl, hck, hgk, hcm⟩
          · have hi0 : i = 0 := by clear hw1 ht1 hl1 hge; omega
            subst hi0
            go_wp2_with fail
            go_quiet (fail)
            go_wp2
            go_roundw
            case rel => exact ⟨k + 1, by omega, by go_num, grown_drewN G.out _, O.out.drewN _, by rw [HE.out, HT.out]; exact (D.out.drewN _).cut h0.symm hvl.symm rfl rfl (by omega) (by omega)⟩
            case measure => simp [intOf]; omega
          · have hl0 : (i : Int) ≤ (ck : Int) := by omega
            go_wp2_with fail
            go_quiet (fail)
            go_wp2
            go_roundw
            case rel => exact ⟨k + 1, by omega, by go_num, grown_drewN G.out _, O.out.drewN _, by rw [HE.out, HT.out]; exact (D.out.drewN _).cut rfl hvl.symm rfl rfl (by omega) (by omega)⟩
            case measure => simp [intOf]; omega
        | none =>
          have hiv : idxV tv (vsOf L s kp) = -1 := by rw [idxV, hi]
          rw [hiv]
          have HE := Lib.hid (HNX.out.trans (HSN.out kp hi))
          clear HSS HSN hi hiv
          have D1 := Lib.hid (D.out.kept (grow0 _ (.cells #[.int .i64 (j : Nat)] 3)))
          have HJ := Lib.hid (Row.newAt (w := w2) (g := w2.heap.size) (n := 1) (vs := #[.int .i64 (j : Nat)]) [(j : Int)] rfl rfl rfl (by simp) (by simp; omega))
          have hs2 := O.out.lt
          go_wp2_with (first | (at_builtin; refine wpList_app _ rfl _ _ rfl (w.heap.size + 1) _ kp.length kp rfl D1.out.S _ 1 1 [(j : Int)] rfl HJ.out (by simp) (by omega) (by simp; omega) ?_))
          intro v1 w3 hm1 hg3 ho3
          have hge := D.out.S.own_ge
          have G3 := Lib.hid (grown_none (grown_alloc G.out (.cells #[.int .i64 (j : Nat)] 3)) hg3 (fun g hg => by have := hge g hg; omega))
          have O3 := Lib.hid (Own.kept' (O.out.alloc (.cells #[.int .i64 (j : Nat)] 3)) hg3 (fun e => by have := hge _ e; omega))
          have D3 := Lib.hid (D1.out.stepS (s' := kp ++ [(j : Int)]) (by simpa using hm1) hg3 (by simpa using ho3))
          have hs3 := O3.out.lt
          clear hm1 hg3 ho3 D D1 HJ O G hge
          have D4 := Lib.hid (D3.out.kept (grow0 _ (.cells #[.int .i64 tv] 3)))
          have HJ := Lib.hid (Row.newAt (w := w3) (g := w3.heap.size) (n := 1) (vs := #[.int .i64 tv]) [tv] rfl rfl rfl (by simp) (by simp; exact hbt))
          go_wp2_with (first | (at_builtin; refine wpList_app _ rfl _ _ rfl (w.heap.size + 1) _ (vsOf L s kp).length (vsOf L s kp) rfl D4.out.O _ 1 1 [tv] rfl HJ.out (by simp) (by omega) (by simp; omega) ?_))
          intro v2 w4 hm1 hg3 ho3
          have hge := D3.out.O.own_ge
          have G4 := Lib.hid (grown_none (grown_alloc G3.out (.cells #[.int .i64 tv] 3)) hg3 (fun g hg => by have := hge g hg; omega))
          have O4 := Lib.hid (Own.kept' (O3.out.alloc (.cells #[.int .i64 tv] 3)) hg3 (fun e => by have := hge _ e; omega))
          have D5 := Lib.hid (D4.out.stepO (o' := vsOf L s kp ++ [tv]) (by simpa [hvl] using hm1) hg3 (by simpa using ho3))
          clear hm1 hg3 ho3 D3 D4 HJ O3 G3 hge
          go_wp2
          go_roundw
          case rel => exact ⟨k + 1, by omega, by go_num, G4.out, O4.out, by rw [HE.out, HVA.out]; exact D5.out⟩
          case measure => simp [intOf]; omega
      · obtain rfl : k = m := by omega
        have ex : xs.take k = xs := List.take_of_length_le (by rw [HLX.out]; exact Nat.le_refl _)
        rw [ex] at duo
        have D := Lib.hid duo
        clear hg ob ex duo
        go_wp2
        go_ret2
        exact ⟨_, ret_sel E.out.1, by rw [E.out.2.2]; exact D.out.S.wide (by omega), G.out⟩

end Go.Proofs.Ytfldicenikkacaa
