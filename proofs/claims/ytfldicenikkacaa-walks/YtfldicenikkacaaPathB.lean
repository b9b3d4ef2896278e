/-
  path.Walk.
-/
import Derived.Test.YtfldicenikkacaaPathA
namespace Go.Proofs.Ytfldicenikkacaa
open Go.RowKit

theorem form_may {V : Int} {L : List Lk} {s : Int} {xs : List Int} (h : mayG V L = false) : formW V L s xs = false := by simp [formW, h]
theorem form_src {V : Int} {L : List Lk} {s : Int} {xs : List Int} (h : isV V s = false) : formW V L s xs = false := by simp [formW, h]
theorem form_len {V : Int} {L : List Lk} {s : Int} {xs : List Int} (h : ¬ xs.length ≤ 64) : formW V L s xs = false := by simp [formW, h]
theorem form_all {V : Int} {L : List Lk} {s : Int} {xs : List Int} (h : allL L.length xs = false) : formW V L s xs = false := by simp [formW, h]
theorem form_links {V : Int} {L : List Lk} {s : Int} {xs : List Int} (h : linksR L.length xs = false) : formW V L s xs = false := by
  rw [formW, Bool.and_assoc]
  rw [linksR] at h
  rw [h, Bool.and_false]
theorem form_yes {V : Int} {L : List Lk} {s : Int} {xs : List Int} (h : mayG V L = true) (h1 : isV V s = true) (h2 : xs.length ≤ 64) (h3 : allL L.length xs = true) : formW V L s xs = true := by simp [formW, h, h1, h2, h3]

def WalkRel (w : World) (V : Int) (A : Option Addr) (n c : Nat) (L : List Lk) (s : Int) (m : Nat) (xs : List Int) (o i : Value) (wr : World) : Prop :=
  ∃ k : Nat, k ≤ m ∧ i = .int .i64 (k : Nat) ∧ w.grownBy wr none ∧ Own wr w.heap.size 24 [.int .i64 V, .slice A n c] ∧ Mine wr (w.heap.size + 1) o (k + 1) (vsOf L s (xs.take k)) ∧ chain L s (xs.take k) = true

theorem vs_ok {w : World} {B : Nat} {A : Option Addr} {n : Nat} {L : List Lk} (h : Lks w B A n L) {s : Int} (hs : bd64 s) (xs : List Int) : okI (vsOf L s xs) := by
  intro i
  refine get_in (fun x hx => ?_) (by omega) i
  rcases List.mem_cons.1 hx with rfl | hx
  · exact hs
  · obtain ⟨y, hy, rfl⟩ := List.mem_map.1 hx
    exact (h.ok y.toNat).2.1

theorem isV_split {V s : Int} : isV V s = true ↔ 0 ≤ s ∧ s < V := by simp [isV]

set_option maxHeartbeats 1000000 in
theorem Walk_any (V s : Int) (A : Option Addr) (n c : Nat) (L : List Lk) (X : Option Addr) (m d : Nat) (xs : List Int) (w : World) {B B' : Nat} (h : Lks w B A n L) (hB : B ≤ w.heap.size) (hx : Row w B' X m xs) (hB' : B' ≤ w.heap.size) :
    Calls Try.prog 38 #[.agg #[.int .i64 V, .slice A n c], .int .i64 s, .slice X m d] w (SelPost w (walkV V L s xs) (walkE V L s xs)) := by
  have hn := h.small
  have hm := hx.small
  have HL := Lib.hid h.len
  have HLX := Lib.hid hx.len
  have HR := Lib.hid h
  have HX := Lib.hid hx
  have HR1 := Lib.hid (h.grown hB (grow0 w (.cells #[.int .i64 V, .slice A n c] 24)))
  clear h hx
  go_enter Try.func38, Try.ntmps38
  go_wp2_with fail
  refine (GMay_any V A n c L _ HR1.out (by simp; omega)).mono ?_
  rintro e w1 ⟨rfl, g1⟩
  obtain ⟨g, o2⟩ := box1 [.int .i64 V, .slice A n c] g1
  obtain ⟨c0, c1⟩ := o2.two
  have G := Lib.hid g
  have O2 := Lib.hid o2
  clear g g1 o2 HR1
  cases hmay : mayG V L
  · have E := Lib.hid (walk_form (form_may (s := s) (xs := xs) hmay))
    go_wp2
    go_ret2
    exact ⟨.slice none 0 0, ret_sel E.out.1, by rw [E.out.2.1]; exact Mine.nil _ _, G.out⟩
  · go_wp2_with fail
    refine (Vert1_any V s A n c _ rfl).mono ?_
    rintro e w9 ⟨rfl, g9⟩
    have O2 := Lib.hid (O2.out.kept g9)
    have G := Lib.hid (grown_trans G.out g9)
    clear g9 c0 c1
    obtain ⟨c0, c1⟩ := O2.out.two
    cases hs : isV V s
    · have E := Lib.hid (walk_form (form_src (V := V) (L := L) (s := s) (xs := xs) hs))
      clear hs
      go_wp2
      go_ret2
      exact ⟨.slice none 0 0, ret_sel E.out.1, by rw [E.out.2.1]; exact Mine.nil _ _, G.out⟩
    · have HSV := Lib.hid hs
      clear hs
      by_cases h2 : m ≤ 64
      · go_wp2_with fail
        refine (Links_any V A n c X m d xs _ (HX.out.grown hB' G.out).raw).mono ?_
        rintro e w2 ⟨he, g2⟩
        rw [allV_links] at he
        subst he
        have O2 := Lib.hid (O2.out.kept g2)
        have G := Lib.hid (grown_trans G.out g2)
        clear g2 c0 c1
        cases ha : allL n xs
        · have E := Lib.hid (walk_form (form_all (V := V) (L := L) (s := s) (xs := xs) (by rw [HL.out]; exact ha)))
          go_wp2
          go_ret2
          exact ⟨.slice none 0 0, ret_sel E.out.1, by rw [E.out.2.1]; exact Mine.nil _ _, G.out⟩
        · have HF : Hid (formW V L s xs = true) := form_yes hmay HSV.out (by rw [HLX.out]; exact h2) (by rw [HL.out]; exact ha)
          have HALL : Hid (allL n xs = true) := ha
          have hsb : bd64 s := by have := may_small hmay; have := isV_split.1 HSV.out; unfold bd64; omega
          have HOK := Lib.hid (vs_ok HR.out hsb)
          have HS : Hid (WalkRel w V A n c L s m xs (.slice (some ⟨w2.heap.size, 0, none⟩) 1 1) (.int .i64 0) (w2.alloc (.cells #[.int .i64 s] 3))) :=
            ⟨0, Nat.zero_le _, rfl, grown_alloc G.out _, O2.out.alloc _, Mine.lit [s] 1 rfl rfl rfl (by have := O2.out.lt; omega) (by simp), rfl⟩
          clear ha hmay O2 G
          go_wp2
          go_loopw [8, 36] (fun o i wr => WalkRel w V A n c L s m xs o i wr) (fun _ i _ => m - (intOf i).toNat)
          case atStart => exact HS.out
          case round =>
            clear HS
            obtain ⟨k, hk, rfl, hg, ob, hmine, hch⟩ := hrel
            have G := Lib.hid hg
            have hsz := ob.lt
            obtain ⟨c0, c1⟩ := ob.two
            have O := Lib.hid ob
            have HM := Lib.hid hmine
            have HC := Lib.hid hch
            by_cases hlt : k < m
            · obtain ⟨b, off, hA, hb, hcell⟩ := HX.out.at_ (by omega)
              subst hA
              have d0 := kept hg (hcell k hlt)
              obtain ⟨j, hj, hjx⟩ := allL_get HALL.out (i := k) (by rw [HLX.out]; exact hlt)
              rw [hjx] at d0
              obtain ⟨b2, off2, hA2, hb2, hcell2⟩ := HR.out.cells (by omega)
              subst hA2
              obtain ⟨e0, e1, e2⟩ := hcell2 j hj
              have e0 := kept hg e0
              have e1 := kept hg e1
              have HNX := Lib.hid (vsOf_next L s (xs := xs) (k := k) (by rw [HLX.out]; exact hlt))
              have HCS := Lib.hid (chain_step (L := L) (s := s) (xs := xs) (k := k) (by rw [HLX.out]; exact hlt) hch)
              have HCX := Lib.hid (chain_stop (L := L) (s := s) (xs := xs) (k := k) (by rw [HLX.out]; exact hlt))
              obtain ⟨gv, cv, rfl, hcv, hgv, hrv⟩ := hmine.shape (by omega) (HOK.out _)
              have f0 := hrv.cellAt (i := k) (by omega)
              rw [Nat.zero_add] at f0
              have et : tow L (xs[k]?.getD 0) = (at3 L j).2.1 := by rw [hjx]; simp [tow]
              have ef : frm L (xs[k]?.getD 0) = (at3 L j).1 := by rw [hjx]; simp [frm]
              have HNX := Lib.hid (HNX.out.trans (by rw [et]))
              have HCS := Lib.hid HCS.out
              rw [ef] at HCS HCX
              have hbt := (HR.out.ok j).2.1
              clear hcell hcell2 hg ob hmine hch e2 et ef hjx hrv
              generalize (vsOf L s (xs.take k))[k]?.getD 0 = cur at *
              generalize (at3 L j).1 = fr at *
              generalize (at3 L j).2.1 = tv at *
              by_cases he : fr = cur
              · have HC1 := Lib.hid (HCS.out he)
                subst he
                have hne : (fr != fr) = false := by simp
                clear HCS HCX
                go_wp2_with fail
                go_quiet (fail)
                go_wp2_with (first | (at_builtin; refine wpList_app _ rfl _ _ rfl (w.heap.size + 1) _ _ _ rfl ((HM.out.drewN _).kept (grow0 _ _)) _ 1 1 [tv] rfl (Row.newAt [tv] rfl rfl rfl (by simp) (by simp; exact hbt)) (by simp) (by omega) (by simp; omega) ?_))
                intro v1 w3 hm1 hg3 _
                have G3 := Lib.hid (grown_none (grown_alloc (grown_drewN G.out _) _) hg3 (fun g hg => by have := HM.out.own_ge g hg; omega))
                have O3 := Lib.hid (Own.kept' ((O.out.drewN _).alloc _) hg3 HM.out.apart)
                have HM3 := Lib.hid hm1
                clear hm1 hg3
                go_wp2
                go_roundw
                case rel => exact ⟨k + 1, by omega, by go_num, G3.out, O3.out, by rw [HNX.out]; exact HM3.out, HC1.out⟩
                case measure => simp [intOf]; omega
              · have E := Lib.hid (walk_broken HF.out (HCX.out he))
                have hne : (fr != cur) = true := by simp [he]
                clear HCS HCX
                go_wp2_with fail
                go_quiet (fail)
                go_wp2
                go_ret2
                exact ⟨.slice none 0 0, ret_sel E.out.1, by rw [E.out.2.1]; exact Mine.nil _ _, grown_drewN G.out _⟩
            · obtain rfl : k = m := by omega
              have ex : xs.take k = xs := List.take_of_length_le (by rw [HLX.out]; exact Nat.le_refl _)
              rw [ex] at HC HM
              have E := Lib.hid (walk_goes HF.out HC.out)
              clear hmine hg ob ex hch
              go_wp2
              go_ret2
              exact ⟨_, ret_sel E.out.1, by rw [E.out.2.1, vsOf_len, HLX.out]; exact HM.out.wide (by omega), G.out⟩
      · have E := Lib.hid (walk_form (form_len (V := V) (L := L) (s := s) (xs := xs) (by rw [HLX.out]; exact h2)))
        go_wp2
        go_ret2
        exact ⟨.slice none 0 0, ret_sel E.out.1, by rw [E.out.2.1]; exact Mine.nil _ _, G.out⟩

end Go.Proofs.Ytfldicenikkacaa
