import Derived.Test.YthblaieneglddaaSpanC
namespace Go.Proofs.Ythblaieneglddaa
open Go.RowKit

theorem CoverRef_nil (A : Option Addr) (c : Nat) (w : World) : Calls Try.prog 17 #[.slice A 0 c] w (Says w (covV (coverOf []))) := by
  go_enter Try.func17, Try.ntmps17
  go_wp2
  have o := Own.new w 23 [.int .i64 0, .int .i64 0]
  refine post_cell2 rfl rfl o.two.1 o.two.2 rfl ⟨rfl, grow0 _ _⟩

theorem CoverRef_any (A : Option Addr) (n c : Nat) (xs : List (Int × Int)) (w : World) {B : Nat} (h : Sps w B A n xs) (hB : B ≤ w.heap.size) :
    Calls Try.prog 17 #[.slice A n c] w (Says w (covV (coverOf xs))) := by
  have hn := h.small
  have hlen := Sps_len h
  rcases Nat.eq_zero_or_pos n with h0 | hpos
  · subst h0
    obtain rfl : xs = [] := List.eq_nil_of_length_eq_zero hlen
    exact CoverRef_nil A c w
  have HR := Lib.hid h
  have HL := Lib.hid hlen
  obtain ⟨b, off, hA, hb, hcell⟩ := Sps_cells h hpos
  subst hA
  have HC := Lib.hid hcell
  clear h hlen
  obtain ⟨d0, d1⟩ := hcell 0 hpos
  rw [Nat.zero_mul, Nat.add_zero] at d0 d1
  have HS : Hid (CoverRel w n xs (.int .i64 0) ((w.alloc (.cells #[.int .i64 0, .int .i64 0] 23)).alloc (.cells #[.int .i64 (at2 xs 0).1, .int .i64 (at2 xs 0).2] 23))) := by
    obtain ⟨h1, h2, h3⟩ := boxes2 (World.grownBy.refl ((w.alloc (.cells #[.int .i64 0, .int .i64 0] 23)).alloc (.cells #[.int .i64 (at2 xs 0).1, .int .i64 (at2 xs 0).2] 23)) none)
    exact ⟨0, _, _, Nat.zero_le _, rfl, h1, h2, h3, (coverOf_pos (by rw [HL.out]; exact hpos)).symm⟩
  have e0 : (w.alloc (.cells #[.int .i64 0, .int .i64 0] 23)).cell? ⟨b, off, none⟩ = some (.int .i64 (at2 xs 0).1) := by rw [World.cell?_alloc_lt _ _ _ (by show b < _; omega)]; exact d0
  have e1 : (w.alloc (.cells #[.int .i64 0, .int .i64 0] 23)).cell? ⟨b, off + 1, none⟩ = some (.int .i64 (at2 xs 0).2) := by rw [World.cell?_alloc_lt _ _ _ (by show b < _; omega)]; exact d1
  clear hcell d0 d1
  generalize at2 xs 0 = p0 at *
  have hnz : ((n : Int) == 0) = false := by simp; omega
  go_enter Try.func17, Try.ntmps17
  go_wp2
  go_loopw [5] (fun i wr => CoverRel w n xs i wr) (fun i _ => n - (intOf i).toNat)
  case atStart => exact HS.out
  case round =>
    clear HS e0 e1
    obtain ⟨k, x, y, hk, rfl, hg, o2, o4, hcov⟩ := hrel
    have G := Lib.hid hg
    have hsz := hg.size
    have l2 := o2.lt
    have l4 := o4.lt
    by_cases hlt : k < n
    · obtain ⟨d0, d1⟩ := HC.out k hlt
      have d0 := kept hg d0
      have d1 := kept hg d1
      have HCOV := Lib.hid ((cov_step (by rw [HL.out]; exact hlt) x y).symm.trans hcov)
      clear hcov hg
      generalize at2 xs k = p at *
      obtain ⟨p, q⟩ := p
      go_wp2_with fail
      refine (SpanMay_any p q _).mono ?_
      rintro e w2 ⟨rfl, g2⟩
      have o2 := o2.kept g2
      have o4 := o4.kept g2
      have d0 := kept g2 d0
      have d1 := kept g2 d1
      have G2 := Lib.hid (grown_trans G.out g2)
      obtain ⟨c2, c3⟩ := o2.two
      obtain ⟨c4, c5⟩ := o4.two
      have f2 := o2.frozen 0
      have f3 := o2.frozen 1
      have f4 := o4.frozen 0
      have f5 := o4.frozen 1
      have n1 : ¬ b = w.heap.size := by omega
      have n2 : ¬ b = w.heap.size + 1 := by omega
      have n3 : ¬ w.heap.size = b := by omega
      have n4 : ¬ w.heap.size + 1 = b := by omega
      have n5 : ¬ w.heap.size + 1 = w.heap.size := by omega
      have O2 := Lib.hid o2
      have O4 := Lib.hid o4
      clear o2 o4 g2 G
      cases hm : spanMay p q
      · have HCV := HCOV.out
        simp only [hm] at HCV
        go_wp2
        refine post_cell2 rfl rfl (set_get c2 c3).1 (set_get c2 c3).2 rfl ⟨?_, grown_new (grown_new G2.out (Nat.le_refl _) _) (Nat.le_refl _) _⟩
        rw [← HCV]
        rfl
      · have HCV := HCOV.out
        simp only [hm, if_true] at HCV
        clear HCOV
        by_cases h1 : p < x
        · by_cases h2 : y < q
          · rw [if_pos h1, if_pos h2] at HCV
            have HCV := Lib.hid HCV
            go_wp2
            go_quiet (fail)
            go_wp2
            go_quiet (fail)
            go_wp2
            go_roundw
            case rel => exact ⟨k + 1, _, _, by omega, by go_num, grown_new (grown_drewN (grown_new (grown_drewN G2.out _) (by omega) _) _) (by omega) _, (((O2.out.drewN _).setOther n5 _).drewN _).setOther n5 _, (((O4.out.drewN _).setAt0 _).drewN _).setAt1 _, HCV.out⟩
            case measure => simp [intOf]; omega
          · rw [if_pos h1, if_neg h2] at HCV
            have HCV := Lib.hid HCV
            go_wp2
            go_quiet (fail)
            go_wp2
            go_quiet (fail)
            go_wp2
            go_roundw
            case rel => exact ⟨k + 1, _, _, by omega, by go_num, grown_drewN (grown_new (grown_drewN G2.out _) (by omega) _) _, ((O2.out.drewN _).setOther n5 _).drewN _, ((O4.out.drewN _).setAt0 _).drewN _, HCV.out⟩
            case measure => simp [intOf]; omega
        · by_cases h2 : y < q
          · rw [if_neg h1, if_pos h2] at HCV
            have HCV := Lib.hid HCV
            go_wp2
            go_quiet (fail)
            go_wp2
            go_quiet (fail)
            go_wp2
            go_roundw
            case rel => exact ⟨k + 1, _, _, by omega, by go_num, grown_new (grown_drewN G2.out _) (by omega) _, (O2.out.drewN _).setOther n5 _, (O4.out.drewN _).setAt1 _, HCV.out⟩
            case measure => simp [intOf]; omega
          · rw [if_neg h1, if_neg h2] at HCV
            have HCV := Lib.hid HCV
            go_wp2
            go_quiet (fail)
            go_wp2
            go_quiet (fail)
            go_wp2
            go_roundw
            case rel => exact ⟨k + 1, _, _, by omega, by go_num, grown_drewN G2.out _, O2.out.drewN _, O4.out.drewN _, HCV.out⟩
            case measure => simp [intOf]; omega
    · have hd : xs.drop k = [] := List.drop_eq_nil_of_le (by rw [HL.out]; omega)
      have HCV : Hid (coverOf xs = some (x, y)) := by rw [hd] at hcov; exact hcov.symm
      have n5 : ¬ w.heap.size + 1 = w.heap.size := by omega
      obtain ⟨c2, c3⟩ := o2.two
      obtain ⟨c4, c5⟩ := o4.two
      have f2 := o2.frozen 0
      have f3 := o2.frozen 1
      clear hcov hd o2 o4
      go_wp2
      refine post_cell2 rfl rfl (set_get c2 c3).1 (set_get c2 c3).2 rfl ⟨?_, grown_new (grown_new G.out (Nat.le_refl _) _) (Nat.le_refl _) _⟩
      rw [HCV.out]
      rfl

end Go.Proofs.Ythblaieneglddaa
