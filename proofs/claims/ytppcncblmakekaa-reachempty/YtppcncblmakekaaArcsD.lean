/-
  Build.
-/
import Derived.Test.YtppcncblmakekaaArcsC
set_option maxRecDepth 20000
namespace Go.Proofs.Ytppcncblmakekaa
open Go.RowKit

def HeadRel (w : World) (p : Nat) (V : Int) (A : Option Addr) (n c : Nat) (ls : List Lk) (i : Value) (wr : World) : Prop :=
  ∃ (k : Nat) (Az : Option Addr) (cz : Nat), k ≤ n ∧ i = .int .i64 (k : Nat) ∧ w.grownBy wr none ∧ Own wr w.heap.size 24 [.int .i64 V, .slice A n c] ∧ Own wr (w.heap.size + 1) 72 [.slice none 0 0, .slice none 0 0, .slice none 0 0] ∧
    Own wr p 72 [.slice none 0 0, .slice none 0 0, .slice Az (2 * k) cz] ∧ Mine wr (p + 1) (.slice Az (2 * k) cz) (2 * k) (headsA ls (2 * k))

def OrdRel (w : World) (p vn : Nat) (A : Option Addr) (n c : Nat) (ls : List Lk) (i : Value) (wr : World) : Prop :=
  ∃ (k : Nat) (Ax Ay Az : Option Addr) (m cx cy cz : Nat), k ≤ vn ∧ i = .int .i64 (k : Nat) ∧ m = (ordA ls n k).length ∧ w.grownBy wr none ∧ Own wr w.heap.size 24 [.int .i64 (vn : Nat), .slice A n c] ∧ Own wr (w.heap.size + 1) 72 [.slice none 0 0, .slice none 0 0, .slice none 0 0] ∧
    Own wr p 72 [.slice Ax k cx, .slice Ay m cy, .slice Az (2 * n) cz] ∧ Tri wr (p + 1) (.slice Ax k cx) (.slice Ay m cy) (.slice Az (2 * n) cz) (startsA ls n k) (ordA ls n k) (headsA ls (2 * n))

set_option maxHeartbeats 1000000 in
theorem Build_any (V : Int) (A : Option Addr) (n c : Nat) (ls : List Lk) (w : World) {B : Nat} (h : Lks w B A n ls) (hB : B ≤ w.heap.size) :
    Calls Try.prog 47 #[.agg #[.int .i64 V, .slice A n c]] w (ArcPost w (arcS V ls) (arcO V ls) (arcH V ls) (arcE V ls)) := by
  have hn := h.small
  have HL := Lib.hid h.len
  have HR := Lib.hid h
  have HR1 := Lib.hid (h.grown hB (grown_alloc (grow0 w (.cells #[.int .i64 V, .slice A n c] 24)) (.cells #[.slice none 0 0, .slice none 0 0, .slice none 0 0] 72)))
  clear h
  go_enter Try.func47, Try.ntmps47
  go_wp2_with fail
  refine (GMay_any V A n c ls _ HR1.out (by simp; omega)).mono ?_
  rintro e w1 ⟨rfl, g1⟩
  obtain ⟨g, o1, o2⟩ := box2 [.int .i64 V, .slice A n c] [.slice none 0 0, .slice none 0 0, .slice none 0 0] g1
  obtain ⟨c0, c1⟩ := o1.two
  obtain ⟨e0, e1, e2⟩ := o2.three
  have f0 := o2.frozen 0
  have f1 := o2.frozen 1
  have f2 := o2.frozen 2
  have G := Lib.hid g
  have O1 := Lib.hid o1
  have O2 := Lib.hid o2
  have s1 := g.size
  have l1 := o1.lt
  have l2 := o2.lt
  clear g g1 o1 o2 HR1
  cases hm : mayG V ls
  · have E := Lib.hid (arc_no hm)
    go_wp2
    refine post_arcs rfl rfl (O2.out.store3 _ _ _) rfl ⟨.slice none 0 0, .slice none 0 0, .slice none 0 0, ?_, ?_, grown_store3 G.out (by omega) _ _ _⟩
    · rw [E.out.2.2.2]; rfl
    · rw [E.out.1, E.out.2.1, E.out.2.2.1]; exact Tri.nil _ _
  · have E := Lib.hid (arc_yes hm)
    have h16 := may_small hm
    rw [HL.out] at h16
    have HS : Hid (HeadRel w w1.heap.size V A n c ls (.int .i64 0) (w1.alloc (.cells #[.slice none 0 0, .slice none 0 0, .slice none 0 0] 72))) :=
      ⟨0, none, 0, Nat.zero_le _, rfl, grown_alloc G.out _, O1.out.alloc _, O2.out.alloc _, Own.new w1 72 [.slice none 0 0, .slice none 0 0, .slice none 0 0], Mine.nil _ _⟩
    clear hm f0 f1 f2
    go_wp2
    go_loopw [15] (fun i wr => HeadRel w w1.heap.size V A n c ls i wr) (fun i _ => n - (intOf i).toNat)
    case atStart => exact HS.out
    case round =>
      clear HS c0 c1 O1 O2 G e0 e1 e2
      obtain ⟨k, Az, cz, hk, rfl, hg, o1, o2, o3, hz⟩ := hrel
      have G := Lib.hid hg
      have hsz := hg.size
      have l3 := o3.lt
      have O1 := Lib.hid o1
      have O2 := Lib.hid o2
      have O3 := Lib.hid o3
      have HZ := Lib.hid hz
      obtain ⟨c0, c1⟩ := o1.two
      obtain ⟨q0, q1, q2⟩ := o3.three
      have f0 := o3.frozen 0
      have f1 := o3.frozen 1
      have f2 := o3.frozen 2
      by_cases hlt : k < n
      · obtain ⟨b, off, hA, hb, hcell⟩ := HR.out.cells (by omega)
        subst hA
        obtain ⟨d0, d1, d2⟩ := hcell k hlt
        have b0 := (HR.out.ok k)
        have d0 := kept hg d0
        have d1 := kept hg d1
        have d2 := kept hg d2
        have HP := Lib.hid (heads_pair ls k)
        clear hcell hg o1 o2 o3 hz
        generalize at3 ls k = l at *
        obtain ⟨f, t, cp⟩ := l
        simp only at d0 d1 d2 b0
        have HZ1 := Lib.hid ((HZ.out.kept (grow0 _ (.cells #[.int .i64 f, .int .i64 t, .int .i64 cp] 57))).kept (grow0 _ (.cells #[.int .i64 t, .int .i64 f] 3)))
        have HROW := Lib.hid (Row.newAt (w := wr.alloc (.cells #[.int .i64 f, .int .i64 t, .int .i64 cp] 57)) (g := wr.heap.size + 1) (n := 2) (vs := #[.int .i64 t, .int .i64 f]) [t, f] (by simp) rfl rfl (by simp) (by simpa using ⟨b0.2.1, b0.1⟩))
        go_wp2_with (first | (at_builtin; refine wpList_app _ rfl _ _ rfl (w1.heap.size + 1) _ _ _ rfl HZ1.out _ 2 2 [t, f] rfl HROW.out (by simp) (by omega) (by simp; omega) ?_))
        intro v1 w3 hm1 hg3 _
        have hge := HZ.out.own_ge
        have G3 := Lib.hid (grown_none (grown_alloc (grown_alloc G.out (.cells #[.int .i64 f, .int .i64 t, .int .i64 cp] 57)) (.cells #[.int .i64 t, .int .i64 f] 3)) hg3 (fun g hg => by have := hge g hg; omega))
        have O1 := Lib.hid (Own.kept' ((O1.out.alloc (.cells #[.int .i64 f, .int .i64 t, .int .i64 cp] 57)).alloc (.cells #[.int .i64 t, .int .i64 f] 3)) hg3 (fun e => by have := hge _ e; omega))
        have O2 := Lib.hid (Own.kept' ((O2.out.alloc (.cells #[.int .i64 f, .int .i64 t, .int .i64 cp] 57)).alloc (.cells #[.int .i64 t, .int .i64 f] 3)) hg3 (fun e => by have := hge _ e; omega))
        have O3 := Lib.hid (Own.kept' ((O3.out.alloc (.cells #[.int .i64 f, .int .i64 t, .int .i64 cp] 57)).alloc (.cells #[.int .i64 t, .int .i64 f] 3)) hg3 (fun e => by have := hge _ e; omega))
        have hm2 : Mine w3 (w1.heap.size + 1) v1 (2 * (k + 1)) (headsA ls (2 * (k + 1))) := by rw [HP.out]; exact hm1
        obtain ⟨A3, c3, rfl, _⟩ := hm2.sl
        have HM := Lib.hid hm2
        clear hm1 hm2 hg3 HZ HZ1 HROW q0 q1 q2 f0 f1 f2 d0 d1 d2 c0 c1 hge
        obtain ⟨q0, q1, q2⟩ := O3.out.three
        have f2 := O3.out.frozen 2
        go_wp2
        go_roundw
        case rel => exact ⟨k + 1, A3, c3, by omega, by go_num, grown_new G3.out (by omega) _, O1.out.setOther (by omega) _, O2.out.setOther (by omega) _, O3.out.put _, HM.out.put⟩
        case measure => simp [intOf]; omega
      · obtain rfl : n = k := by omega
        clear hg o1 o2 o3 hz
        obtain ⟨vn, rfl⟩ : ∃ vn : Nat, V = (vn : Nat) := ⟨V.toNat, by omega⟩
        have HS : Hid (OrdRel w w1.heap.size vn A n c ls (.int .i64 0) wr) := ⟨0, none, none, Az, 0, 0, 0, cz, Nat.zero_le _, rfl, rfl, G.out, O1.out, O2.out, O3.out, ⟨Mine.nil _ _, Mine.nil _ _, by rw [heads_len]; exact HZ.out, (apart_nil _).1, (apart_nil _).1, (apart_nil _).1⟩⟩
        clear hlt HZ q0 q1 q2 f0 f1 f2 l3 O1 O2 O3 G hsz
        go_wp2
        go_loopw [31] (fun i wr => OrdRel w w1.heap.size vn A n c ls i wr) (fun i _ => vn - (intOf i).toNat)
        case atStart => exact HS.out
        case round =>
          clear HS c0 c1
          obtain ⟨k, Ax, Ay, Az, m, cx, cy, cz, hk2, rfl, hmm, hg, o1, o2, o3, tri⟩ := hrel
          have hm16 : m ≤ 2 * n * k := hmm ▸ ord_len ls n k
          have hmul : 2 * n * k ≤ 2 * 16 * 8 := Nat.mul_le_mul (by omega) (by omega)
          have HMM := Lib.hid hmm
          have G := Lib.hid hg
          have hsz := hg.size
          have l3 := o3.lt
          have O1 := Lib.hid o1
          have O2 := Lib.hid o2
          have O3 := Lib.hid o3
          have TR := Lib.hid tri
          obtain ⟨c0, c1⟩ := o1.two
          obtain ⟨q0, q1, q2⟩ := o3.three
          have f0 := o3.frozen 0
          clear hg o1 o2 o3 tri hmm
          have hS1 : Mine wr (w1.heap.size + 1) (.slice Ax k cx) k (startsA ls n k) := by have := TR.out.S; rw [starts_len] at this; exact this
          have HS1 := Lib.hid (hS1.kept (grow0 _ (.cells #[.int .i64 (m : Nat)] 3)))
          have HROW := Lib.hid (Row.newAt (w := wr) (g := wr.heap.size) (n := 1) (vs := #[.int .i64 (m : Nat)]) [(m : Int)] rfl rfl rfl (by simp) (by simp; omega))
          by_cases hlt : k < vn
          · go_wp2_with (first | (at_builtin; refine wpList_app _ rfl _ _ rfl (w1.heap.size + 1) _ _ _ rfl HS1.out _ 1 1 [(m : Int)] rfl HROW.out (by simp) (by omega) (by simp; omega) ?_))
            intro v1 w3 hm1 hg3 h4
            have hge := TR.out.S.own_ge
            have hm2 : Mine w3 (w1.heap.size + 1) v1 (startsA ls n (k + 1)).length (startsA ls n (k + 1)) := by rw [starts_len, startsA, ← HMM.out]; exact hm1
            have G3 := Lib.hid (grown_none (grown_alloc G.out (.cells #[.int .i64 (m : Nat)] 3)) hg3 (fun g hg => by have := hge g hg; omega))
            have O1 := Lib.hid (Own.kept' (O1.out.alloc (.cells #[.int .i64 (m : Nat)] 3)) hg3 (fun e => by have := hge _ e; omega))
            have O2 := Lib.hid (Own.kept' (O2.out.alloc (.cells #[.int .i64 (m : Nat)] 3)) hg3 (fun e => by have := hge _ e; omega))
            have O3 := Lib.hid (Own.kept' (O3.out.alloc (.cells #[.int .i64 (m : Nat)] 3)) hg3 (fun e => by have := hge _ e; omega))
            have TR := Lib.hid ((TR.out.kept (grow0 _ (.cells #[.int .i64 (m : Nat)] 3))).stepS hm2 hg3 (by simpa using h4))
            rw [starts_len] at hm2
            obtain ⟨A3, c3, rfl, _⟩ := hm2.sl
            clear hm1 hm2 hg3 h4 HS1 hS1 HROW q0 q1 q2 f0 hge c0 c1
            obtain ⟨q0, q1, q2⟩ := O3.out.three
            have f0 := O3.out.frozen 0
            go_upto_region 13 with fail
            have G := Lib.hid (grown_new (i := 0) G3.out (show w.heap.size ≤ w1.heap.size by omega) (.slice A3 (k + 1) c3))
            have O1 : Hid (Own (w3.setCell ⟨w1.heap.size, 0, none⟩ (.slice A3 (k + 1) c3)) _ _ _) := O1.out.setOther (by omega) _
            have O2 : Hid (Own (w3.setCell ⟨w1.heap.size, 0, none⟩ (.slice A3 (k + 1) c3)) _ _ _) := O2.out.setOther (by omega) _
            have O3 : Hid (Own (w3.setCell ⟨w1.heap.size, 0, none⟩ (.slice A3 (k + 1) c3)) w1.heap.size 72 [.slice A3 (k + 1) c3, .slice Ay m cy, .slice Az (2 * n) cz]) := O3.out.put _
            have TR : Hid (Tri (w3.setCell ⟨w1.heap.size, 0, none⟩ (.slice A3 (k + 1) c3)) _ _ _ _ _ _ _) := TR.out.put
            clear G3 q0 q1 q2 f0
            generalize w3.setCell ⟨w1.heap.size, 0, none⟩ (.slice A3 (k + 1) c3) = w4 at *
            obtain ⟨q0, q1, q2⟩ := O3.out.three
            have f1 := O3.out.frozen 1
            obtain ⟨c0, c1⟩ := O1.out.two
            have hl3 := O3.out.lt
            have CB : Hid (∀ wx : World, w4.grownBy wx none → Calls Try.prog 56 #[.agg #[.int .i64 (vn : Nat), .slice A n c], .int .i64 (k : Nat)] wx (BegPost wx (rowA ls (k : Nat) (2 * n)))) := fun wx g => begin_any _ _ A n c ls wx (HR.out.grown hB (grown_trans G.out g)) (by omega)
            have hrl := row_len ls (k : Nat) (2 * n)
            have hord := Lib.hid (show ordA ls n (k + 1) = ordA ls n k ++ rowA ls (k : Nat) (2 * n) from rfl)
            have hO : Mine w4 (w1.heap.size + 1) (.slice Ay m cy) m (ordA ls n k) := by have := TR.out.O; rw [← HMM.out] at this; exact this
            have MO := Lib.hid hO
            have HOK := Lib.hid (row_ok ls (k : Nat) (m := 2 * n) (by omega))
            clear hO
            go_region_law (first
              | (refine step_app4 rfl _ _ rfl (w1.heap.size + 1) _ m (ordA ls n k) rfl MO5.out Ar (rowA ls (k : Nat) (2 * n)).length cr (rowA ls (k : Nat) (2 * n)) rfl HR5.out HNR.out (by omega) (by omega) ?_; intro v6 w6 hm6 hg6 h46; have hge := MO5.out.own_ge; obtain ⟨A6, c6, rfl, _⟩ := hm6.sl; have G6 := Lib.hid (grown_none (grown_trans G.out G5.out) hg6 (fun g hg => by have := hge g hg; omega)); have P1 := Lib.hid ((O1.out.kept G5.out).kept' hg6 (fun e => by have := hge _ e; omega)); have P2 := Lib.hid ((O2.out.kept G5.out).kept' hg6 (fun e => by have := hge _ e; omega)); have P3 := Lib.hid ((O3.out.kept G5.out).kept' hg6 (fun e => by have := hge _ e; omega)); have r1 := P3.out.three.2.1; have f6 := P3.out.frozen 1; have hm7 : Mine w6 (w1.heap.size + 1) (.slice A6 (m + (rowA ls (k : Nat) (2 * n)).length) c6) (ordA ls n (k + 1)).length (ordA ls n (k + 1)) := (by rw [hord.out, List.length_append, ← HMM.out]; exact hm6); have T6 := Lib.hid ((TR.out.kept G5.out).stepO hm7 hg6 h46); clear hm6 hm7 hg6 h46 hge)
              | (go_simp; go_at_call 56; refine (CB.out _ (by first | exact World.grownBy.refl _ _ | exact grown_drew (World.grownBy.refl _ _) | exact grown_drewN (World.grownBy.refl _ _) _)).mono ?_; rintro e w5 ⟨vr, rfl, hr, g5⟩; obtain ⟨Ar, cr, rfl, _, hnr, hr5⟩ := hr.rowN HOK.out; have G5 : Hid (w4.grownBy w5 none) := (by first | exact g5 | exact grown_undrew g5); have HR5 := Lib.hid hr5; have HNR := Lib.hid hnr; have MO5 := Lib.hid (MO.out.kept G5.out); have t1 := kept G5.out q1; have s5 := G5.out.size; clear hr hr5 g5 hnr))
            all_goals go_wp2
            all_goals go_roundw
            all_goals first | (simp [intOf]; omega) | exact ⟨k + 1, A3, A6, Az, m + (rowA ls (k : Nat) (2 * n)).length, c3, c6, cz, by omega, by go_num, by rw [hord.out, List.length_append, ← HMM.out], grown_new G6.out (by omega) _, P1.out.setOther (by omega) _, P2.out.setOther (by omega) _, P3.out.put _, T6.out.put⟩
          · obtain rfl : vn = k := by omega
            go_wp2_with (first | (at_builtin; refine wpList_app _ rfl _ _ rfl (w1.heap.size + 1) _ _ _ rfl HS1.out _ 1 1 [(m : Int)] rfl HROW.out (by simp) (by omega) (by simp; omega) ?_))
            intro v1 w3 hm1 hg3 h4
            have hge := TR.out.S.own_ge
            have hm2 : Mine w3 (w1.heap.size + 1) v1 (startsA ls n (vn + 1)).length (startsA ls n (vn + 1)) := by rw [starts_len, startsA, ← HMM.out]; exact hm1
            have G3 := Lib.hid (grown_none (grown_alloc G.out (.cells #[.int .i64 (m : Nat)] 3)) hg3 (fun g hg => by have := hge g hg; omega))
            have O2 := Lib.hid (Own.kept' (O2.out.alloc (.cells #[.int .i64 (m : Nat)] 3)) hg3 (fun e => by have := hge _ e; omega))
            have O3 := Lib.hid (Own.kept' (O3.out.alloc (.cells #[.int .i64 (m : Nat)] 3)) hg3 (fun e => by have := hge _ e; omega))
            have TR := Lib.hid ((TR.out.kept (grow0 _ (.cells #[.int .i64 (m : Nat)] 3))).stepS hm2 hg3 (by simpa using h4))
            rw [starts_len] at hm2
            obtain ⟨A3, c3, rfl, _⟩ := hm2.sl
            clear hm1 hm2 hg3 h4 HS1 hS1 HROW q0 q1 q2 f0 hge c0 c1
            obtain ⟨q0, q1, q2⟩ := O3.out.three
            have f0 := O3.out.frozen 0
            go_upto_region 16 with fail
            have G := Lib.hid (grown_new (i := 0) G3.out (show w.heap.size ≤ w1.heap.size by omega) (.slice A3 (vn + 1) c3))
            have O2 : Hid (Own (w3.setCell ⟨w1.heap.size, 0, none⟩ (.slice A3 (vn + 1) c3)) _ _ _) := O2.out.setOther (by omega) _
            have O3 : Hid (Own (w3.setCell ⟨w1.heap.size, 0, none⟩ (.slice A3 (vn + 1) c3)) w1.heap.size 72 [.slice A3 (vn + 1) c3, .slice Ay m cy, .slice Az (2 * n) cz]) := O3.out.put _
            have TR : Hid (Tri (w3.setCell ⟨w1.heap.size, 0, none⟩ (.slice A3 (vn + 1) c3)) _ _ _ _ _ _ _) := TR.out.put
            clear G3 q0 q1 q2 f0
            generalize w3.setCell ⟨w1.heap.size, 0, none⟩ (.slice A3 (vn + 1) c3) = w4 at *
            obtain ⟨q0, q1, q2⟩ := O3.out.three
            obtain ⟨e0, e1, e2⟩ := O2.out.three
            have f0 := O2.out.frozen 0
            have f1 := O2.out.frozen 1
            have f2 := O2.out.frozen 2
            have hne : ¬ w1.heap.size = w.heap.size + 1 := by omega
            have hne2 : ¬ w.heap.size + 1 = w1.heap.size := by omega
            go_wp2
            refine post_arcs rfl rfl (O2.out.store3 _ _ _) rfl ⟨.slice A3 (vn + 1) c3, .slice Ay m cy, .slice Az (2 * n) cz, ?_, ?_, grown_store3 G.out (by omega) _ _ _⟩
            · rw [E.out.2.2.2]; rfl
            · rw [E.out.1, E.out.2.1, E.out.2.2.1, HL.out]
              have T4 := TR.out
              simp only [Int.toNat_natCast]
              exact (T4.store3 (q := w.heap.size + 1) (by omega)).wide (by omega)

theorem may_ok {vn n : Nat} {ls : List Lk} (hm : mayG (vn : Nat) ls = true) (hl : ls.length = n) : okI (startsA ls n (vn + 1)) ∧ okI (ordA ls n vn) ∧ okI (headsA ls (2 * n)) := by
  obtain ⟨e1, e2, e3, _⟩ := arc_yes hm
  have h1 := arcS_ok (vn : Nat) ls
  have h2 := arcO_ok (vn : Nat) ls
  have h3 := arcH_ok (vn : Nat) ls
  rw [e1, hl, Int.toNat_natCast] at h1
  rw [e2, hl, Int.toNat_natCast] at h2
  rw [e3, hl] at h3
  exact ⟨h1, h2, h3⟩

theorem Build_may (vn : Nat) (A : Option Addr) (n c : Nat) (ls : List Lk) (w : World) {B : Nat} (h : Lks w B A n ls) (hB : B ≤ w.heap.size) (hm : mayG (vn : Nat) ls = true) :
    Calls Try.prog 47 #[.agg #[.int .i64 (vn : Nat), .slice A n c]] w (ArcPost w (startsA ls n (vn + 1)) (ordA ls n vn) (headsA ls (2 * n)) 0) := by
  have hc := Build_any (vn : Nat) A n c ls w h hB
  obtain ⟨e1, e2, e3, e4⟩ := arc_yes hm
  rw [e1, e2, e3, e4, h.len, Int.toNat_natCast] at hc
  exact hc

theorem Build_no (V : Int) (A : Option Addr) (n c : Nat) (ls : List Lk) (w : World) {B : Nat} (h : Lks w B A n ls) (hB : B ≤ w.heap.size) (hm : mayG V ls = false) :
    Calls Try.prog 47 #[.agg #[.int .i64 V, .slice A n c]] w (ArcPost w [] [] [] 500) := by
  have hc := Build_any V A n c ls w h hB
  obtain ⟨e1, e2, e3, e4⟩ := arc_no hm
  rw [e1, e2, e3, e4] at hc
  exact hc

end Go.Proofs.Ytppcncblmakekaa
