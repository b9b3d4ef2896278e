/-
  Whether a tree may be: tree.May, walked.
-/
import Derived.Test.YtgfehlmiejnonaaTreeT
import Derived.Test.YtgfehlmiejnonaaJD
set_option maxRecDepth 20000
namespace Go.Proofs.Ytgfehlmiejnonaa
open Go.RowKit

def FreeP (w : World) (q g : Nat) (A : Option Addr) (n c : Nat) (r : Int) (FA : Option Addr) (fn fc sc : Nat) (ns : List Nd) (free : List Int) (s : List Bool) (l : It) (e : Ending) (w' : World) : Prop :=
  (∃ s', e = .returned (.bool true) ∧ freeF ns free s = some s' ∧ Chk w' q g A n c r FA fn fc sc s' l ∧ Kpt w w' (qg q g)) ∨
  (∃ s', e = .returned (.bool false) ∧ freeF ns free s = none ∧ Chk w' q g A n c r FA fn fc sc s' l ∧ Kpt w w' (qg q g))

def FreeR (w : World) (q g : Nat) (A : Option Addr) (n c : Nat) (r : Int) (FA : Option Addr) (fn fc sc : Nat) (ns : List Nd) (free : List Int) (s : List Bool) (l : It) (i : Value) (wr : World) : Prop :=
  ∃ k s', k ≤ fn ∧ i = .int .i64 (k : Nat) ∧ freeF ns (free.drop k) s' = freeF ns free s ∧ Chk wr q g A n c r FA fn fc sc s' l ∧ Kpt w wr (qg q g)

set_option maxHeartbeats 4000000 in
theorem Free_any (q g : Nat) (A : Option Addr) (n c : Nat) (ns : List Nd) (r : Int) (FA : Option Addr) (fn fc sc : Nat) (free : List Int) (s : List Bool) (l : It) (w : World) {B : Nat} (hBq : B ≤ q) (hBg : B ≤ g) (h : Tre w B A n ns FA fn free) (hB : B ≤ w.heap.size) (hc : Chk w q g A n c r FA fn fc sc s l) :
    Calls Try.prog 41 #[.pointer (some ⟨q, 0, none⟩)] w (FreeP w q g A n c r FA fn fc sc ns free s l) := by
  have HR := Lib.hid h.nodes
  have HF := Lib.hid h.free
  have HLEN := Lib.hid h.nodes.len
  have HFL := Lib.hid h.free.len
  have hsm := h.free.small
  have hnm := h.nodes.small
  have H := Lib.hid hc
  have hS : Hid (∀ i, qg q g i → B ≤ i) := fun i hi => by rcases hi with rfl | rfl <;> assumption
  have HB := Lib.hid hB
  clear h
  obtain ⟨_, _, c2, _, _, _, _⟩ := H.out.oq.seven
  clear hc hBq hBg hB
  go_enter Try.func41, Try.ntmps41
  go_wp2
  go_loopw [12] (fun i wr => FreeR w q g A n c r FA fn fc sc ns free s l i wr) (fun i _ => fn - (intOf i).toNat)
  case atStart => exact ⟨0, s, Nat.zero_le _, rfl, rfl, H.out, Kpt.refl _ _⟩
  case round =>
    clear c2 H
    obtain ⟨k, s1, hk, rfl, hF, ch, kp⟩ := hrel
    have HFF := Lib.hid hF
    have CH := Lib.hid ch
    have KP := Lib.hid kp
    have HR1 := Lib.hid (Kpt.elts HR.out kp HB.out hS.out)
    have HF1 := Lib.hid (Kpt.row HF.out kp HB.out hS.out)
    have HB1 : Hid (B ≤ wr.heap.size) := Nat.le_trans HB.out kp.size
    clear hF ch kp
    by_cases hlt : k < fn
    · obtain ⟨bf, of, rfl, _, hcf⟩ := HF1.out.at_ (by omega)
      have d0 := hcf k hlt
      have HN := Lib.hid (free_next (ns := ns) (free := free) (k := k) (s := s1) (x := free[k]?.getD 0) (by rw [HFL.out]; exact hlt) rfl)
      have HST := Lib.hid (free_stop (ns := ns) (free := free) (k := k) (s := s1) (x := free[k]?.getD 0) (by rw [HFL.out]; exact hlt) rfl)
      clear hcf
      generalize free[k]?.getD 0 = x at *
      go_wp2_with fail
      refine (Take_any q g A n c r _ fn fc sc x s1 l wr CH.out).mono ?_
      rintro e w1 (⟨rfl, ⟨p0, p1, p2⟩, ch, kp⟩ | ⟨rfl, hno, ch, kp⟩)
      case inr =>
        have KP2 := Lib.hid (KP.out.trans kp)
        have CH2 := Lib.hid ch
        have E2 : Hid (freeF ns free s = none) := by
          rw [Hid, ← HFF.out]
          exact HST.out (fun hh => hno ⟨hh.1, by have := hh.2.1; rw [HLEN.out] at this; exact this, hh.2.2.1⟩)
        clear hno kp ch
        go_wp2
        go_ret
        exact .inr ⟨_, rfl, E2.out, CH2.out, KP2.out⟩
      obtain ⟨xn, rfl⟩ : ∃ xn : Nat, x = (xn : Nat) := ⟨x.toNat, by omega⟩
      have ex : ((xn : Nat) : Int).toNat = xn := by omega
      rw [ex] at p2 ch HN HST
      have hxn : xn < n := by omega
      have KP2 := Lib.hid (KP.out.trans kp)
      have HR2 := Lib.hid (Kpt.elts HR1.out kp HB1.out hS.out)
      have CH2 := Lib.hid ch
      have HM := Lib.hid p2
      clear ch kp CH KP HR1 HF1 p2 ex d0
      have CH := CH2
      have KP := KP2
      clear CH2 KP2
      obtain ⟨c0, _, _, _, _, _, _⟩ := CH.out.oq.seven
      obtain ⟨bn, offn, rfl, _, hnc⟩ := HR2.out.nds (by omega)
      obtain ⟨d0, d1, d2, d3, d4, d5, d6⟩ := hnc xn hxn
      clear hnc
      by_cases hy : nd ns xn = nd0
      · have HN2 := Lib.hid (HN.out ⟨p0, by rw [HLEN.out]; exact p1, HM.out, hy⟩)
        rw [hy] at d0 d1 d2 d3 d4 d5 d6
        simp only [nd0, it0] at d0 d1 d2 d3 d4 d5 d6
        clear hy HN HST
        go_wp2
        go_roundw
        case rel => exact ⟨k + 1, s1.set xn true, by omega, by go_num, HN2.out.symm.trans HFF.out, CH.out, KP.out⟩
        case measure => simp [intOf]; omega
      · have E2 : Hid (freeF ns free s = none) := by
          rw [Hid, ← HFF.out]
          exact HST.out (fun hh => hy hh.2.2.2)
        clear HN HST
        generalize nd ns xn = y at *
        obtain ⟨⟨y0, y1, y2⟩, y3, y4, y5, y6⟩ := y
        simp only at d0 d1 d2 d3 d4 d5 d6
        have hb : ¬ (y0 = 0 ∧ y1 = 0 ∧ y2 = 0 ∧ y3 = 0 ∧ y4 = 0 ∧ y5 = 0 ∧ y6 = 0) := fun ⟨a, b, c, d, e, f, g⟩ => hy (by rw [a, b, c, d, e, f, g]; rfl)
        clear hy
        by_cases z0 : y0 = 0
        · subst z0
          by_cases z1 : y1 = 0
          · subst z1
            by_cases z2 : y2 = 0
            · subst z2
              by_cases z3 : y3 = 0
              · subst z3
                by_cases z4 : y4 = 0
                · subst z4
                  by_cases z5 : y5 = 0
                  · subst z5
                    have z6 : (y6 == 0) = false := by simpa using hb
                    clear hb
                    go_wp2
                    go_ret
                    exact .inr ⟨_, rfl, E2.out, CH.out, KP.out⟩
                  · have zz : (y5 == 0) = false := by simpa using z5
                    clear hb
                    go_wp2
                    go_ret
                    exact .inr ⟨_, rfl, E2.out, CH.out, KP.out⟩
                · have zz : (y4 == 0) = false := by simpa using z4
                  clear hb
                  go_wp2
                  go_ret
                  exact .inr ⟨_, rfl, E2.out, CH.out, KP.out⟩
              · have zz : (y3 == 0) = false := by simpa using z3
                clear hb
                go_wp2
                go_ret
                exact .inr ⟨_, rfl, E2.out, CH.out, KP.out⟩
            · have zz : (y2 == 0) = false := by simpa using z2
              clear hb
              go_wp2
              go_ret
              exact .inr ⟨_, rfl, E2.out, CH.out, KP.out⟩
          · have zz : (y1 == 0) = false := by simpa using z1
            clear hb
            go_wp2
            go_ret
            exact .inr ⟨_, rfl, E2.out, CH.out, KP.out⟩
        · have zz : (y0 == 0) = false := by simpa using z0
          clear hb
          go_wp2
          go_ret
          exact .inr ⟨_, rfl, E2.out, CH.out, KP.out⟩
    · obtain rfl : k = fn := by omega
      have E3 : Hid (freeF ns free s = some s1) := by
        have h := HFF.out
        rw [← HFL.out, List.drop_length] at h
        rw [Hid, ← h, freeF]
      go_wp2
      go_ret
      exact .inl ⟨s1, rfl, E3.out, CH.out, KP.out⟩

def IdxR (w : World) (n : Nat) (s : List Bool) (i : Value) (wr : World) : Prop := ∃ k : Nat, k ≤ n ∧ i = .int .i64 (k : Nat) ∧ wr = w ∧ ∀ j, j < k → marked s j = true

theorem IndexB_any (g n c : Nat) (s : List Bool) (w : World) (h : Own w g 4 (boolsT s)) (hl : s.length = n) (hn : n ≤ 32) :
    Calls Try.prog 60 #[.slice (some ⟨g, 0, none⟩) n c, .bool false] w (fun e w' => ∃ z : Int, e = .returned (.int .i64 z) ∧ decide (0 ≤ z) = !(s.all id) ∧ w = w') := by
  have HO := Lib.hid h
  have HL := Lib.hid hl
  clear h hl
  go_enter Try.func60, Try.ntmps60
  go_wp2
  go_loopw [8] (fun i wr => IdxR w n s i wr) (fun i _ => n - (intOf i).toNat)
  case atStart => exact ⟨0, Nat.zero_le _, rfl, rfl, fun j hj => absurd hj (Nat.not_lt_zero _)⟩
  case round =>
    obtain ⟨k, hk, rfl, rfl, hall⟩ := hrel
    have HALL := Lib.hid hall
    clear hall
    by_cases hlt : k < n
    · have b0 := HO.out.cell k
      rw [boolsT_at (by rw [HL.out]; exact hlt)] at b0
      cases hm : marked s k
      case false =>
        rw [hm] at b0
        have E := Lib.hid (not_all HL.out hlt hm)
        clear hm
        go_wp2
        go_ret
        exact ⟨_, ret_int rfl, by rw [E.out]; simp, rfl⟩
      case true =>
        rw [hm] at b0
        have HX : Hid (∀ j, j < k + 1 → marked s j = true) := fun j hj => by
          rcases Nat.lt_or_ge j k with q | q
          · exact HALL.out j q
          · rw [show j = k by omega]; exact hm
        clear hm HALL
        go_wp2
        go_roundw
        case rel => exact ⟨k + 1, by omega, by go_num, rfl, HX.out⟩
        case measure => simp [intOf]; omega
    · obtain rfl : k = n := by omega
      have E := Lib.hid (all_yes HL.out HALL.out)
      clear HALL
      go_wp2
      go_ret
      exact ⟨_, ret_int rfl, by rw [E.out]; rfl, rfl⟩

theorem ContainsB_any (g n c : Nat) (s : List Bool) (w : World) (h : Own w g 4 (boolsT s)) (hl : s.length = n) (hn : n ≤ 32) :
    Calls Try.prog 43 #[.slice (some ⟨g, 0, none⟩) n c, .bool false] w (fun e w' => e = .returned (.bool (!(s.all id))) ∧ w = w') := by
  go_enter Try.func43, Try.ntmps43
  go_wp2_with fail
  refine (IndexB_any g n c s w h hl hn).mono ?_
  rintro e w1 ⟨z, rfl, hz, rfl⟩
  have HZ := Lib.hid hz
  clear hz
  go_wp2
  go_ret
  exact ⟨ret_bool HZ.out.symm, rfl⟩

def MadeB (n : Nat) (w w' : World) : Prop := (Instr.makeSlice 67 (.int .i64 (n : Nat)) (.int .i64 (n : Nat))).run Try.prog w = .ok (.slice (some ⟨w.heap.size, 0, none⟩) n n) w' ∧ Own w' w.heap.size 4 (boolsT (List.replicate n false)) ∧ w.grownBy w' none

theorem SemMakeB (n : Nat) (hv : n ≤ 32) : ∃ mk : World → World, ∀ w : World, MadeB n w (mk w) := by
  refine (Classical.skolem (p := MadeB n)).1 fun w => ?_
  obtain ⟨i0, hi, hz0, hz1, hz2⟩ := infoB_parts
  obtain ⟨w6, hrun, hmk, k6⟩ := run_make_full (P := Try.prog) w w.heap.size 67 4 i0 (.bool false) 1 Try.underlying67 hi hz0 hz1 .i64 .i64 n (by rw [hz2]; omega) (by unfold maxLen; omega) (Nat.le_refl _)
  rw [show (Value.bool false).cells = #[Value.bool false] from rfl, Nat.mul_one, toList_madeCells_one, rep_boolsT] at hmk
  exact ⟨w6, hrun, Own.of_made hmk, k6⟩

def MayMid (w : World) (A : Option Addr) (n c : Nat) (r : Int) (FA : Option Addr) (fn fc : Nat) (p : Value) (wx : World) : Prop :=
  ∃ q g, p = .pointer (some ⟨q, 0, none⟩) ∧ Chk wx q g A n c r FA fn fc n (List.replicate n false) it0 ∧ w.grownBy wx none ∧ w.heap.size ≤ q ∧ w.heap.size ≤ g

def chkZ : List Value := [.slice none 0 0, .int .i64 0, .slice none 0 0, .slice none 0 0, .int .i64 0, .int .i64 0, .int .i64 0]

theorem may_mid1 {w : World} {mk : World → World} {A : Option Addr} {n c : Nat} {r : Int} {FA : Option Addr} {fn fc : Nat} (h : ∀ w, MadeB n w (mk w)) :
    MayMid w A n c r FA fn fc (.pointer (some ⟨(mk w.drew).heap.size, 0, none⟩)) ((mk w.drew).alloc (.cells #[.slice A n c, .int .i64 r, .slice FA fn fc, .slice (some ⟨w.heap.size, 0, none⟩) n n, .int .i64 0, .int .i64 0, .int .i64 0] 76)) := by
  obtain ⟨_, h2, h3⟩ := h w.drew
  have hl : w.heap.size < (mk w.drew).heap.size := h2.lt
  exact ⟨_, w.heap.size, rfl, ⟨Own.new _ _ [_, _, _, _, _, _, _], h2.alloc _, by simp, by omega⟩, grown_trans (grown_undrew h3) (grow0 _ _), by omega, Nat.le_refl _⟩

theorem may_mid2 {w : World} {mk : World → World} {A : Option Addr} {n c : Nat} {r : Int} {FA : Option Addr} {fn fc : Nat} {o : List Value} (h : ∀ w, MadeB n w (mk w)) (ho : o = chkZ) :
    MayMid w A n c r FA fn fc (.pointer (some ⟨w.heap.size, 0, none⟩)) ((((((((mk (w.alloc (.cells o.toArray 76)).drew).setCell ⟨w.heap.size, 0, none⟩ (.slice A n c)).setCell ⟨w.heap.size, 1, none⟩ (.int .i64 r)).setCell ⟨w.heap.size, 2, none⟩ (.slice FA fn fc)).setCell ⟨w.heap.size, 3, none⟩ (.slice (some ⟨w.heap.size + 1, 0, none⟩) n n)).setCell ⟨w.heap.size, 4, none⟩ (.int .i64 0)).setCell ⟨w.heap.size, 5, none⟩ (.int .i64 0)).setCell ⟨w.heap.size, 6, none⟩ (.int .i64 0)) := by
  subst ho
  obtain ⟨_, h2, h3⟩ := h (w.alloc (.cells chkZ.toArray 76)).drew
  have e : (w.alloc (.cells chkZ.toArray 76)).drew.heap.size = w.heap.size + 1 := by
    show (w.alloc _).heap.size = _
    simp
  rw [e] at h2
  have o1 := (Own.new w 76 chkZ).kept (grown_trans (grown_drew (World.grownBy.refl _ none)) h3)
  have ne : ¬ w.heap.size = w.heap.size + 1 := by omega
  refine ⟨w.heap.size, w.heap.size + 1, rfl, ⟨((((((o1.put (i := 0) _).put (i := 1) _).put (i := 2) _).put (i := 3) _).put (i := 4) _).put (i := 5) _).put (i := 6) _, ((((((h2.setOther ne _).setOther ne _).setOther ne _).setOther ne _).setOther ne _).setOther ne _).setOther ne _, by simp, ne⟩,
    grown_new (grown_new (grown_new (grown_new (grown_new (grown_new (grown_new (grown_trans (grow0 _ _) (grown_trans (grown_drew (World.grownBy.refl _ none)) h3)) (Nat.le_refl _) _) (Nat.le_refl _) _) (Nat.le_refl _) _) (Nat.le_refl _) _) (Nat.le_refl _) _) (Nat.le_refl _) _) (Nat.le_refl _) _, Nat.le_refl _, by omega⟩

theorem may_no {ns : List Nd} {root : Int} {free : List Int} (h : ∀ T xs, TreeOk ns root free T → (T.sum ns).1 = xs → False) : (allF ns root free).isSome = false := by
  cases q : allF ns root free with
  | none => rfl
  | some xs =>
    obtain ⟨T, t, e⟩ := of_all q
    exact absurd e (fun e => h T xs t e)

theorem marks_off {s t : List Bool} {ps : List Nat} (h : Marks s ps t) (hall : t.all id = true) : ∀ k, k < s.length → marked s k = false → k ∈ ps := by
  intro k hk hm
  have h1 := h.2 k hk
  rw [hm, Bool.false_or] at h1
  have hk2 : k < t.length := by rw [h.1]; exact hk
  have : marked t k = true := by
    have h2 := List.all_eq_true.1 hall t[k] (List.getElem_mem hk2)
    simp only [marked, List.getElem?_eq_getElem hk2, Option.getD_some]
    simpa using h2
  rw [this] at h1
  exact of_decide_eq_true h1.symm

/-- From what the walk finds to what may be. -/
theorem may_from {ns : List Nd} {root : Int} {free : List Int} {s t : List Bool} {T : Tr} (h32 : ns.length ≤ 32) (hf : freeF ns free (List.replicate ns.length false) = some s) (hg : Good ns root s it0 T) (hm : Marks s T.places t) (hall : t.all id = true) : TreeOk ns root free T := by
  obtain ⟨⟨f1, f2⟩, mf⟩ := of_free free _ _ (by simp) hf
  have hsl : s.length = ns.length := by rw [mf.1]; simp
  have hnd : (free.map Int.toNat).Nodup := by
    rw [List.Nodup, List.pairwise_map]
    refine List.Pairwise.imp_of_mem ?_ f1
    intro a b ha hb hab e
    have := (f2 a ha).1
    have := (f2 b hb).1
    exact hab (by omega)
  have u1 := marks_less hnd (fun p hp => by
    obtain ⟨k, hk, rfl⟩ := List.mem_map.1 hp
    have := f2 k hk
    exact ⟨by simp; omega, this.2.2.1⟩) mf
  rw [unseen_rep, List.length_map] at u1
  have u2 := marks_less hg.once (fun p hp => ⟨by rw [hsl]; exact Tr.ok_in hg.ok p hp, hg.new p hp⟩) hm
  have u3 := all_seen.1 hall
  refine ⟨h32, hg.top, hg.ok, hg.once, f1, fun k hk => ?_, by omega, ?_⟩
  · obtain ⟨a, b, c, d⟩ := f2 k hk
    refine ⟨a, b, fun hp => ?_, d⟩
    have h1 := hg.new _ hp
    have h2 := mf.2 k.toNat (by simp; omega)
    rw [h1] at h2
    have : k.toNat ∈ free.map Int.toNat := List.mem_map.2 ⟨k, hk, rfl⟩
    simp [this] at h2
  · have hr := hg.row
    cases hx : (T.sum ns).1 with
    | nil => rfl
    | cons a r =>
      rw [hx] at hr
      simp only [risesFrom, Bool.and_eq_true] at hr
      exact hr.2

theorem it0_less {x : It} (h : itB x = true) : lessB it0 x = true := by
  rw [less_iff]
  simp only [itB, Bool.and_eq_true, decide_eq_true_eq, span_may] at h
  simp only [it0]
  omega

theorem tmay_good {ns : List Nd} {root : Int} {free : List Int} {T : Tr} (h : TreeOk ns root free T) :
    ∃ s, freeF ns free (List.replicate ns.length false) = some s ∧ Good ns root s it0 T ∧ ∀ t, Marks s T.places t → t.all id = true := by
  obtain ⟨s, es, ms⟩ := free_of (ns := ns) free (List.replicate ns.length false) (by simp) h.bare (fun k hk => by
    obtain ⟨a, b, c, d⟩ := h.spare k hk
    exact ⟨a, b, marked_rep (by omega), d⟩)
  have hsl : s.length = ns.length := by rw [ms.1]; simp
  have hnd : (free.map Int.toNat).Nodup := by
    rw [List.Nodup, List.pairwise_map]
    refine List.Pairwise.imp_of_mem ?_ h.bare
    intro a b ha hb hab e
    have := (h.spare a ha).1
    have := (h.spare b hb).1
    exact hab (by omega)
  have u1 := marks_less (s := List.replicate ns.length false) hnd (fun p hp => by
    obtain ⟨k, hk, rfl⟩ := List.mem_map.1 hp
    have := h.spare k hk
    exact ⟨by simp; omega, marked_rep (by omega)⟩) ms
  rw [unseen_rep, List.length_map] at u1
  have new : ∀ k ∈ T.places, marked s k = false := by
    intro k hk
    have hin := Tr.ok_in h.ok k hk
    rw [ms.2 k (by simpa using hin), marked_rep hin]
    simp only [Bool.false_or, decide_eq_false_iff_not]
    intro hm
    obtain ⟨j, hj, e⟩ := List.mem_map.1 hm
    have := (h.spare j hj).2.2.1
    rw [e] at this
    exact this hk
  refine ⟨s, es, ⟨h.top, h.ok, h.once, new, ?_⟩, fun t ht => ?_⟩
  · have hr := h.row
    cases hx : (T.sum ns).1 with
    | nil => rfl
    | cons a r =>
      rw [hx] at hr
      simp only [risesFrom, Bool.and_eq_true]
      exact ⟨it0_less (Tr.sum_it h.ok a (by rw [hx]; simp)), hr⟩
  · have u2 := marks_less h.once (fun p hp => ⟨by rw [hsl]; exact Tr.ok_in h.ok p hp, new p hp⟩) ht
    have := h.all
    exact all_seen.2 (by omega)

set_option maxHeartbeats 4000000 in
theorem TMay_any (A : Option Addr) (n c : Nat) (ns : List Nd) (r : Int) (FA : Option Addr) (fn fc : Nat) (free : List Int) (w : World) {B : Nat} (h : Tre w B A n ns FA fn free) (hB : B ≤ w.heap.size) : Calls Try.prog 14 #[.agg #[.slice A n c, .int .i64 r, .slice FA fn fc]] w (Says w (.bool (allF ns r free).isSome)) := by
  have HT := Lib.hid h
  have HLEN := Lib.hid h.nodes.len
  have hnm := h.nodes.small
  have G := Lib.hid (grow0 w (.cells #[.slice A n c, .int .i64 r, .slice FA fn fc] 25))
  have OQ := Lib.hid (Own.new w 25 [.slice A n c, .int .i64 r, .slice FA fn fc])
  clear h
  go_enter Try.func14, Try.ntmps14
  go_upto_region 1 with fail
  generalize w.alloc (.cells #[.slice A n c, .int .i64 r, .slice FA fn fc] 25) = w1 at *
  obtain ⟨c0, c1, c2⟩ := OQ.out.three
  by_cases hbig : (32 : Int) < n
  · have E : Hid ((allF ns r free).isSome = false) := by rw [Hid, all_over (.inl (by rw [HLEN.out]; omega))]; rfl
    go_wp2
    go_ret
    exact ⟨ret_bool E.out, G.out⟩
  have hn : n ≤ 32 := by omega
  obtain ⟨mk, hmk⟩ := SemMakeB n hn
  have MK := Lib.hid hmk
  have mkr : ∀ w : World, (Instr.makeSlice 67 (.int .i64 (n : Nat)) (.int .i64 (n : Nat))).run Try.prog w = .ok (.slice (some ⟨w.heap.size, 0, none⟩) n n) (mk w) := fun w => (hmk w).1
  clear hmk
  go_upto_region 3 with fail
  go_cut [3] from 8 to 14 (fun p wx => MayMid w1 A n c r FA fn fc p wx)
  case first =>
    have OZ := Lib.hid ((Own.new w1 76 chkZ).kept (grown_trans (grown_drew (World.grownBy.refl _ none)) (MK.out (w1.alloc (.cells #[.slice none 0 0, .int .i64 0, .slice none 0 0, .slice none 0 0, .int .i64 0, .int .i64 0, .int .i64 0] 76)).drew).2.2))
    obtain ⟨b0, b1, b2, b3, b4, b5, b6⟩ := OZ.out.seven
    have f0 := OZ.out.frozen 0
    have f1 := OZ.out.frozen 1
    have f2 := OZ.out.frozen 2
    have f3 := OZ.out.frozen 3
    have f4 := OZ.out.frozen 4
    have f5 := OZ.out.frozen 5
    have f6 := OZ.out.frozen 6
    obtain ⟨x0, x1, x2⟩ := (OQ.out.kept (grow0 w1 (.cells #[.slice none 0 0, .int .i64 0, .slice none 0 0, .slice none 0 0, .int .i64 0, .int .i64 0, .int .i64 0] 76))).three
    obtain ⟨x3, x4, x5⟩ := (OQ.out.kept (grown_undrew (MK.out w1.drew).2.2)).three
    obtain ⟨x6, x7, x8⟩ := ((OQ.out.kept (grow0 w1 (.cells #[.slice none 0 0, .int .i64 0, .slice none 0 0, .slice none 0 0, .int .i64 0, .int .i64 0, .int .i64 0] 76))).kept (grown_undrew (MK.out (w1.alloc (.cells #[.slice none 0 0, .int .i64 0, .slice none 0 0, .slice none 0 0, .int .i64 0, .int .i64 0, .int .i64 0] 76)).drew).2.2)).three
    obtain ⟨x9, xa, xb⟩ := ((OQ.out.kept (grown_undrew (MK.out w1.drew).2.2)).kept (grow0 (mk w1.drew) (.cells #[.slice none 0 0, .int .i64 0, .slice none 0 0, .slice none 0 0, .int .i64 0, .int .i64 0, .int .i64 0] 76))).three
    go_region_law (first | fail)
    all_goals go_wp2_with fail
    all_goals go_meet
    all_goals first
      | exact may_mid1 MK.out
      | exact may_mid2 (o := [.slice none 0 0, .int .i64 0, .slice none 0 0, .slice none 0 0, .int .i64 0, .int .i64 0, .int .i64 0]) MK.out rfl
  case rest =>
    obtain ⟨q, g, rfl, ch, kx, hq, hg⟩ := hcut
    have G2 := Lib.hid (grown_trans G.out kx)
    have OQ2 := Lib.hid (OQ.out.kept kx)
    have CH := Lib.hid ch
    have HT2 := Lib.hid (HT.out.grown hB G2.out)
    have gs := G.out.size
    have gs2 := G2.out.size
    have HS2 : Hid (∀ i, qg q g i → w.heap.size ≤ i) := fun i hi => by rcases hi with rfl | rfl <;> omega
    have HN : Hid (¬ qg q g w.heap.size) := fun e => by
      have := OQ.out.lt
      rcases e with e | e <;> omega
    clear ch kx G OQ HT c0 c1 c2 MK mkr
    obtain ⟨c0, c1, c2⟩ := OQ2.out.three
    go_wp2_with fail
    refine (Free_any q g A n c ns r FA fn fc n free (List.replicate n false) it0 wc (B := B) (by omega) (by omega) HT2.out (by omega) CH.out).mono ?_
    rintro e w3 (⟨s1, rfl, hf, ch, kp⟩ | ⟨s1, rfl, hf, ch, kp⟩)
    case inr =>
      have E : Hid ((allF ns r free).isSome = false) := may_no fun T xs t _ => by
        obtain ⟨s, es, _⟩ := tmay_good t
        rw [HLEN.out, hf] at es
        cases es
      have G3 := Lib.hid (Kpt.grown G2.out kp HS2.out)
      clear hf ch kp c0 c1 c2
      go_wp2
      go_ret
      exact ⟨ret_bool E.out, G3.out⟩
    have HF := Lib.hid hf
    have CH3 := Lib.hid ch
    have KP3 := Lib.hid kp
    have OQ3 := Lib.hid (Kpt.own OQ2.out kp HN.out)
    have HR3 := Lib.hid (Kpt.elts HT2.out.nodes kp (by omega) (fun i hi => Nat.le_trans hB (HS2.out i hi)))
    have s3 := kp.size
    clear hf ch kp CH OQ2 HT2 c0 c1 c2
    obtain ⟨c0, c1, c2⟩ := OQ3.out.three
    go_wp2_with fail
    refine (HungI_any ns q g A n c r FA fn fc n hn (B := B) (by omega) (by omega) (n + 1) r s1 it0 w3 HR3.out (by omega) CH3.out (by
      have : unseen s1 ≤ s1.length := List.countP_le_length
      have := CH3.out.len
      omega)).mono ?_
    rintro e w4 (⟨s2, T, rfl, hg, hm, ch, kp⟩ | ⟨s2, l2, rfl, hno, ch, kp⟩)
    case inr =>
      have E : Hid ((allF ns r free).isSome = false) := may_no fun T xs t _ => by
        obtain ⟨s, es, gd, _⟩ := tmay_good t
        rw [HLEN.out, HF.out] at es
        injection es with es
        subst es
        exact hno T gd
      have G4 := Lib.hid (Kpt.grown G2.out (KP3.out.trans kp) HS2.out)
      clear hno ch kp c0 c1 c2
      go_wp2
      go_ret
      exact ⟨ret_bool E.out, G4.out⟩
    have HG := Lib.hid hg
    have HM := Lib.hid hm
    have CH4 := Lib.hid ch
    have G4 := Lib.hid (Kpt.grown G2.out (KP3.out.trans kp) HS2.out)
    clear hg hm ch kp c0 c1 c2 CH3 OQ3 HR3 KP3
    obtain ⟨_, _, _, c3, _, _, _⟩ := CH4.out.oq.seven
    go_wp2_with fail
    refine (ContainsB_any g n n s2 w4 CH4.out.og CH4.out.len hn).mono ?_
    rintro e w5 ⟨rfl, rfl⟩
    have E : Hid ((allF ns r free).isSome = s2.all id) := by
      rw [Hid]
      cases ha : s2.all id
      · refine may_no fun T' xs t _ => ?_
        obtain ⟨s, es, gd, hall⟩ := tmay_good t
        rw [HLEN.out, HF.out] at es
        injection es with es
        subst es
        have e : T' = T := Tr.one gd.ok HG.out.ok (gd.top.trans HG.out.top.symm)
        subst e
        rw [hall _ HM.out] at ha
        cases ha
      · have hf := HF.out
        have hl := HLEN.out
        rw [← hl] at hf
        rw [all_of (may_from (by omega) hf HG.out HM.out ha)]
        rfl
    cases ha : s2.all id
    · rw [ha] at E
      clear ha
      go_wp2
      go_ret
      exact ⟨ret_bool E.out, G4.out⟩
    · rw [ha] at E
      clear ha
      go_wp2
      go_ret
      exact ⟨ret_bool E.out, G4.out⟩

end Go.Proofs.Ytgfehlmiejnonaa
