/-
  level.Levels.
-/
import Derived.Test.YtppcncblmakekaaLevelC
set_option maxRecDepth 20000
namespace Go.Proofs.Ytppcncblmakekaa
open Go.RowKit

def LvPost (w : World) (V : Int) (ls : List Lk) (caps f : List Int) (s : Int) (e : Ending) (w' : World) : Prop := ∃ M z, LvIs V ls caps f s M z ∧ SelPost w M z e w'

def LevRel (w : World) (g vn : Nat) (hd : Int → List Int) (s : Int) (o i : Value) (wr : World) : Prop :=
  ∃ (a : Nat) (M Q : List Int) (Aq : Option Addr) (cq : Nat), a ≤ Q.length ∧ i = .int .i64 (a : Nat) ∧ o = .slice Aq Q.length cq ∧ w.grownBy wr none ∧ Own wr g 3 (ints M) ∧ Mine wr (g + 1) (.slice Aq Q.length cq) Q.length Q ∧ Bfs vn hd s M Q a 0

def LvIn (w : World) (g vn : Nat) (hd : Int → List Int) (s : Int) (a : Nat) (v : Int) (o i : Value) (wr : World) : Prop :=
  ∃ (j : Nat) (M Q : List Int) (Aq : Option Addr) (cq : Nat), j ≤ (hd v).length ∧ i = .int .i64 (j : Nat) ∧ o = .slice Aq Q.length cq ∧ w.grownBy wr none ∧ Own wr g 3 (ints M) ∧ Mine wr (g + 1) (.slice Aq Q.length cq) Q.length Q ∧ Bfs vn hd s M Q a j ∧ a < Q.length ∧ qAt Q a = v

theorem bfs_ok {V : Nat} {hd : Int → List Int} {s : Int} {M Q : List Int} {a j : Nat} (b : Bfs V hd s M Q a j) (h8 : V ≤ 8) : okI Q := by
  intro i
  by_cases hi : i < Q.length
  · have := b.isin i hi
    have h1 := this.1
    have h2 := this.2
    unfold qAt at h1 h2
    omega
  · rw [List.getElem?_eq_none (by omega)]
    simp

theorem lv_cell {w : World} {g : Nat} {T : TypeId} {M : List Int} {v : Nat} (h : Own w g T (ints M)) (hv : v < M.length) : w.cell? ⟨g, v, none⟩ = some (.int .i64 (lvAt M (v : Int))) := by
  rw [h.cell v, ints_get M v hv]
  simp [lvAt]

theorem lvB_may {V : Int} {ls : List Lk} {caps f : List Int} {s : Int} (h : mayG V ls = false) : lvB V ls caps f s = false := by simp [lvB, fitsF, h]
theorem lvB_caps {V : Int} {ls : List Lk} {caps f : List Int} {s : Int} (h : capsB ls caps = false) : lvB V ls caps f s = false := by simp [lvB, fitsF, h]
theorem lvB_rates {V : Int} {ls : List Lk} {caps f : List Int} {s : Int} (h : ratesB caps f = false) : lvB V ls caps f s = false := by simp [lvB, fitsF, h]
theorem lvB_src {V : Int} {ls : List Lk} {caps f : List Int} {s : Int} (h : isV V s = false) : lvB V ls caps f s = false := by simp [lvB, h]
theorem lvB_all {V : Int} {ls : List Lk} {caps f : List Int} {s : Int} (h1 : mayG V ls = true) (h2 : capsB ls caps = true) (h3 : ratesB caps f = true) (h4 : isV V s = true) : lvB V ls caps f s = true := by simp [lvB, fitsF, h1, h2, h3, h4]

theorem lv_bad {w w' : World} {V : Int} {ls : List Lk} {caps f : List Int} {s : Int} (h : lvB V ls caps f s = false) (g : w.grownBy w' none) : LvPost w V ls caps f s (.returned (.tuple #[.slice none 0 0, .int .i64 1000])) w' :=
  ⟨[], 1000, lev_no h, _, rfl, Mine.nil _ _, g⟩

set_option maxRecDepth 20000 in
set_option maxHeartbeats 4000000 in
theorem Levels_any (V s : Int) (A : Option Addr) (n c : Nat) (ls : List Lk) (X : Option Addr) (m d : Nat) (caps : List Int) (Y : Option Addr) (r e0 : Nat) (f : List Int) (w : World) {B B' B'' : Nat} (h : Lks w B A n ls) (hB : B ≤ w.heap.size) (hx : Row w B' X m caps) (hB' : B' ≤ w.heap.size) (hy : Row w B'' Y r f) (hB'' : B'' ≤ w.heap.size) :
    Calls Try.prog 22 #[.agg #[.int .i64 V, .slice A n c], .slice X m d, .slice Y r e0, .int .i64 s] w (LvPost w V ls caps f s) := by
  have HL := Lib.hid h.len
  have HR := Lib.hid h
  have HX := Lib.hid hx
  have HY := Lib.hid hy
  have HR1 := Lib.hid (h.grown hB (grow0 w (.cells #[.int .i64 V, .slice A n c] 24)))
  clear h hx hy
  go_enter Try.func22, Try.ntmps22
  go_wp2_with fail
  refine (GMay_any V A n c ls _ HR1.out (by simp; omega)).mono ?_
  rintro e w1 ⟨rfl, g1⟩
  obtain ⟨g, o2⟩ := box1 [.int .i64 V, .slice A n c] g1
  obtain ⟨c0, c1⟩ := o2.two
  have G := Lib.hid g
  have O2 := Lib.hid o2
  clear g g1 o2 HR1
  cases hmay : mayG V ls
  · have E := Lib.hid (lvB_may (caps := caps) (f := f) (s := s) hmay)
    clear hmay
    go_wp2
    go_ret2
    exact lv_bad E.out G.out
  have HMAY := Lib.hid hmay
  have H8 := Lib.hid (may_8 hmay HL.out).1
  clear hmay
  go_wp2_with fail
  refine (areCaps_any V A n c ls X m d caps _ (HR.out.grown hB G.out) (HX.out.grown hB' G.out) (by have := G.out.size; omega) H8.out).mono ?_
  rintro e w2 ⟨rfl, g2⟩
  have G := Lib.hid (grown_trans G.out g2)
  have O2 := Lib.hid (O2.out.kept g2)
  clear g2 c0 c1
  cases hcap : capsB ls caps
  · have E := Lib.hid (lvB_caps (V := V) (f := f) (s := s) hcap)
    clear hcap
    go_wp2
    go_ret2
    exact lv_bad E.out G.out
  have HCAP := Lib.hid hcap
  clear hcap
  go_wp2_with fail
  refine (Rates_any X m d caps Y r e0 f _ (HX.out.grown hB' G.out) (HY.out.grown hB'' G.out)).mono ?_
  rintro e w3 ⟨rfl, g3⟩
  have G := Lib.hid (grown_trans G.out g3)
  have O2 := Lib.hid (O2.out.kept g3)
  clear g3
  obtain ⟨c0, c1⟩ := O2.out.two
  cases hrt : ratesB caps f
  · have E := Lib.hid (lvB_rates (V := V) (ls := ls) (s := s) hrt)
    clear hrt
    go_wp2
    go_ret2
    exact lv_bad E.out G.out
  have HRT := Lib.hid hrt
  clear hrt
  go_wp2_with fail
  refine (Vert1_any V s A n c _ rfl).mono ?_
  rintro e w4 ⟨rfl, g4⟩
  have G := Lib.hid (grown_trans G.out g4)
  have O2 := Lib.hid (O2.out.kept g4)
  clear g4 c0 c1
  obtain ⟨c0, c1⟩ := O2.out.two
  cases hs : isV V s
  · have E := Lib.hid (lvB_src (ls := ls) (caps := caps) (f := f) hs)
    clear hs
    go_wp2
    go_ret2
    exact lv_bad E.out G.out
  have HB := Lib.hid (lvB_all HMAY.out HCAP.out HRT.out hs)
  have h16 := may_small HMAY.out
  rw [HL.out] at h16
  obtain ⟨vn, rfl⟩ : ∃ vn : Nat, V = (vn : Nat) := ⟨V.toNat, by omega⟩
  have hsv : 0 ≤ s ∧ s < vn := by simpa [isV] using hs
  obtain ⟨sn, rfl⟩ : ∃ sn : Nat, s = (sn : Nat) := ⟨s.toNat, by omega⟩
  clear hs
  have HFIT := Lib.hid (lvB_parts HB.out).1
  go_wp2_with fail
  refine (heads_any vn A n c ls X m d caps Y r e0 f _ (HR.out.grown hB G.out) (by have := G.out.size; omega) (HX.out.grown hB' G.out) (by have := G.out.size; omega) (HY.out.grown hB'' G.out) (by have := G.out.size; omega) HFIT.out).mono ?_
  rintro e w5 ⟨gN, vsN, rfl, hgN, oN, hvN, nx, g5⟩
  have G := Lib.hid (grown_trans G.out g5)
  have O2 := Lib.hid (O2.out.kept g5)
  have ON := Lib.hid oN
  have NX := Lib.hid nx
  have l5 := oN.lt
  clear g5 c0 c1 oN nx
  obtain ⟨c0, c1⟩ := O2.out.two
  have HROW := Lib.hid (Row.newAt (w := w5) (g := w5.heap.size) (n := 1) (vs := #[.int .i64 (-1)]) [-1] rfl rfl rfl (by simp) (by simp))
  have c0' := kept (grow0 w5 (.cells #[.int .i64 (-1)] 3)) c0
  have c1' := kept (grow0 w5 (.cells #[.int .i64 (-1)] 3)) c1
  go_wp2_with fail
  refine (Repeat_any _ vn (-1) _ HROW.out (by omega) (by omega)).mono ?_
  rintro e w6 ⟨g, rfl, hg, o6, g6⟩
  have hg5 : w5.heap.size < g := by have := hg; simp at this; omega
  have G6 := Lib.hid (grown_trans (grow0 w5 _) g6)
  have e0 : w6.cell? ⟨g, sn, none⟩ = some (.int .i64 (-1)) := by
    rw [o6.cell sn, ints_get _ _ (by simp; omega), List.getElem?_replicate, if_pos (by omega)]
    rfl
  have f0 := o6.frozen sn
  have O6 := Lib.hid o6
  have l6 := o6.lt
  have GS : Hid (w5.grownBy ((w6.setCell ⟨g, sn, none⟩ (.int .i64 0)).alloc (.cells #[.int .i64 (sn : Nat)] 3)) none) := grown_alloc (grown_new G6.out (by omega) _) _
  have HS : Hid (LevRel w5 g vn (fun v => hdOf ls caps f n v) (sn : Nat) (.slice (some ⟨w6.heap.size, 0, none⟩) 1 1) (.int .i64 0) ((w6.setCell ⟨g, sn, none⟩ (.int .i64 0)).alloc (.cells #[.int .i64 (sn : Nat)] 3))) := by
    refine ⟨0, (List.replicate vn (-1)).set sn 0, [(sn : Int)], some ⟨w6.heap.size, 0, none⟩, 1, by simp, rfl, rfl, GS.out, ?_, ?_, ?_⟩
    · have := (O6.out.put (i := sn) (.int .i64 0)).alloc (.cells #[.int .i64 (sn : Nat)] 3)
      rw [ints_set] at this
      exact this
    · exact Mine.lit (w := w6.setCell ⟨g, sn, none⟩ (.int .i64 0)) (base := g + 1) (g := w6.heap.size) [(sn : Int)] 1 (by simp [World.setCell]) rfl rfl (by simp [World.setCell]; omega) (by simp)
    · have := bfs_first (V := vn) (hd := fun v => hdOf ls caps f n v) (s := (sn : Int)) ⟨by omega, by omega⟩
      rw [Int.toNat_natCast] at this
      exact this
  clear o6 g6 G6 O6 GS HROW c0' c1' hg
  go_wp2
  go_loopw [12, 13] (fun o i wr => LevRel w5 g vn (fun v => hdOf ls caps f n v) (sn : Nat) o i wr) (fun _ i _ => vn - (intOf i).toNat)
  case atStart => exact HS.out
  case round =>
    clear HS c0 c1 e0 f0
    obtain ⟨a, M, Q, Aq, cq, ha, rfl, rfl, hgr, om, mq, bfs⟩ := hrel
    have hmany := bfs.many
    have GR := Lib.hid hgr
    have OM := Lib.hid om
    have MQ := Lib.hid mq
    have BF := Lib.hid bfs
    have hsz := hgr.size
    clear hgr om mq bfs
    by_cases hlt : a < Q.length
    · obtain ⟨bq, offq, rfl, _, hcq⟩ := (MQ.out.rowAt (bfs_ok BF.out (by omega))).at_ (by omega)
      have d0 := hcq a hlt
      have hiv := BF.out.isin a hlt
      have HQ : Hid (Q[a]?.getD 0 = qAt Q a) := rfl
      rw [HQ.out] at d0
      obtain ⟨v, hv⟩ : ∃ v : Nat, qAt Q a = (v : Nat) := ⟨(qAt Q a).toNat, by have := hiv.1; omega⟩
      rw [hv] at d0
      have hvn : v < vn := by have := hiv.2; omega
      obtain ⟨Ah, ch, hvs, hrow⟩ := NX.out v hvn
      have e1 : wr.cell? ⟨gN, v, none⟩ = some (.slice Ah (hdOf ls caps f n (v : Int)).length ch) := kept GR.out (by rw [ON.out.cell v]; exact hvs)
      have HH := Lib.hid hrow
      have HIN := Lib.hid (hd_in HMAY.out HL.out (caps := caps) (f := f) (v : Int))
      have HS : Hid (LvIn w5 g vn (fun v => hdOf ls caps f n v) (sn : Nat) a (v : Nat) (.slice (some ⟨bq, offq, none⟩) Q.length cq) (.int .i64 0) wr) :=
        ⟨0, M, Q, _, cq, Nat.zero_le _, rfl, rfl, GR.out, OM.out, MQ.out, BF.out, hlt, hv⟩
      have hhl := hd_len ls caps f (rowA ls (v : Int) (2 * n))
      have hhl2 := row_len ls (v : Int) (2 * n)
      rw [show hdR ls caps f (rowA ls (v : Int) (2 * n)) = hdOf ls caps f n (v : Int) from rfl] at hhl
      have HDV : Hid (∃ l, l = hdOf ls caps f n (v : Int)) := ⟨_, rfl⟩
      clear hcq hiv hvs hrow OM MQ BF GR
      go_wp2
      go_loopw [12, 67] (fun o i wi => LvIn w5 g vn (fun v => hdOf ls caps f n v) (sn : Nat) a (v : Nat) o i wi) (fun _ i _ => (hdOf ls caps f n (v : Int)).length - (intOf i).toNat)
      case atStart => exact HS.out
      case round =>
        clear HS d0 e1
        obtain ⟨j, M, Q, Aq, cq, hj, rfl, rfl, hgr, om, mq, bfs, hal, hqa⟩ := hrel
        have hlm := bfs.len
        have hgot := bfs.got a hal
        rw [hqa] at hgot
        have hmany := bfs.many
        have GR := Lib.hid hgr
        have OM := Lib.hid om
        have MQ := Lib.hid mq
        have BF := Lib.hid bfs
        have hsz := hgr.size
        have lo := om.lt
        clear hgr om mq bfs
        by_cases hjl : j < (hdOf ls caps f n (v : Int)).length
        · obtain ⟨bh, offh, rfl, _, hch⟩ := HH.out.at_ (by omega)
          have d1 := kept GR.out (hch j hjl)
          have hxv : inV vn ((hdOf ls caps f n (v : Int))[j]?.getD 0) := by
            rw [List.getElem?_eq_getElem hjl]
            exact HIN.out _ (List.getElem_mem hjl)
          have BO := Lib.hid (fun hn => bfs_old BF.out (by rw [hqa]; exact hxv) hn)
          have BN := Lib.hid (fun x hx => bfs_new (x := x) BF.out hal (by rw [hqa]; exact hjl) hx)
          rw [hqa] at BO BN
          obtain ⟨x, hx⟩ : ∃ x : Nat, (hdOf ls caps f n (v : Int))[j]?.getD 0 = (x : Nat) := ⟨((hdOf ls caps f n (v : Int))[j]?.getD 0).toNat, by have := hxv.1; omega⟩
          have BN2 := Lib.hid (BN.out _ hx)
          rw [hx] at d1 hxv BO
          rw [Int.toNat_natCast] at BN2
          have hxn : x < vn := by have := hxv.2; omega
          have e1 := lv_cell (v := x) OM.out (by omega)
          have e2 := lv_cell (v := v) OM.out (by omega)
          clear BN hch HH
          by_cases hneg : lvAt M (x : Int) < 0
          · have BN3 := Lib.hid (BN2.out hxv hneg)
            have f1 := OM.out.frozen x
            have OM2 : Hid (Own (wr.setCell ⟨g, x, none⟩ (.int .i64 (lvAt M (v : Int) + 1))) g 3 (ints (M.set x (lvAt M (v : Int) + 1)))) := by
              have := OM.out.put (i := x) (.int .i64 (lvAt M (v : Int) + 1))
              rw [ints_set] at this
              exact this
            clear BN2 BO
            generalize lvAt M (x : Int) = lx at *
            generalize lvAt M (v : Int) = lv at *
            have HM1 : Hid (Mine ((wr.setCell ⟨g, x, none⟩ (.int .i64 (lv + 1))).alloc (.cells #[.int .i64 (x : Nat)] 3)) (g + 1) (.slice Aq Q.length cq) Q.length Q) := (MQ.out.putLow (by omega)).kept (grow0 _ _)
            have HROW := Lib.hid (Row.newAt (w := wr.setCell ⟨g, x, none⟩ (.int .i64 (lv + 1))) (g := wr.heap.size) (n := 1) (vs := #[.int .i64 (x : Nat)]) [(x : Int)] (by simp [World.setCell]) rfl rfl (by simp) (by simp; omega))
            have hss : (wr.setCell ⟨g, x, none⟩ (.int .i64 (lv + 1))).heap.size = wr.heap.size := by simp [World.setCell]
            go_wp2_with (first | (at_builtin; refine wpList_app _ rfl _ _ rfl (g + 1) _ Q.length Q rfl HM1.out (some ⟨wr.heap.size, 0, none⟩) 1 1 [(x : Int)] rfl HROW.out (by simp) (by omega) (by simp [hss]; omega) ?_))
            intro v1 w7 hm1 hg7 _
            have hge := HM1.out.own_ge
            have G7 := Lib.hid (grown_none (grown_alloc (grown_new (g := g) (i := x) GR.out (by omega) (.int .i64 (lv + 1))) (.cells #[.int .i64 (x : Nat)] 3)) hg7 (fun g' hg' => by have := hge g' hg'; omega))
            have O7 := Lib.hid ((OM2.out.alloc (.cells #[.int .i64 (x : Nat)] 3)).kept' hg7 (fun e => by have := hge _ e; omega))
            have hql : (Q ++ [(x : Int)]).length = Q.length + 1 := by simp
            have hm2 : Mine w7 (g + 1) v1 (Q ++ [(x : Int)]).length (Q ++ [(x : Int)]) := by rw [hql]; exact hm1
            obtain ⟨A7, c7, rfl, _⟩ := hm2.sl
            have M7 := Lib.hid hm2
            have hq2 : qAt (Q ++ [(x : Int)]) a = (v : Nat) := by rw [q_app hal]; exact hqa
            clear hm1 hm2 hg7 hge HM1 HROW OM2 OM MQ GR e1 e2 f1 d1
            go_wp2
            go_roundw
            case rel => exact ⟨j + 1, M.set x (lv + 1), Q ++ [(x : Int)], A7, c7, hjl, by go_num, rfl, G7.out, O7.out, M7.out, BN3.out, by omega, hq2⟩
            case measure => simp [intOf]; omega
          · have BO2 := Lib.hid (BO.out (by omega))
            clear BN2 BO
            go_wp2
            go_roundw
            case rel => exact ⟨j + 1, M, Q, Aq, cq, hjl, by go_num, rfl, GR.out, OM.out, MQ.out, BO2.out, hal, hqa⟩
            case measure => simp [intOf]; omega
        · obtain rfl : j = (hdOf ls caps f n (v : Int)).length := Nat.le_antisymm hj (by omega)
          have BX := Lib.hid (bfs_next BF.out hal (by rw [hqa]; exact Nat.le_refl _))
          go_wp2
          go_roundw
          case rel => exact ⟨a + 1, M, Q, Aq, cq, by omega, by go_num, rfl, GR.out, OM.out, MQ.out, BX.out⟩
          case measure => simp [intOf]; omega
    · obtain rfl : a = Q.length := by omega
      have hlm := BF.out.len
      have HI := Lib.hid (bfs_end (Leads ls caps f (2 * n)) (leads_in HMAY.out HL.out) (fun u v _ => hd_mem) BF.out (Nat.le_refl _))
      go_wp2
      go_ret2
      exact ⟨M, 0, lev_yes HB.out HL.out HI.out, _, rfl, by rw [hlm]; exact OM.out.mine (by have := G.out.size; omega) hlm (by omega), grown_trans G.out GR.out⟩

end Go.Proofs.Ytppcncblmakekaa
