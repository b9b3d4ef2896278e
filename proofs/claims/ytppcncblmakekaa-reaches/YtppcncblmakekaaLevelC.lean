/-
  level.heads, walked.
-/
import Derived.Test.YtppcncblmakekaaLevelB
set_option maxRecDepth 20000
namespace Go.Proofs.Ytppcncblmakekaa
open Go.RowKit

set_option maxRecDepth 20000 in
set_option maxHeartbeats 4000000 in
theorem heads_any (vn : Nat) (A : Option Addr) (n c : Nat) (ls : List Lk) (X : Option Addr) (m d : Nat) (caps : List Int) (Y : Option Addr) (r e0 : Nat) (f : List Int) (w : World) {B B' B'' : Nat} (h : Lks w B A n ls) (hB : B ≤ w.heap.size) (hx : Row w B' X m caps) (hB' : B' ≤ w.heap.size) (hy : Row w B'' Y r f) (hB'' : B'' ≤ w.heap.size)
    (hf : fitsF (vn : Nat) ls caps f = true) : Calls Try.prog 35 #[.agg #[.int .i64 (vn : Nat), .slice A n c], .slice X m d, .slice Y r e0] w (HeadsPost w vn (fun v => hdOf ls caps f n (v : Int))) := by
  have HF := Lib.hid hf
  have HMAY := Lib.hid (fits_parts hf).1
  have HL := Lib.hid h.len
  have h16 := may_small HMAY.out
  rw [HL.out] at h16
  have HR := Lib.hid h
  have HX := Lib.hid hx
  have HY := Lib.hid hy
  obtain ⟨okS', okO', okH'⟩ := may_ok HMAY.out HL.out
  have okS := Lib.hid okS'
  have okO := Lib.hid okO'
  have okH := Lib.hid okH'
  have hls := starts_len ls n (vn + 1)
  have hlh := heads_len ls (2 * n)
  have hlo := ord_len ls n vn
  have hmul : 2 * n * vn ≤ 2 * 16 * 8 := Nat.mul_le_mul (by omega) (by omega)
  obtain ⟨i0, hi, hz0, hz1, hz2⟩ := info_parts info25
  have HI := Lib.hid hi
  have HZ0 := Lib.hid hz0
  have HZ1 := Lib.hid hz1
  have HZ2 := Lib.hid hz2
  clear hi hz0 hz1 hz2 hf h hx hy okS' okO' okH'
  go_enter Try.func35, Try.ntmps35
  go_upto_region 1 with fail
  have OB := Lib.hid (Own.new w 24 [.int .i64 (vn : Nat), .slice A n c])
  have G := Lib.hid (grow0 w (.cells #[.int .i64 (vn : Nat), .slice A n c] 24))
  have hs0 : (w.alloc (.cells #[.int .i64 (vn : Nat), .slice A n c] 24)).heap.size = w.heap.size + 1 := by simp
  generalize w.alloc (.cells #[.int .i64 (vn : Nat), .slice A n c] 24) = w0 at *
  obtain ⟨p0, p1⟩ := OB.out.two
  go_wp2_with (first | (refine wpList_make_full _ rfl _ _ 58 rfl w0.heap.size 25 i0 (.slice none 0 0) 1 Try.underlying58 HI.out HZ0.out HZ1.out .i64 .i64 (vn : Int) (vn : Int) vn rfl rfl rfl rfl (by rw [HZ2.out]; omega) (by unfold maxLen; omega) (Nat.le_refl _) ?_))
  intro w1 hmk k1
  rw [toList_madeCells_one] at hmk
  have OP : Hid (Own w1 (w.heap.size + 1) 25 (List.replicate vn (.slice none 0 0))) := Own.of_made hmk
  have G := Lib.hid (grown_trans G.out k1)
  have OB := Lib.hid (OB.out.kept k1)
  clear hmk k1 HI HZ0 HZ1 HZ2 p0 p1
  have hs1 := OP.out.lt
  obtain ⟨p0, p1⟩ := OB.out.two
  clear hs0
  go_wp2_with fail
  refine (Build_may vn A n c ls _ (HR.out.grown hB G.out) (by have := G.out.size; omega) HMAY.out).mono ?_
  rintro e w2 ⟨x, y, z, rfl, ta, k⟩
  obtain ⟨Ax, cx, rfl, _, _, rS⟩ := ta.S.rowN okS.out
  obtain ⟨Ay, cy, rfl, hcy, hny, rO⟩ := ta.O.rowN okO.out
  obtain ⟨Az, cz, rfl, _, _, rH⟩ := ta.H.rowN okH.out
  have ra : Rows3 w2 w2.heap.size Ax Ay Az (startsA ls n (vn + 1)) (ordA ls n vn) (headsA ls (2 * n)) := ⟨rS, rO, rH⟩
  obtain ⟨bs, offs, rfl, _, _⟩ := rS.at_ (by omega)
  have HNY := Lib.hid hny
  rw [hls, hlh]
  clear rS rO rH hny ta
  generalize hno : (ordA ls n vn).length = no at *
  have HNO := Lib.hid hno
  clear hno
  have k2 := grow0 w2 (.cells #[.slice (some ⟨bs, offs, none⟩) (vn + 1) cx, .slice Ay no cy, .slice Az (2 * n) cz] 72)
  have HS : Hid (HdRel w (w.heap.size + 1) w2.heap.size vn A n c ls (some ⟨bs, offs, none⟩) Ay Az (vn + 1) no (2 * n) cx cy cz (fun v => hdOf ls caps f n (v : Int)) (.int .i64 0) (w2.alloc (.cells #[.slice (some ⟨bs, offs, none⟩) (vn + 1) cx, .slice Ay no cy, .slice Az (2 * n) cz] 72))) := by
    refine ⟨0, List.replicate vn (.slice none 0 0), Nat.zero_le _, rfl, ⟨grown_trans (grown_trans G.out k) k2, (OB.out.kept k).kept k2, Own.new w2 72 [.slice (some ⟨bs, offs, none⟩) (vn + 1) cx, .slice Ay no cy, .slice Az (2 * n) cz], (ra.grown (Nat.le_refl _) k2).wide (by simp), ⟨by omega, ?_, by simp⟩, Nat.le_refl _⟩, (OP.out.kept k).kept k2, by simp, ?_, fun v hv => by omega, fun v _ hv => ?_⟩
    · have := k.size; omega
    · intro u hu
      rw [List.eq_of_mem_replicate hu]
      rfl
    · rw [List.getElem?_replicate, if_pos hv]
  have OB := Lib.hid ((OB.out.kept k).kept k2)
  clear k k2 ra OP G p0 p1 hs1
  obtain ⟨p0, p1⟩ := OB.out.two
  go_wp2
  go_loopw [25] (fun i wr => HdRel w (w.heap.size + 1) w2.heap.size vn A n c ls (some ⟨bs, offs, none⟩) Ay Az (vn + 1) no (2 * n) cx cy cz (fun v => hdOf ls caps f n (v : Int)) i wr) (fun i _ => vn - (intOf i).toNat)
  case atStart => exact HS.out
  case round =>
    clear HS OB p0 p1
    obtain ⟨k, vs, hk, rfl, keep, op, hvl, hsl, nx, nils⟩ := hrel
    have KEEP := Lib.hid keep
    have OP := Lib.hid op
    have HSL := Lib.hid hsl
    have NX := Lib.hid nx
    have NILS := Lib.hid nils
    have hpq := keep.pq
    clear keep op hsl nx nils
    by_cases hlt : k < vn
    · have hs0 := KEEP.out.ra.S.cellAt (i := k) (by omega)
      have hs1 := KEEP.out.ra.S.cellAt (i := k + 1) (by omega)
      rw [starts_at ls n (vn + 1) k (by omega)] at hs0
      have ho1 : (ordA ls n (k + 1)).length = (ordA ls n k).length + (rowA ls (k : Nat) (2 * n)).length := by rw [ordA, List.length_append]
      rw [starts_at ls n (vn + 1) (k + 1) (by omega), ho1] at hs1
      have hmo := ord_mono ls n (k + 1) vn (by omega)
      rw [ho1, HNO.out] at hmo
      clear ho1
      have HAT := Lib.hid (fun j => ord_at ls n vn k j hlt)
      have hrl := row_len ls (k : Nat) (2 * n)
      have hrm := Lib.hid (row_mem ls (k : Nat) (2 * n))
      have HDK : Hid (hdOf ls caps f n (k : Int) = hdR ls caps f (rowA ls (k : Int) (2 * n))) := rfl
      obtain ⟨a0, a1, a2⟩ := KEEP.out.oa.three
      have ro := KEEP.out.ra.O
      rw [HNO.out] at ro
      have RO := Lib.hid ro
      clear ro
      generalize (ordA ls n k).length = s0 at *
      generalize rowA ls (k : Nat) (2 * n) = row at *
      have CUT : Hid (∀ A' : Option Addr, (¬ cy = s0 → A' = Ay.map (·.add s0)) → Row wr wr.heap.size A' row.length row) := fun A' h1 => row_cut RO.out hmo hcy rfl HAT.out h1
      clear HAT RO
      have hmo1 : s0 + row.length ≤ cy := by omega
      go_upto_region 6 with fail
      go_cut [25, 41, 42, 43] from 25 to 72 (fun a b c d wx => HdMid wr k row a b c d wx)
      case first =>
        have hsum : ((s0 + row.length : Nat) : Int) = (s0 : Int) + (row.length : Int) := by omega
        by_cases hcs : cy = s0
        · subst hcs
          obtain rfl : row = [] := List.eq_nil_of_length_eq_zero (by omega)
          have CUT1 := Lib.hid (CUT.out Ay (fun h => absurd rfl h))
          clear CUT
          go_quiet (fail)
          go_wp2
          go_meet
          case rel => exact ⟨_, _, rfl, rfl, rfl, rfl, CUT1.out, grown_drewN (World.grownBy.refl _ _) _⟩
        · have hsc : ¬ s0 = cy := fun h => hcs h.symm
          cases Ay with
          | none =>
            have := HNY.out rfl
            omega
          | some ay =>
            go_quiet (fail)
            go_wp2
            go_meet
            case rel => exact ⟨some (ay.add s0), cy - s0, rfl, by rw [Nat.add_sub_cancel_left], rfl, rfl, CUT.out _ (fun _ => rfl), grown_drewN (World.grownBy.refl _ _) _⟩
      case rest =>
        obtain ⟨Ar, cr, rfl, rfl, rfl, rfl, rr, gx⟩ := hcut
        obtain ⟨S, hS⟩ : ∃ S, S = wr.heap.size := ⟨_, rfl⟩
        rw [← hS] at KEEP NX rr hpq
        have HSW : Hid (S ≤ wr.heap.size) := by rw [hS]; exact Nat.le_refl _
        clear hS
        have HS : Hid (HdIn w (w.heap.size + 1) w2.heap.size vn A n c ls (some ⟨bs, offs, none⟩) Ay Az (vn + 1) no (2 * n) cx cy cz (fun v => hdOf ls caps f n (v : Int)) caps f row Ar S k vs (.int .i64 0) wc) :=
          ⟨0, none, 0, Nat.zero_le _, rfl, KEEP.out.grown gx (by simp), by rw [show (hdR ls caps f (row.take 0)).length = 0 from rfl, set_self (NILS.out k (Nat.le_refl _) hlt)]; exact OP.out.kept gx, NX.out.grown' HSW.out gx (by simp), rr.grown HSW.out gx, Mine.nil _ _⟩
        clear KEEP OP NX rr gx CUT a0 a1 a2 hs0 hs1 hmo hmo1 HNY
        go_wp2
        go_loopw [43] (fun i wi => HdIn w (w.heap.size + 1) w2.heap.size vn A n c ls (some ⟨bs, offs, none⟩) Ay Az (vn + 1) no (2 * n) cx cy cz (fun v => hdOf ls caps f n (v : Int)) caps f row Ar S k vs i wi) (fun i _ => row.length - (intOf i).toNat)
        case atStart => exact HS.out
        case round =>
          clear HS
          obtain ⟨j, Ag, cg, hj, rfl, keep, op, nx, rr, mg⟩ := hrel
          have KEEP := Lib.hid keep
          have OP := Lib.hid op
          have NX := Lib.hid nx
          have MG := Lib.hid mg
          have RR := Lib.hid rr
          have hsz := keep.sz
          have hpq := keep.pq
          obtain ⟨p0, p1⟩ := keep.ob.two
          clear keep op nx mg rr
          by_cases hjl : j < row.length
          · obtain ⟨br, offr, rfl, _, hcr⟩ := RR.out.at_ (by omega)
            have d0 := hcr j hjl
            have hab : 0 ≤ row[j]?.getD 0 ∧ row[j]?.getD 0 < ((2 * n : Nat) : Int) := by
              rw [List.getElem?_eq_getElem hjl]
              exact hrm.out _ (List.getElem_mem hjl)
            have HY1 := Lib.hid (hd_yes (ls := ls) (caps := caps) (f := f) hjl)
            have HN1 := Lib.hid (hd_no (ls := ls) (caps := caps) (f := f) hjl)
            have hhl := hd_len ls caps f (row.take j)
            rw [List.length_take] at hhl
            obtain ⟨an, han⟩ : ∃ an : Nat, row[j]?.getD 0 = (an : Nat) := ⟨(row[j]?.getD 0).toNat, by omega⟩
            rw [han] at d0 hab HY1 HN1
            rw [Int.toNat_natCast] at HY1
            have hhb := head_bd HMAY.out (a := an) (by have := HL.out; omega)
            obtain ⟨bh, offh, hAz, _, hch⟩ := KEEP.out.ra.H.at_ (by omega)
            subst hAz
            have d1 := hch an (by omega)
            rw [heads_at ls _ an (by omega)] at d1
            have D1 := Lib.hid d1
            clear hcr hch d1 han
            generalize hdR ls caps f (row.take j) = hs at *
            generalize headOf ls an = hx at *
            go_wp2_with fail
            refine (SRoom_yes vn (an : Nat) A n c ls X m d caps Y r e0 f _ (HR.out.grown hB KEEP.out.g) (by have := KEEP.out.g.size; omega) (HX.out.grown hB' KEEP.out.g) (by have := KEEP.out.g.size; omega) (HY.out.grown hB'' KEEP.out.g) (by have := KEEP.out.g.size; omega) HF.out (by omega)).mono ?_
            rintro e w5 ⟨rfl, g5⟩
            have KEEP := Lib.hid (KEEP.out.grown g5 (by simp))
            have OP := Lib.hid (OP.out.kept g5)
            have NX := Lib.hid (NX.out.grown' hsz g5 (by simp))
            have MG := Lib.hid (MG.out.kept g5)
            have RR := Lib.hid (RR.out.grown hsz g5)
            have d1 := kept g5 D1.out
            have hs5 := KEEP.out.sz
            clear g5 D1 d0 p0 p1 hsz
            generalize roomI caps f (an : Int) = rm at *
            by_cases hpos : 0 < rm
            · have HY2 := Lib.hid (HY1.out (by omega))
              clear HY1 HN1
              have hab0 : (0 : Int) ≤ (an : Int) := by omega
              have hab1 : (an : Int) < 2 * (n : Int) := by omega
              have hkv0 : (k : Int) < (vn : Int) := by omega
              have a2 := KEEP.out.oa.three.2.2
              have c0 : w5.cell? ⟨w.heap.size + 1, k, none⟩ = some (.slice Ag hs.length cg) := by rw [OP.out.cell k, List.getElem?_set_self (by omega)]
              have c0' : (w5.alloc (.cells #[.int .i64 hx] 3)).cell? ⟨w.heap.size + 1, k, none⟩ = some (.slice Ag hs.length cg) := kept (grow0 _ _) c0
              have HM1 : Hid (Mine (w5.alloc (.cells #[.int .i64 hx] 3)).drew S (.slice Ag hs.length cg) hs.length hs) := MG.out.kept (grown_drew (grow0 _ _))
              have HROW : Hid (Row (w5.alloc (.cells #[.int .i64 hx] 3)).drew (w5.heap.size + 1) (some ⟨w5.heap.size, 0, none⟩) 1 [hx]) := (Row.newAt (w := w5) (g := w5.heap.size) (n := 1) (vs := #[.int .i64 hx]) [hx] rfl rfl rfl (by simp) (by simp; omega)).drewN 1
              have KE : Hid (HdKeep w (w.heap.size + 1) w2.heap.size vn A n c ls (some ⟨bs, offs, none⟩) Ay (some ⟨bh, offh, none⟩) (vn + 1) no (2 * n) cx cy cz S (w5.alloc (.cells #[.int .i64 hx] 3)).drew) := KEEP.out.grown (grown_drew (grow0 _ _)) (by simp)
              have OE : Hid (Own (w5.alloc (.cells #[.int .i64 hx] 3)).drew (w.heap.size + 1) 25 (vs.set k (.slice Ag hs.length cg))) := OP.out.kept (grown_drew (grow0 _ _))
              have NE : Hid (Nexts (w5.alloc (.cells #[.int .i64 hx] 3)).drew S vs (fun v => hdOf ls caps f n (v : Int)) k) := NX.out.grown' hs5 (grown_drew (grow0 _ _)) (by simp)
              have RE : Hid (Row (w5.alloc (.cells #[.int .i64 hx] 3)).drew S (some ⟨br, offr, none⟩) row.length row) := RR.out.grown hs5 (grown_drew (grow0 _ _))
              clear KEEP OP NX MG RR
              go_upto_region 11 with fail
              go_region_law
                ((refine step_app4 rfl _ _ (by rfl) S _ hs.length hs (by rfl) HM1.out (some ⟨w5.heap.size, 0, none⟩) 1 1 [hx] (by rfl) HROW.out (by simp) (by omega) (by simp; omega) ?_; intro v6 w6 hm6 hg6 _; have hge := HM1.out.own_ge; obtain ⟨A6, c6, rfl, _⟩ := hm6.sl; have K6 := Lib.hid (KE.out.grown hg6 hge); have O6 := Lib.hid (OE.out.kept' hg6 (fun e => by have := hge _ e; omega)); have N6 := Lib.hid (NE.out.grown' (by simp; omega) hg6 hge); have R6 := Lib.hid (RE.out.grown' (by simp; omega) hg6 hge); have M6 := Lib.hid hm6; have k0 := O6.out.cell k; rw [List.getElem?_set_self (by omega)] at k0; have t0 := O6.out.frozen k; clear hm6 hg6 hge))
              all_goals have HL2 : Hid ((hdR ls caps f (row.take (j + 1))).length = hs.length + 1) := by rw [Hid, HY2.out, List.length_append]; rfl
              all_goals have P6 : Hid (Own (w6.setCell ⟨w.heap.size + 1, k, none⟩ (.slice A6 (hs.length + 1) c6)) (w.heap.size + 1) 25 (vs.set k (.slice A6 (hs.length + 1) c6))) := by have := O6.out.put (i := k) (.slice A6 (hs.length + 1) c6); rw [List.set_set] at this; exact this
              all_goals go_wp2
              all_goals go_roundw
              all_goals first
                | (simp [intOf]; omega)
                | exact ⟨j + 1, A6, c6, by omega, by go_num, K6.out.off O6.out (set_sl HSL.out rfl) _, by rw [HL2.out]; exact P6.out, N6.out.off O6.out (set_sl HSL.out rfl) _, R6.out.off O6.out (set_sl HSL.out rfl) _, by rw [HL2.out, HY2.out]; exact M6.out.putLow (by omega)⟩
            · have HN2 := Lib.hid (HN1.out (by omega))
              clear HY1 HN1
              go_wp2
              go_roundw
              case rel => exact ⟨j + 1, Ag, cg, by omega, by go_num, KEEP.out, by rw [HN2.out]; exact OP.out, NX.out, RR.out, by rw [HN2.out]; exact MG.out⟩
              case measure => simp [intOf]; omega
          · obtain rfl : j = row.length := by omega
            have OK := Lib.hid (hd_ok HMAY.out HL.out (caps := caps) (f := f) (k : Int))
            have op := OP.out
            have mg := MG.out
            rw [List.take_length, ← HDK.out] at op mg
            have HN := Lib.hid (Nexts.next (c := cg) NX.out hsz (by omega) (mg.rowAt OK.out))
            have OP := Lib.hid op
            clear op mg MG
            go_wp2
            go_roundw
            case rel =>
              refine ⟨k + 1, _, by omega, by go_num, KEEP.out.wide, OP.out, by simpa using hvl, set_sl HSL.out rfl, HN.out, fun v h1 h2 => ?_⟩
              rw [List.getElem?_set_ne (by omega)]
              exact NILS.out v (by omega) h2
            case measure => simp [intOf]; omega
    · obtain rfl : vn = k := by omega
      go_wp2
      go_ret
      exact ⟨_, vs, rfl, by omega, OP.out, hvl, NX.out, KEEP.out.g⟩

end Go.Proofs.Ytppcncblmakekaa
