/-
  level.heads, walked. level.Levels. The reference's Levels. Blocks that are known whole, from world to world. What every program answers that is one: layer 10's awake. What can be reached: as levels tell it; the reference's Reach, walked. What can be reached: the program's Reach and Shut, walked. What every program answers that is one: layer 13's awake. stream.May and the reference's FlowMay. block.begin: what its loop keeps. (*block.pusher).flow, walked. block.begin, walked. block.Block, walked. Each arc stands once in Order; links turned. No program here. The greatest flow, as numbers: what one must keep, and what follows of it: as great as is wanted or as the least cut; more wanted is never less; all links turned; on one link less. No program here. push.Push, walked: block by block, until it is as much as is wanted or nothing more goes.
-/
import Derived.Test.YtppcncblmakekaaLevelB
import Derived.Test.YtppcncblmakekaaOwnB
import Derived.Test.YtppcncblmakekaaJA
import Derived.Test.YtppcncblmakekaaMathBlock
import Derived.Test.YtppcncblmakekaaFlowB
import Derived.Test.YtppcncblmakekaaPushA
import Derived.Test.YtppcncblmakekaaPushB
import Derived.OwnWalk
import Derived.Test.YtppcncblmakekaaMathArcs

set_option maxRecDepth 20000
namespace Go.Proofs.Ytppcncblmakekaa
open Go.RowKit

set_option maxRecDepth 20000 in
set_option maxHeartbeats 4000000 in
theorem heads_any (vn : Nat) (A : Option Addr) (n c : Nat) (ls : List Lk) (X : Option Addr) (m d : Nat) (caps : List Int) (Y : Option Addr) (r e0 : Nat) (f : List Int) (w : World) {B B' B'' : Nat} (h : Lks w B A n ls) (hB : B ≤ w.heap.size) (hx : Row w B' X m caps) (hB' : B' ≤ w.heap.size) (hy : Row w B'' Y r f) (hB'' : B'' ≤ w.heap.size)
    (hf : fitsF (vn : Nat) ls caps f = true) : Calls Try.prog 35 #[.agg #[.int .i64 (vn : Nat), .slice A n c], .slice X m d, .slice Y r e0] w (HeadsPost w vn (fun v => hdOf ls caps f n (v : Int))) := by
  have HF := Lib.hid hf
  have HMAY := Lib.hid (fits_parts hf).1
  have HL := Lib.hid h.len
  have h16 := may_small HMAY.out
  rw [HL.out] at h16
  have HR := Lib.hid h
  have HX := Lib.hid hx
  have HY := Lib.hid hy
  obtain ⟨okS', okO', okH'⟩ := may_ok HMAY.out HL.out
  have okS := Lib.hid okS'
  have okO := Lib.hid okO'
  have okH := Lib.hid okH'
  have hls := starts_len ls n (vn + 1)
  have hlh := heads_len ls (2 * n)
  have hlo := ord_len ls n vn
  have hmul : 2 * n * vn ≤ 2 * 16 * 8 := Nat.mul_le_mul (by omega) (by omega)
  obtain ⟨i0, hi, hz0, hz1, hz2⟩ := info_parts info25
  have HI := Lib.hid hi
  have HZ0 := Lib.hid hz0
  have HZ1 := Lib.hid hz1
  have HZ2 := Lib.hid hz2
  clear hi hz0 hz1 hz2 hf h hx hy okS' okO' okH'
  go_enter Try.func35, Try.ntmps35
  go_upto_region 1 with fail
  have OB := Lib.hid (Own.new w 24 [.int .i64 (vn : Nat), .slice A n c])
  have G := Lib.hid (grow0 w (.cells #[.int .i64 (vn : Nat), .slice A n c] 24))
  have hs0 : (w.alloc (.cells #[.int .i64 (vn : Nat), .slice A n c] 24)).heap.size = w.heap.size + 1 := by simp
  generalize w.alloc (.cells #[.int .i64 (vn : Nat), .slice A n c] 24) = w0 at *
  obtain ⟨p0, p1⟩ := OB.out.two
  go_wp2_with (first | (refine wpList_make_full _ rfl _ _ 58 rfl w0.heap.size 25 i0 (.slice none 0 0) 1 Try.underlying58 HI.out HZ0.out HZ1.out .i64 .i64 (vn : Int) (vn : Int) vn rfl rfl rfl rfl (by rw [HZ2.out]; omega) (by unfold maxLen; omega) (Nat.le_refl _) ?_))
  intro w1 hmk k1
  rw [toList_madeCells_one] at hmk
  have OP : Hid (Own w1 (w.heap.size + 1) 25 (List.replicate vn (.slice none 0 0))) := Own.of_made hmk
  have G := Lib.hid (grown_trans G.out k1)
  have OB := Lib.hid (OB.out.kept k1)
  clear hmk k1 HI HZ0 HZ1 HZ2 p0 p1
  have hs1 := OP.out.lt
  obtain ⟨p0, p1⟩ := OB.out.two
  clear hs0
  go_wp2_with fail
  refine (Build_may vn A n c ls _ (HR.out.grown hB G.out) (by have := G.out.size; omega) HMAY.out).mono ?_
  rintro e w2 ⟨x, y, z, rfl, ta, k⟩
  obtain ⟨Ax, cx, rfl, _, _, rS⟩ := ta.S.rowN okS.out
  obtain ⟨Ay, cy, rfl, hcy, hny, rO⟩ := ta.O.rowN okO.out
  obtain ⟨Az, cz, rfl, _, _, rH⟩ := ta.H.rowN okH.out
  have ra : Rows3 w2 w2.heap.size Ax Ay Az (startsA ls n (vn + 1)) (ordA ls n vn) (headsA ls (2 * n)) := ⟨rS, rO, rH⟩
  obtain ⟨bs, offs, rfl, _, _⟩ := rS.at_ (by omega)
  have HNY := Lib.hid hny
  rw [hls, hlh]
  clear rS rO rH hny ta
  generalize hno : (ordA ls n vn).length = no at *
  have HNO := Lib.hid hno
  clear hno
  have k2 := grow0 w2 (.cells #[.slice (some ⟨bs, offs, none⟩) (vn + 1) cx, .slice Ay no cy, .slice Az (2 * n) cz] 72)
  have HS : Hid (HdRel w (w.heap.size + 1) w2.heap.size vn A n c ls (some ⟨bs, offs, none⟩) Ay Az (vn + 1) no (2 * n) cx cy cz (fun v => hdOf ls caps f n (v : Int)) (.int .i64 0) (w2.alloc (.cells #[.slice (some ⟨bs, offs, none⟩) (vn + 1) cx, .slice Ay no cy, .slice Az (2 * n) cz] 72))) := by
    refine ⟨0, List.replicate vn (.slice none 0 0), Nat.zero_le _, rfl, ⟨grown_trans (grown_trans G.out k) k2, (OB.out.kept k).kept k2, Own.new w2 72 [.slice (some ⟨bs, offs, none⟩) (vn + 1) cx, .slice Ay no cy, .slice Az (2 * n) cz], (ra.grown (Nat.le_refl _) k2).wide (by simp), ⟨by omega, ?_, by simp⟩, Nat.le_refl _⟩, (OP.out.kept k).kept k2, by simp, ?_, fun v hv => by omega, fun v _ hv => ?_⟩
    · have := k.size; omega
    · intro u hu
      rw [List.eq_of_mem_replicate hu]
      rfl
    · rw [List.getElem?_replicate, if_pos hv]
  have OB := Lib.hid ((OB.out.kept k).kept k2)
  clear k k2 ra OP G p0 p1 hs1
  obtain ⟨p0, p1⟩ := OB.out.two
  go_wp2
  go_loopw [25] (fun i wr => HdRel w (w.heap.size + 1) w2.heap.size vn A n c ls (some ⟨bs, offs, none⟩) Ay Az (vn + 1) no (2 * n) cx cy cz (fun v => hdOf ls caps f n (v : Int)) i wr) (fun i _ => vn - (intOf i).toNat)
  case atStart => exact HS.out
  case round =>
    clear HS OB p0 p1
    obtain ⟨k, vs, hk, rfl, keep, op, hvl, hsl, nx, nils⟩ := hrel
    have KEEP := Lib.hid keep
    have OP := Lib.hid op
    have HSL := Lib.hid hsl
    have NX := Lib.hid nx
    have NILS := Lib.hid nils
    have hpq := keep.pq
    clear keep op hsl nx nils
    by_cases hlt : k < vn
    · have hs0 := KEEP.out.ra.S.cellAt (i := k) (by omega)
      have hs1 := KEEP.out.ra.S.cellAt (i := k + 1) (by omega)
      rw [starts_at ls n (vn + 1) k (by omega)] at hs0
      have ho1 : (ordA ls n (k + 1)).length = (ordA ls n k).length + (rowA ls (k : Nat) (2 * n)).length := by rw [ordA, List.length_append]
      rw [starts_at ls n (vn + 1) (k + 1) (by omega), ho1] at hs1
      have hmo := ord_mono ls n (k + 1) vn (by omega)
      rw [ho1, HNO.out] at hmo
      clear ho1
      have HAT := Lib.hid (fun j => ord_at ls n vn k j hlt)
      have hrl := row_len ls (k : Nat) (2 * n)
      have hrm := Lib.hid (row_mem ls (k : Nat) (2 * n))
      have HDK : Hid (hdOf ls caps f n (k : Int) = hdR ls caps f (rowA ls (k : Int) (2 * n))) := rfl
      obtain ⟨a0, a1, a2⟩ := KEEP.out.oa.three
      have ro := KEEP.out.ra.O
      rw [HNO.out] at ro
      have RO := Lib.hid ro
      clear ro
      generalize (ordA ls n k).length = s0 at *
      generalize rowA ls (k : Nat) (2 * n) = row at *
      have CUT : Hid (∀ A' : Option Addr, (¬ cy = s0 → A' = Ay.map (·.add s0)) → Row wr wr.heap.size A' row.length row) := fun A' h1 => row_cut RO.out hmo hcy rfl HAT.out h1
      clear HAT RO
      have hmo1 : s0 + row.length ≤ cy := by omega
      go_upto_region 6 with fail
      go_cut [25, 41, 42, 43] from 25 to 72 (fun a b c d wx => HdMid wr k row a b c d wx)
      case first =>
        have hsum : ((s0 + row.length : Nat) : Int) = (s0 : Int) + (row.length : Int) := by omega
        by_cases hcs : cy = s0
        · subst hcs
          obtain rfl : row = [] := List.eq_nil_of_length_eq_zero (by omega)
          have CUT1 := Lib.hid (CUT.out Ay (fun h => absurd rfl h))
          clear CUT
          go_quiet (fail)
          go_wp2
          go_meet
          case rel => exact ⟨_, _, rfl, rfl, rfl, rfl, CUT1.out, grown_drewN (World.grownBy.refl _ _) _⟩
        · have hsc : ¬ s0 = cy := fun h => hcs h.symm
          cases Ay with
          | none =>
            have := HNY.out rfl
            omega
          | some ay =>
            go_quiet (fail)
            go_wp2
            go_meet
            case rel => exact ⟨some (ay.add s0), cy - s0, rfl, by rw [Nat.add_sub_cancel_left], rfl, rfl, CUT.out _ (fun _ => rfl), grown_drewN (World.grownBy.refl _ _) _⟩
      case rest =>
        obtain ⟨Ar, cr, rfl, rfl, rfl, rfl, rr, gx⟩ := hcut
        obtain ⟨S, hS⟩ : ∃ S, S = wr.heap.size := ⟨_, rfl⟩
        rw [← hS] at KEEP NX rr hpq
        have HSW : Hid (S ≤ wr.heap.size) := by rw [hS]; exact Nat.le_refl _
        clear hS
        have HS : Hid (HdIn w (w.heap.size + 1) w2.heap.size vn A n c ls (some ⟨bs, offs, none⟩) Ay Az (vn + 1) no (2 * n) cx cy cz (fun v => hdOf ls caps f n (v : Int)) caps f row Ar S k vs (.int .i64 0) wc) :=
          ⟨0, none, 0, Nat.zero_le _, rfl, KEEP.out.grown gx (by simp), by rw [show (hdR ls caps f (row.take 0)).length = 0 from rfl, set_self (NILS.out k (Nat.le_refl _) hlt)]; exact OP.out.kept gx, NX.out.grown' HSW.out gx (by simp), rr.grown HSW.out gx, Mine.nil _ _⟩
        clear KEEP OP NX rr gx CUT a0 a1 a2 hs0 hs1 hmo hmo1 HNY
        go_wp2
        go_loopw [43] (fun i wi => HdIn w (w.heap.size + 1) w2.heap.size vn A n c ls (some ⟨bs, offs, none⟩) Ay Az (vn + 1) no (2 * n) cx cy cz (fun v => hdOf ls caps f n (v : Int)) caps f row Ar S k vs i wi) (fun i _ => row.length - (intOf i).toNat)
        case atStart => exact HS.out
        case round =>
          clear HS
          obtain ⟨j, Ag, cg, hj, rfl, keep, op, nx, rr, mg⟩ := hrel
          have KEEP := Lib.hid keep
          have OP := Lib.hid op
          have NX := Lib.hid nx
          have MG := Lib.hid mg
          have RR := Lib.hid rr
          have hsz := keep.sz
          have hpq := keep.pq
          obtain ⟨p0, p1⟩ := keep.ob.two
          clear keep op nx mg rr
          by_cases hjl : j < row.length
          · obtain ⟨br, offr, rfl, _, hcr⟩ := RR.out.at_ (by omega)
            have d0 := hcr j hjl
            have hab : 0 ≤ row[j]?.getD 0 ∧ row[j]?.getD 0 < ((2 * n : Nat) : Int) := by
              rw [List.getElem?_eq_getElem hjl]
              exact hrm.out _ (List.getElem_mem hjl)
            have HY1 := Lib.hid (hd_yes (ls := ls) (caps := caps) (f := f) hjl)
            have HN1 := Lib.hid (hd_no (ls := ls) (caps := caps) (f := f) hjl)
            have hhl := hd_len ls caps f (row.take j)
            rw [List.length_take] at hhl
            obtain ⟨an, han⟩ : ∃ an : Nat, row[j]?.getD 0 = (an : Nat) := ⟨(row[j]?.getD 0).toNat, by omega⟩
            rw [han] at d0 hab HY1 HN1
            rw [Int.toNat_natCast] at HY1
            have hhb := head_bd HMAY.out (a := an) (by have := HL.out; omega)
            obtain ⟨bh, offh, hAz, _, hch⟩ := KEEP.out.ra.H.at_ (by omega)
            subst hAz
            have d1 := hch an (by omega)
            rw [heads_at ls _ an (by omega)] at d1
            have D1 := Lib.hid d1
            clear hcr hch d1 han
            generalize hdR ls caps f (row.take j) = hs at *
            generalize headOf ls an = hx at *
            go_wp2_with fail
            refine (SRoom_yes vn (an : Nat) A n c ls X m d caps Y r e0 f _ (HR.out.grown hB KEEP.out.g) (by have := KEEP.out.g.size; omega) (HX.out.grown hB' KEEP.out.g) (by have := KEEP.out.g.size; omega) (HY.out.grown hB'' KEEP.out.g) (by have := KEEP.out.g.size; omega) HF.out (by omega)).mono ?_
            rintro e w5 ⟨rfl, g5⟩
            have KEEP := Lib.hid (KEEP.out.grown g5 (by simp))
            have OP := Lib.hid (OP.out.kept g5)
            have NX := Lib.hid (NX.out.grown' hsz g5 (by simp))
            have MG := Lib.hid (MG.out.kept g5)
            have RR := Lib.hid (RR.out.grown hsz g5)
            have d1 := kept g5 D1.out
            have hs5 := KEEP.out.sz
            clear g5 D1 d0 p0 p1 hsz
            generalize roomI caps f (an : Int) = rm at *
            by_cases hpos : 0 < rm
            · have HY2 := Lib.hid (HY1.out (by omega))
              clear HY1 HN1
              have hab0 : (0 : Int) ≤ (an : Int) := by omega
              have hab1 : (an : Int) < 2 * (n : Int) := by omega
              have hkv0 : (k : Int) < (vn : Int) := by omega
              have a2 := KEEP.out.oa.three.2.2
              have c0 : w5.cell? ⟨w.heap.size + 1, k, none⟩ = some (.slice Ag hs.length cg) := by rw [OP.out.cell k, List.getElem?_set_self (by omega)]
              have c0' : (w5.alloc (.cells #[.int .i64 hx] 3)).cell? ⟨w.heap.size + 1, k, none⟩ = some (.slice Ag hs.length cg) := kept (grow0 _ _) c0
              have HM1 : Hid (Mine (w5.alloc (.cells #[.int .i64 hx] 3)).drew S (.slice Ag hs.length cg) hs.length hs) := MG.out.kept (grown_drew (grow0 _ _))
              have HROW : Hid (Row (w5.alloc (.cells #[.int .i64 hx] 3)).drew (w5.heap.size + 1) (some ⟨w5.heap.size, 0, none⟩) 1 [hx]) := (Row.newAt (w := w5) (g := w5.heap.size) (n := 1) (vs := #[.int .i64 hx]) [hx] rfl rfl rfl (by simp) (by simp; omega)).drewN 1
              have KE : Hid (HdKeep w (w.heap.size + 1) w2.heap.size vn A n c ls (some ⟨bs, offs, none⟩) Ay (some ⟨bh, offh, none⟩) (vn + 1) no (2 * n) cx cy cz S (w5.alloc (.cells #[.int .i64 hx] 3)).drew) := KEEP.out.grown (grown_drew (grow0 _ _)) (by simp)
              have OE : Hid (Own (w5.alloc (.cells #[.int .i64 hx] 3)).drew (w.heap.size + 1) 25 (vs.set k (.slice Ag hs.length cg))) := OP.out.kept (grown_drew (grow0 _ _))
              have NE : Hid (Nexts (w5.alloc (.cells #[.int .i64 hx] 3)).drew S vs (fun v => hdOf ls caps f n (v : Int)) k) := NX.out.grown' hs5 (grown_drew (grow0 _ _)) (by simp)
              have RE : Hid (Row (w5.alloc (.cells #[.int .i64 hx] 3)).drew S (some ⟨br, offr, none⟩) row.length row) := RR.out.grown hs5 (grown_drew (grow0 _ _))
              clear KEEP OP NX MG RR
              go_upto_region 11 with fail
              go_region_law
                ((refine step_app4 rfl _ _ (by rfl) S _ hs.length hs (by rfl) HM1.out (some ⟨w5.heap.size, 0, none⟩) 1 1 [hx] (by rfl) HROW.out (by simp) (by omega) (by simp; omega) ?_; intro v6 w6 hm6 hg6 _; have hge := HM1.out.own_ge; obtain ⟨A6, c6, rfl, _⟩ := hm6.sl; have K6 := Lib.hid (KE.out.grown hg6 hge); have O6 := Lib.hid (OE.out.kept' hg6 (fun e => by have := hge _ e; omega)); have N6 := Lib.hid (NE.out.grown' (by simp; omega) hg6 hge); have R6 := Lib.hid (RE.out.grown' (by simp; omega) hg6 hge); have M6 := Lib.hid hm6; have k0 := O6.out.cell k; rw [List.getElem?_set_self (by omega)] at k0; have t0 := O6.out.frozen k; clear hm6 hg6 hge))
              all_goals have HL2 : Hid ((hdR ls caps f (row.take (j + 1))).length = hs.length + 1) := by rw [Hid, HY2.out, List.length_append]; rfl
              all_goals have P6 : Hid (Own (w6.setCell ⟨w.heap.size + 1, k, none⟩ (.slice A6 (hs.length + 1) c6)) (w.heap.size + 1) 25 (vs.set k (.slice A6 (hs.length + 1) c6))) := by have := O6.out.put (i := k) (.slice A6 (hs.length + 1) c6); rw [List.set_set] at this; exact this
              all_goals go_wp2
              all_goals go_roundw
              all_goals first
                | (simp [intOf]; omega)
                | exact ⟨j + 1, A6, c6, by omega, by go_num, K6.out.off O6.out (set_sl HSL.out rfl) _, by rw [HL2.out]; exact P6.out, N6.out.off O6.out (set_sl HSL.out rfl) _, R6.out.off O6.out (set_sl HSL.out rfl) _, by rw [HL2.out, HY2.out]; exact M6.out.putLow (by omega)⟩
            · have HN2 := Lib.hid (HN1.out (by omega))
              clear HY1 HN1
              go_wp2
              go_roundw
              case rel => exact ⟨j + 1, Ag, cg, by omega, by go_num, KEEP.out, by rw [HN2.out]; exact OP.out, NX.out, RR.out, by rw [HN2.out]; exact MG.out⟩
              case measure => simp [intOf]; omega
          · obtain rfl : j = row.length := by omega
            have OK := Lib.hid (hd_ok HMAY.out HL.out (caps := caps) (f := f) (k : Int))
            have op := OP.out
            have mg := MG.out
            rw [List.take_length, ← HDK.out] at op mg
            have HN := Lib.hid (Nexts.next (c := cg) NX.out hsz (by omega) (mg.rowAt OK.out))
            have OP := Lib.hid op
            clear op mg MG
            go_wp2
            go_roundw
            case rel =>
              refine ⟨k + 1, _, by omega, by go_num, KEEP.out.wide, OP.out, by simpa using hvl, set_sl HSL.out rfl, HN.out, fun v h1 h2 => ?_⟩
              rw [List.getElem?_set_ne (by omega)]
              exact NILS.out v (by omega) h2
            case measure => simp [intOf]; omega
    · obtain rfl : vn = k := by omega
      go_wp2
      go_ret
      exact ⟨_, vs, rfl, by omega, OP.out, hvl, NX.out, KEEP.out.g⟩

end Go.Proofs.Ytppcncblmakekaa

set_option maxRecDepth 20000
namespace Go.Proofs.Ytppcncblmakekaa
open Go.RowKit

def LvPost (w : World) (V : Int) (ls : List Lk) (caps f : List Int) (s : Int) (e : Ending) (w' : World) : Prop := ∃ M z, LvIs V ls caps f s M z ∧ SelPost w M z e w'

def LevRel (w : World) (g vn : Nat) (hd : Int → List Int) (s : Int) (o i : Value) (wr : World) : Prop :=
  ∃ (a : Nat) (M Q : List Int) (Aq : Option Addr) (cq : Nat), a ≤ Q.length ∧ i = .int .i64 (a : Nat) ∧ o = .slice Aq Q.length cq ∧ w.grownBy wr none ∧ Own wr g 3 (ints M) ∧ Mine wr (g + 1) (.slice Aq Q.length cq) Q.length Q ∧ Bfs vn hd s M Q a 0

def LvIn (w : World) (g vn : Nat) (hd : Int → List Int) (s : Int) (a : Nat) (v : Int) (o i : Value) (wr : World) : Prop :=
  ∃ (j : Nat) (M Q : List Int) (Aq : Option Addr) (cq : Nat), j ≤ (hd v).length ∧ i = .int .i64 (j : Nat) ∧ o = .slice Aq Q.length cq ∧ w.grownBy wr none ∧ Own wr g 3 (ints M) ∧ Mine wr (g + 1) (.slice Aq Q.length cq) Q.length Q ∧ Bfs vn hd s M Q a j ∧ a < Q.length ∧ qAt Q a = v

theorem bfs_ok {V : Nat} {hd : Int → List Int} {s : Int} {M Q : List Int} {a j : Nat} (b : Bfs V hd s M Q a j) (h8 : V ≤ 8) : okI Q := by
  intro i
  by_cases hi : i < Q.length
  · have := b.isin i hi
    have h1 := this.1
    have h2 := this.2
    unfold qAt at h1 h2
    omega
  · rw [List.getElem?_eq_none (by omega)]
    simp

theorem lv_cell {w : World} {g : Nat} {T : TypeId} {M : List Int} {v : Nat} (h : Own w g T (ints M)) (hv : v < M.length) : w.cell? ⟨g, v, none⟩ = some (.int .i64 (lvAt M (v : Int))) := by
  rw [h.cell v, ints_get M v hv]
  simp [lvAt]

theorem lvB_may {V : Int} {ls : List Lk} {caps f : List Int} {s : Int} (h : mayG V ls = false) : lvB V ls caps f s = false := by simp [lvB, fitsF, h]
theorem lvB_caps {V : Int} {ls : List Lk} {caps f : List Int} {s : Int} (h : capsB ls caps = false) : lvB V ls caps f s = false := by simp [lvB, fitsF, h]
theorem lvB_rates {V : Int} {ls : List Lk} {caps f : List Int} {s : Int} (h : ratesB caps f = false) : lvB V ls caps f s = false := by simp [lvB, fitsF, h]
theorem lvB_src {V : Int} {ls : List Lk} {caps f : List Int} {s : Int} (h : isV V s = false) : lvB V ls caps f s = false := by simp [lvB, h]
theorem lvB_all {V : Int} {ls : List Lk} {caps f : List Int} {s : Int} (h1 : mayG V ls = true) (h2 : capsB ls caps = true) (h3 : ratesB caps f = true) (h4 : isV V s = true) : lvB V ls caps f s = true := by simp [lvB, fitsF, h1, h2, h3, h4]

theorem lv_bad {w w' : World} {V : Int} {ls : List Lk} {caps f : List Int} {s : Int} (h : lvB V ls caps f s = false) (g : w.grownBy w' none) : LvPost w V ls caps f s (.returned (.tuple #[.slice none 0 0, .int .i64 1000])) w' :=
  ⟨[], 1000, lev_no h, _, rfl, Mine.nil _ _, g⟩

set_option maxRecDepth 20000 in
set_option maxHeartbeats 4000000 in
theorem Levels_any (V s : Int) (A : Option Addr) (n c : Nat) (ls : List Lk) (X : Option Addr) (m d : Nat) (caps : List Int) (Y : Option Addr) (r e0 : Nat) (f : List Int) (w : World) {B B' B'' : Nat} (h : Lks w B A n ls) (hB : B ≤ w.heap.size) (hx : Row w B' X m caps) (hB' : B' ≤ w.heap.size) (hy : Row w B'' Y r f) (hB'' : B'' ≤ w.heap.size) :
    Calls Try.prog 22 #[.agg #[.int .i64 V, .slice A n c], .slice X m d, .slice Y r e0, .int .i64 s] w (LvPost w V ls caps f s) := by
  have HL := Lib.hid h.len
  have HR := Lib.hid h
  have HX := Lib.hid hx
  have HY := Lib.hid hy
  have HR1 := Lib.hid (h.grown hB (grow0 w (.cells #[.int .i64 V, .slice A n c] 24)))
  clear h hx hy
  go_enter Try.func22, Try.ntmps22
  go_wp2_with fail
  refine (GMay_any V A n c ls _ HR1.out (by simp; omega)).mono ?_
  rintro e w1 ⟨rfl, g1⟩
  obtain ⟨g, o2⟩ := box1 [.int .i64 V, .slice A n c] g1
  obtain ⟨c0, c1⟩ := o2.two
  have G := Lib.hid g
  have O2 := Lib.hid o2
  clear g g1 o2 HR1
  cases hmay : mayG V ls
  · have E := Lib.hid (lvB_may (caps := caps) (f := f) (s := s) hmay)
    clear hmay
    go_wp2
    go_ret2
    exact lv_bad E.out G.out
  have HMAY := Lib.hid hmay
  have H8 := Lib.hid (may_8 hmay HL.out).1
  clear hmay
  go_wp2_with fail
  refine (areCaps_any V A n c ls X m d caps _ (HR.out.grown hB G.out) (HX.out.grown hB' G.out) (by have := G.out.size; omega) H8.out).mono ?_
  rintro e w2 ⟨rfl, g2⟩
  have G := Lib.hid (grown_trans G.out g2)
  have O2 := Lib.hid (O2.out.kept g2)
  clear g2 c0 c1
  cases hcap : capsB ls caps
  · have E := Lib.hid (lvB_caps (V := V) (f := f) (s := s) hcap)
    clear hcap
    go_wp2
    go_ret2
    exact lv_bad E.out G.out
  have HCAP := Lib.hid hcap
  clear hcap
  go_wp2_with fail
  refine (Rates_any X m d caps Y r e0 f _ (HX.out.grown hB' G.out) (HY.out.grown hB'' G.out)).mono ?_
  rintro e w3 ⟨rfl, g3⟩
  have G := Lib.hid (grown_trans G.out g3)
  have O2 := Lib.hid (O2.out.kept g3)
  clear g3
  obtain ⟨c0, c1⟩ := O2.out.two
  cases hrt : ratesB caps f
  · have E := Lib.hid (lvB_rates (V := V) (ls := ls) (s := s) hrt)
    clear hrt
    go_wp2
    go_ret2
    exact lv_bad E.out G.out
  have HRT := Lib.hid hrt
  clear hrt
  go_wp2_with fail
  refine (Vert1_any V s A n c _ rfl).mono ?_
  rintro e w4 ⟨rfl, g4⟩
  have G := Lib.hid (grown_trans G.out g4)
  have O2 := Lib.hid (O2.out.kept g4)
  clear g4 c0 c1
  obtain ⟨c0, c1⟩ := O2.out.two
  cases hs : isV V s
  · have E := Lib.hid (lvB_src (ls := ls) (caps := caps) (f := f) hs)
    clear hs
    go_wp2
    go_ret2
    exact lv_bad E.out G.out
  have HB := Lib.hid (lvB_all HMAY.out HCAP.out HRT.out hs)
  have h16 := may_small HMAY.out
  rw [HL.out] at h16
  obtain ⟨vn, rfl⟩ : ∃ vn : Nat, V = (vn : Nat) := ⟨V.toNat, by omega⟩
  have hsv : 0 ≤ s ∧ s < vn := by simpa [isV] using hs
  obtain ⟨sn, rfl⟩ : ∃ sn : Nat, s = (sn : Nat) := ⟨s.toNat, by omega⟩
  clear hs
  have HFIT := Lib.hid (lvB_parts HB.out).1
  go_wp2_with fail
  refine (heads_any vn A n c ls X m d caps Y r e0 f _ (HR.out.grown hB G.out) (by have := G.out.size; omega) (HX.out.grown hB' G.out) (by have := G.out.size; omega) (HY.out.grown hB'' G.out) (by have := G.out.size; omega) HFIT.out).mono ?_
  rintro e w5 ⟨gN, vsN, rfl, hgN, oN, hvN, nx, g5⟩
  have G := Lib.hid (grown_trans G.out g5)
  have O2 := Lib.hid (O2.out.kept g5)
  have ON := Lib.hid oN
  have NX := Lib.hid nx
  have l5 := oN.lt
  clear g5 c0 c1 oN nx
  obtain ⟨c0, c1⟩ := O2.out.two
  have HROW := Lib.hid (Row.newAt (w := w5) (g := w5.heap.size) (n := 1) (vs := #[.int .i64 (-1)]) [-1] rfl rfl rfl (by simp) (by simp))
  have c0' := kept (grow0 w5 (.cells #[.int .i64 (-1)] 3)) c0
  have c1' := kept (grow0 w5 (.cells #[.int .i64 (-1)] 3)) c1
  go_wp2_with fail
  refine (Repeat_any _ vn (-1) _ HROW.out (by omega) (by omega)).mono ?_
  rintro e w6 ⟨g, rfl, hg, o6, g6⟩
  have hg5 : w5.heap.size < g := by have := hg; simp at this; omega
  have G6 := Lib.hid (grown_trans (grow0 w5 _) g6)
  have e0 : w6.cell? ⟨g, sn, none⟩ = some (.int .i64 (-1)) := by
    rw [o6.cell sn, ints_get _ _ (by simp; omega), List.getElem?_replicate, if_pos (by omega)]
    rfl
  have f0 := o6.frozen sn
  have O6 := Lib.hid o6
  have l6 := o6.lt
  have GS : Hid (w5.grownBy ((w6.setCell ⟨g, sn, none⟩ (.int .i64 0)).alloc (.cells #[.int .i64 (sn : Nat)] 3)) none) := grown_alloc (grown_new G6.out (by omega) _) _
  have HS : Hid (LevRel w5 g vn (fun v => hdOf ls caps f n v) (sn : Nat) (.slice (some ⟨w6.heap.size, 0, none⟩) 1 1) (.int .i64 0) ((w6.setCell ⟨g, sn, none⟩ (.int .i64 0)).alloc (.cells #[.int .i64 (sn : Nat)] 3))) := by
    refine ⟨0, (List.replicate vn (-1)).set sn 0, [(sn : Int)], some ⟨w6.heap.size, 0, none⟩, 1, by simp, rfl, rfl, GS.out, ?_, ?_, ?_⟩
    · have := (O6.out.put (i := sn) (.int .i64 0)).alloc (.cells #[.int .i64 (sn : Nat)] 3)
      rw [ints_set] at this
      exact this
    · exact Mine.lit (w := w6.setCell ⟨g, sn, none⟩ (.int .i64 0)) (base := g + 1) (g := w6.heap.size) [(sn : Int)] 1 (by simp [World.setCell]) rfl rfl (by simp [World.setCell]; omega) (by simp)
    · have := bfs_first (V := vn) (hd := fun v => hdOf ls caps f n v) (s := (sn : Int)) ⟨by omega, by omega⟩
      rw [Int.toNat_natCast] at this
      exact this
  clear o6 g6 G6 O6 GS HROW c0' c1' hg
  go_wp2
  go_loopw [12, 13] (fun o i wr => LevRel w5 g vn (fun v => hdOf ls caps f n v) (sn : Nat) o i wr) (fun _ i _ => vn - (intOf i).toNat)
  case atStart => exact HS.out
  case round =>
    clear HS c0 c1 e0 f0
    obtain ⟨a, M, Q, Aq, cq, ha, rfl, rfl, hgr, om, mq, bfs⟩ := hrel
    have hmany := bfs.many
    have GR := Lib.hid hgr
    have OM := Lib.hid om
    have MQ := Lib.hid mq
    have BF := Lib.hid bfs
    have hsz := hgr.size
    clear hgr om mq bfs
    by_cases hlt : a < Q.length
    · obtain ⟨bq, offq, rfl, _, hcq⟩ := (MQ.out.rowAt (bfs_ok BF.out (by omega))).at_ (by omega)
      have d0 := hcq a hlt
      have hiv := BF.out.isin a hlt
      have HQ : Hid (Q[a]?.getD 0 = qAt Q a) := rfl
      rw [HQ.out] at d0
      obtain ⟨v, hv⟩ : ∃ v : Nat, qAt Q a = (v : Nat) := ⟨(qAt Q a).toNat, by have := hiv.1; omega⟩
      rw [hv] at d0
      have hvn : v < vn := by have := hiv.2; omega
      obtain ⟨Ah, ch, hvs, hrow⟩ := NX.out v hvn
      have e1 : wr.cell? ⟨gN, v, none⟩ = some (.slice Ah (hdOf ls caps f n (v : Int)).length ch) := kept GR.out (by rw [ON.out.cell v]; exact hvs)
      have HH := Lib.hid hrow
      have HIN := Lib.hid (hd_in HMAY.out HL.out (caps := caps) (f := f) (v : Int))
      have HS : Hid (LvIn w5 g vn (fun v => hdOf ls caps f n v) (sn : Nat) a (v : Nat) (.slice (some ⟨bq, offq, none⟩) Q.length cq) (.int .i64 0) wr) :=
        ⟨0, M, Q, _, cq, Nat.zero_le _, rfl, rfl, GR.out, OM.out, MQ.out, BF.out, hlt, hv⟩
      have hhl := hd_len ls caps f (rowA ls (v : Int) (2 * n))
      have hhl2 := row_len ls (v : Int) (2 * n)
      rw [show hdR ls caps f (rowA ls (v : Int) (2 * n)) = hdOf ls caps f n (v : Int) from rfl] at hhl
      have HDV : Hid (∃ l, l = hdOf ls caps f n (v : Int)) := ⟨_, rfl⟩
      clear hcq hiv hvs hrow OM MQ BF GR
      go_wp2
      go_loopw [12, 67] (fun o i wi => LvIn w5 g vn (fun v => hdOf ls caps f n v) (sn : Nat) a (v : Nat) o i wi) (fun _ i _ => (hdOf ls caps f n (v : Int)).length - (intOf i).toNat)
      case atStart => exact HS.out
      case round =>
        clear HS d0 e1
        obtain ⟨j, M, Q, Aq, cq, hj, rfl, rfl, hgr, om, mq, bfs, hal, hqa⟩ := hrel
        have hlm := bfs.len
        have hgot := bfs.got a hal
        rw [hqa] at hgot
        have hmany := bfs.many
        have GR := Lib.hid hgr
        have OM := Lib.hid om
        have MQ := Lib.hid mq
        have BF := Lib.hid bfs
        have hsz := hgr.size
        have lo := om.lt
        clear hgr om mq bfs
        by_cases hjl : j < (hdOf ls caps f n (v : Int)).length
        · obtain ⟨bh, offh, rfl, _, hch⟩ := HH.out.at_ (by omega)
          have d1 := kept GR.out (hch j hjl)
          have hxv : inV vn ((hdOf ls caps f n (v : Int))[j]?.getD 0) := by
            rw [List.getElem?_eq_getElem hjl]
            exact HIN.out _ (List.getElem_mem hjl)
          have BO := Lib.hid (fun hn => bfs_old BF.out (by rw [hqa]; exact hxv) hn)
          have BN := Lib.hid (fun x hx => bfs_new (x := x) BF.out hal (by rw [hqa]; exact hjl) hx)
          rw [hqa] at BO BN
          obtain ⟨x, hx⟩ : ∃ x : Nat, (hdOf ls caps f n (v : Int))[j]?.getD 0 = (x : Nat) := ⟨((hdOf ls caps f n (v : Int))[j]?.getD 0).toNat, by have := hxv.1; omega⟩
          have BN2 := Lib.hid (BN.out _ hx)
          rw [hx] at d1 hxv BO
          rw [Int.toNat_natCast] at BN2
          have hxn : x < vn := by have := hxv.2; omega
          have e1 := lv_cell (v := x) OM.out (by omega)
          have e2 := lv_cell (v := v) OM.out (by omega)
          clear BN hch HH
          by_cases hneg : lvAt M (x : Int) < 0
          · have BN3 := Lib.hid (BN2.out hxv hneg)
            have f1 := OM.out.frozen x
            have OM2 : Hid (Own (wr.setCell ⟨g, x, none⟩ (.int .i64 (lvAt M (v : Int) + 1))) g 3 (ints (M.set x (lvAt M (v : Int) + 1)))) := by
              have := OM.out.put (i := x) (.int .i64 (lvAt M (v : Int) + 1))
              rw [ints_set] at this
              exact this
            clear BN2 BO
            generalize lvAt M (x : Int) = lx at *
            generalize lvAt M (v : Int) = lv at *
            have HM1 : Hid (Mine ((wr.setCell ⟨g, x, none⟩ (.int .i64 (lv + 1))).alloc (.cells #[.int .i64 (x : Nat)] 3)) (g + 1) (.slice Aq Q.length cq) Q.length Q) := (MQ.out.putLow (by omega)).kept (grow0 _ _)
            have HROW := Lib.hid (Row.newAt (w := wr.setCell ⟨g, x, none⟩ (.int .i64 (lv + 1))) (g := wr.heap.size) (n := 1) (vs := #[.int .i64 (x : Nat)]) [(x : Int)] (by simp [World.setCell]) rfl rfl (by simp) (by simp; omega))
            have hss : (wr.setCell ⟨g, x, none⟩ (.int .i64 (lv + 1))).heap.size = wr.heap.size := by simp [World.setCell]
            go_wp2_with (first | (at_builtin; refine wpList_app _ rfl _ _ rfl (g + 1) _ Q.length Q rfl HM1.out (some ⟨wr.heap.size, 0, none⟩) 1 1 [(x : Int)] rfl HROW.out (by simp) (by omega) (by simp [hss]; omega) ?_))
            intro v1 w7 hm1 hg7 _
            have hge := HM1.out.own_ge
            have G7 := Lib.hid (grown_none (grown_alloc (grown_new (g := g) (i := x) GR.out (by omega) (.int .i64 (lv + 1))) (.cells #[.int .i64 (x : Nat)] 3)) hg7 (fun g' hg' => by have := hge g' hg'; omega))
            have O7 := Lib.hid ((OM2.out.alloc (.cells #[.int .i64 (x : Nat)] 3)).kept' hg7 (fun e => by have := hge _ e; omega))
            have hql : (Q ++ [(x : Int)]).length = Q.length + 1 := by simp
            have hm2 : Mine w7 (g + 1) v1 (Q ++ [(x : Int)]).length (Q ++ [(x : Int)]) := by rw [hql]; exact hm1
            obtain ⟨A7, c7, rfl, _⟩ := hm2.sl
            have M7 := Lib.hid hm2
            have hq2 : qAt (Q ++ [(x : Int)]) a = (v : Nat) := by rw [q_app hal]; exact hqa
            clear hm1 hm2 hg7 hge HM1 HROW OM2 OM MQ GR e1 e2 f1 d1
            go_wp2
            go_roundw
            case rel => exact ⟨j + 1, M.set x (lv + 1), Q ++ [(x : Int)], A7, c7, hjl, by go_num, rfl, G7.out, O7.out, M7.out, BN3.out, by omega, hq2⟩
            case measure => simp [intOf]; omega
          · have BO2 := Lib.hid (BO.out (by omega))
            clear BN2 BO
            go_wp2
            go_roundw
            case rel => exact ⟨j + 1, M, Q, Aq, cq, hjl, by go_num, rfl, GR.out, OM.out, MQ.out, BO2.out, hal, hqa⟩
            case measure => simp [intOf]; omega
        · obtain rfl : j = (hdOf ls caps f n (v : Int)).length := Nat.le_antisymm hj (by omega)
          have BX := Lib.hid (bfs_next BF.out hal (by rw [hqa]; exact Nat.le_refl _))
          go_wp2
          go_roundw
          case rel => exact ⟨a + 1, M, Q, Aq, cq, by omega, by go_num, rfl, GR.out, OM.out, MQ.out, BX.out⟩
          case measure => simp [intOf]; omega
    · obtain rfl : a = Q.length := by omega
      have hlm := BF.out.len
      have HI := Lib.hid (bfs_end (Leads ls caps f (2 * n)) (leads_in HMAY.out HL.out) (fun u v _ => hd_mem) BF.out (Nat.le_refl _))
      go_wp2
      go_ret2
      exact ⟨M, 0, lev_yes HB.out HL.out HI.out, _, rfl, by rw [hlm]; exact OM.out.mine (by have := G.out.size; omega) hlm (by omega), grown_trans G.out GR.out⟩

end Go.Proofs.Ytppcncblmakekaa

set_option maxRecDepth 20000
namespace Go.Proofs.Ytppcncblmakekaa
open Go.RowKit

theorem lvIs_no {V : Int} {ls : List Lk} {caps f : List Int} {s : Int} {M : List Int} {z : Int} (h : LvIs V ls caps f s M z) (k : lvB V ls caps f s = false) : M = [] ∧ z = 1000 := by
  rcases h with ⟨h1, _⟩ | ⟨_, h2, h3⟩
  · rw [k] at h1; cases h1
  · exact ⟨h3, h2⟩

theorem lvIs_yes {V : Int} {ls : List Lk} {caps f : List Int} {s : Int} {M : List Int} {z : Int} (h : LvIs V ls caps f s M z) (k : lvB V ls caps f s = true) : z = 0 ∧ IsLv V.toNat (Leads ls caps f (2 * ls.length)) s M := by
  rcases h with ⟨_, h2, h3⟩ | ⟨h1, _⟩
  · exact ⟨h2, h3⟩
  · rw [k] at h1; cases h1

theorem rep_set {n k : Nat} {x : Int} (h : k < n) : (repL n k x).set k (.int .i64 x) = repL n (k + 1) x := by
  unfold repL
  rw [ints_set]
  congr 1
  rw [List.set_append_right _ _ (by simp), List.length_replicate, Nat.sub_self]
  obtain ⟨m, hm⟩ : ∃ m, n - k = m + 1 := ⟨n - k - 1, by omega⟩
  rw [hm, List.replicate_succ, List.set_cons_zero, show n - (k + 1) = m by omega, List.replicate_succ', List.append_assoc]
  rfl

def FillRel (w : World) (p g vn : Nat) (A : Option Addr) (n c : Nat) (i : Value) (wr : World) : Prop :=
  ∃ k : Nat, k ≤ vn ∧ i = .int .i64 (k : Nat) ∧ w.grownBy wr none ∧ Own wr p 24 [.int .i64 (vn : Nat), .slice A n c] ∧ Own wr g 3 (repL vn k (-1))

def RnRel (w : World) (p g vn : Nat) (A : Option Addr) (n c : Nat) (ls : List Lk) (caps f M : List Int) (i : Value) (wr : World) : Prop :=
  ∃ (t : Nat) (R : List Int), t ≤ vn ∧ i = .int .i64 (t : Nat) ∧ w.grownBy wr none ∧ Own wr p 24 [.int .i64 (vn : Nat), .slice A n c] ∧ Own wr g 3 (ints R) ∧ Rnd vn ls caps f M R t 0

def RnIn (w : World) (p g vn : Nat) (A : Option Addr) (n c : Nat) (ls : List Lk) (caps f M : List Int) (t : Nat) (i : Value) (wr : World) : Prop :=
  ∃ (k : Nat) (R : List Int), k ≤ 2 * n ∧ i = .int .i64 (k : Nat) ∧ w.grownBy wr none ∧ Own wr p 24 [.int .i64 (vn : Nat), .slice A n c] ∧ Own wr g 3 (ints R) ∧ Rnd vn ls caps f M R t k

theorem lv_none {w w' : World} {V : Int} {ls : List Lk} {caps f : List Int} {s : Int} {M : List Int} {z : Int} (h : LvIs V ls caps f s M z) (k : lvB V ls caps f s = false) (g : w.grownBy w' none) : SelPost w M z (.returned (.tuple #[.slice none 0 0, .int .i64 1000])) w' := by
  obtain ⟨rfl, rfl⟩ := lvIs_no h k
  exact ⟨_, rfl, Mine.nil _ _, g⟩

set_option maxRecDepth 20000 in
set_option maxHeartbeats 4000000 in
theorem RLevels_any (V s : Int) (A : Option Addr) (n c : Nat) (ls : List Lk) (X : Option Addr) (m d : Nat) (caps : List Int) (Y : Option Addr) (r e0 : Nat) (f : List Int) (w : World) {B B' B'' : Nat} (h : Lks w B A n ls) (hB : B ≤ w.heap.size) (hx : Row w B' X m caps) (hB' : B' ≤ w.heap.size) (hy : Row w B'' Y r f) (hB'' : B'' ≤ w.heap.size)
    (M : List Int) (z : Int) (hM : LvIs V ls caps f s M z) : Calls Try.prog 23 #[.agg #[.int .i64 V, .slice A n c], .slice X m d, .slice Y r e0, .int .i64 s] w (SelPost w M z) := by
  have HL := Lib.hid h.len
  have HLX := Lib.hid hx.len
  have HLY := Lib.hid hy.len
  have HR := Lib.hid h
  have HX := Lib.hid hx
  have HY := Lib.hid hy
  have HM := Lib.hid hM
  have HR1 := Lib.hid (h.grown hB (grow0 w (.cells #[.int .i64 V, .slice A n c] 24)))
  have HX1 := Lib.hid (hx.grown hB' (grow0 w (.cells #[.int .i64 V, .slice A n c] 24)))
  obtain ⟨i0, hi, hz0, hz1, hz2⟩ := info_parts info3
  have HI := Lib.hid hi
  have HZ0 := Lib.hid hz0
  have HZ1 := Lib.hid hz1
  have HZ2 := Lib.hid hz2
  clear hi hz0 hz1 hz2 h hx hy hM
  go_enter Try.func23, Try.ntmps23
  go_wp2_with fail
  refine (RCaps_any V A n c ls X m d caps _ HR1.out (by simp; omega) HX1.out).mono ?_
  rintro e w1 ⟨rfl, g1⟩
  obtain ⟨g, o2⟩ := box1 [.int .i64 V, .slice A n c] g1
  have G := Lib.hid g
  have O2 := Lib.hid o2
  clear g g1 o2 HR1 HX1
  cases hf : (mayG V ls && capsB ls caps)
  · have E : Hid (lvB V ls caps f s = false) := by rw [Hid, lvB, fitsF, hf]; rfl
    clear hf
    go_wp2
    go_ret2
    exact lv_none HM.out E.out G.out
  rw [Bool.and_eq_true] at hf
  have HF := Lib.hid hf
  clear hf
  go_wp2_with fail
  refine (RWithin_any X m d caps Y r e0 f _ (HX.out.grown hB' G.out) (HY.out.grown hB'' G.out)).mono ?_
  rintro e w2 ⟨rfl, g2⟩
  have G := Lib.hid (grown_trans G.out g2)
  have O2 := Lib.hid (O2.out.kept g2)
  clear g2
  obtain ⟨c0, c1⟩ := O2.out.two
  cases hrt : ratesB caps f
  · have E := Lib.hid (lvB_rates (V := V) (ls := ls) (s := s) hrt)
    clear hrt
    go_wp2
    go_ret2
    exact lv_none HM.out E.out G.out
  have HRT := Lib.hid hrt
  clear hrt
  go_wp2_with fail
  refine (RVertex_any V s A n c _).mono ?_
  rintro e w3 ⟨rfl, g3⟩
  have G := Lib.hid (grown_trans G.out g3)
  have O2 := Lib.hid (O2.out.kept g3)
  clear g3 c0 c1
  obtain ⟨c0, c1⟩ := O2.out.two
  cases hs : isV V s
  · have E := Lib.hid (lvB_src (ls := ls) (caps := caps) (f := f) hs)
    clear hs
    go_wp2
    go_ret2
    exact lv_none HM.out E.out G.out
  have hB0 := lvB_all HF.out.1 HF.out.2 HRT.out hs
  have h16 := may_small HF.out.1
  rw [HL.out] at h16
  obtain ⟨vn, rfl⟩ : ∃ vn : Nat, V = (vn : Nat) := ⟨V.toNat, by omega⟩
  have hsv : 0 ≤ s ∧ s < vn := by simpa [isV] using hs
  obtain ⟨sn, rfl⟩ : ∃ sn : Nat, s = (sn : Nat) := ⟨s.toNat, by omega⟩
  obtain ⟨rfl, hlv⟩ := lvIs_yes HM.out hB0
  rw [HL.out, Int.toNat_natCast] at hlv
  have LV := Lib.hid hlv
  have hpn : m = n := by have := (capsB_parts HF.out.2).1; have := HL.out; have := HLX.out; omega
  have hqn : r = n := by have := (ratesB_parts HRT.out).1; have := HLX.out; have := HLY.out; omega
  subst hpn hqn
  clear hs hB0 hlv HM
  go_wp2_with (first | (refine wpList_make_full _ rfl _ _ 25 rfl w3.heap.size 3 i0 (.int .i64 0) 1 Try.underlying25 HI.out HZ0.out HZ1.out .i64 .i64 (vn : Int) (vn : Int) vn rfl rfl rfl rfl (by rw [HZ2.out]; omega) (by unfold maxLen; omega) (Nat.le_refl _) ?_))
  intro w4 hmk k4
  rw [toList_madeCells_one, rep_zero vn (-1)] at hmk
  have HS : Hid (FillRel w w.heap.size w3.heap.size vn A r c (.int .i64 0) w4) := ⟨0, Nat.zero_le _, rfl, grown_trans G.out k4, O2.out.kept k4, Own.of_made hmk⟩
  have l3 := O2.out.lt
  have hs3 := G.out.size
  clear hmk k4 G O2 c0 c1 HI HZ0 HZ1 HZ2
  go_wp2
  go_loopw [11] (fun i wr => FillRel w w.heap.size w3.heap.size vn A r c i wr) (fun i _ => vn - (intOf i).toNat)
  case atStart => exact HS.out
  case round =>
    clear HS
    obtain ⟨k, hk, rfl, hgr, ob, oo⟩ := hrel
    have GR := Lib.hid hgr
    have OB := Lib.hid ob
    have OO := Lib.hid oo
    obtain ⟨c0, c1⟩ := ob.two
    clear hgr ob oo
    by_cases hlt : k < vn
    · have e1 := OO.out.cell k
      rw [List.getElem?_eq_getElem (by rw [rep_len hk]; exact hlt)] at e1
      have f1 := OO.out.frozen k
      go_wp2
      go_roundw
      case rel => exact ⟨k + 1, by omega, by go_num, grown_new GR.out (by omega) _, OB.out.setOther (by omega) _, by have := OO.out.put (i := k) (.int .i64 (-1)); rw [rep_set hlt] at this; exact this⟩
      case measure => simp [intOf]; omega
    · obtain rfl : vn = k := by omega
      have oo := OO.out
      rw [rep_full] at oo
      have e1 : wr.cell? ⟨w3.heap.size, sn, none⟩ = some (.int .i64 (-1)) := by
        rw [oo.cell sn, ints_get _ _ (by simp; omega), List.getElem?_replicate, if_pos (by omega)]
        rfl
      have f1 := oo.frozen sn
      have HS : Hid (RnRel w w.heap.size w3.heap.size vn A r c ls caps f M (.int .i64 0) (wr.setCell ⟨w3.heap.size, sn, none⟩ (.int .i64 0))) := by
        refine ⟨0, (List.replicate vn (-1)).set sn 0, Nat.zero_le _, rfl, grown_new GR.out (by omega) _, OB.out.setOther (by omega) _, ?_, ?_⟩
        · have := oo.put (i := sn) (.int .i64 0)
          rw [ints_set] at this
          exact this
        · have := rnd_first (ls := ls) (caps := caps) (f := f) (s := (sn : Int)) ⟨by omega, by omega⟩ LV.out
          rw [Int.toNat_natCast] at this
          exact this
      clear oo OO GR OB
      go_wp2
      go_loopw [12] (fun i wr => RnRel w w.heap.size w3.heap.size vn A r c ls caps f M i wr) (fun i _ => vn - (intOf i).toNat)
      case atStart => exact HS.out
      case round =>
        clear HS c0 c1 e1 f1
        obtain ⟨t, R, ht, rfl, hgr, ob, oo, rnd⟩ := hrel
        have GR := Lib.hid hgr
        have OB := Lib.hid ob
        have OO := Lib.hid oo
        have RD := Lib.hid rnd
        obtain ⟨c0, c1⟩ := ob.two
        clear hgr ob oo rnd
        by_cases hlt2 : t < vn
        · have HS : Hid (RnIn w w.heap.size w3.heap.size vn A r c ls caps f M t (.int .i64 0) wr) := ⟨0, R, Nat.zero_le _, rfl, GR.out, OB.out, OO.out, RD.out⟩
          clear GR OB OO RD
          go_wp2
          go_loopw [13] (fun i wi => RnIn w w.heap.size w3.heap.size vn A r c ls caps f M t i wi) (fun i _ => 2 * r - (intOf i).toNat)
          case atStart => exact HS.out
          case round =>
            clear HS c0 c1
            obtain ⟨k, R, hk2, rfl, hgr, ob, oo, rnd⟩ := hrel
            have GR := Lib.hid hgr
            have OB := Lib.hid ob
            have OO := Lib.hid oo
            have RD := Lib.hid rnd
            have hl := rnd.len
            have hsz := hgr.size
            obtain ⟨c0, c1⟩ := ob.two
            clear hgr ob oo rnd
            by_cases hkl : k < 2 * r
            · have hti : inV vn (tailOf ls k) := by have := tail_bd HF.out.1 (a := k) (by have := HL.out; omega); exact ⟨this.1, this.2⟩
              have hhi : inV vn (headOf ls k) := by have := head_bd HF.out.1 (a := k) (by have := HL.out; omega); exact ⟨this.1, this.2⟩
              have SK := Lib.hid (fun no => rnd_skip RD.out hti no)
              have PU := Lib.hid (fun h1 h2 h3 => rnd_put LV.out RD.out hkl hti hhi h1 h2 h3)
              have TA := Lib.hid (fun (wx : World) (gx : w.grownBy wx none) => RTail_any (vn : Nat) A r c ls k wx (HR.out.grown hB gx) hkl)
              have HA := Lib.hid (fun (wx : World) (gx : w.grownBy wx none) => RHead_any (vn : Nat) A r c ls k wx (HR.out.grown hB gx) hkl)
              have RA := Lib.hid (fun (wx : World) (gx : w.grownBy wx none) => Rroom_any X r d caps Y e0 f (k : Nat) wx (HX.out.grown hB' gx) (HY.out.grown hB'' gx) (isV_yes (by omega) (by omega)) HRT.out)
              have bt := rnd_len RD.out _ hti
              have bh := rnd_len RD.out _ hhi
              obtain ⟨tl, htl⟩ : ∃ tl : Nat, tailOf ls k = (tl : Nat) := ⟨(tailOf ls k).toNat, by have := hti.1; omega⟩
              obtain ⟨hd, hhd⟩ : ∃ hd : Nat, headOf ls k = (hd : Nat) := ⟨(headOf ls k).toNat, by have := hhi.1; omega⟩
              rw [htl] at SK PU TA bt hti
              rw [hhd] at SK PU HA bh hhi
              rw [Int.toNat_natCast] at PU
              have htn : tl < vn := by have := hti.2; omega
              have hhn : hd < vn := by have := hhi.2; omega
              have e1 := lv_cell (v := tl) OO.out (by omega)
              have e2 := lv_cell (v := hd) OO.out (by omega)
              have E1 := Lib.hid e1
              have E2 := Lib.hid e2
              clear e1 e2 htl hhd
              generalize lvAt R (tl : Int) = lt at *
              generalize lvAt R (hd : Int) = lh at *
              generalize roomI caps f (k : Int) = rm at *
              go_wp2_with fail
              refine (TA.out _ GR.out).mono ?_
              rintro e w5 ⟨rfl, g5⟩
              have e1 := kept g5 E1.out
              have G5 := Lib.hid (grown_trans GR.out g5)
              have OB5 := Lib.hid (OB.out.kept g5)
              have OO5 := Lib.hid (OO.out.kept g5)
              have E25 := Lib.hid (kept g5 E2.out)
              clear g5 c0 c1
              by_cases h1 : lt = (t : Int)
              · subst h1
                have h1b : ((t : Int) == (t : Int)) = true := by simp
                go_wp2_with fail
                refine (RA.out _ G5.out).mono ?_
                rintro e w6 ⟨rfl, g6⟩
                have G6 := Lib.hid (grown_trans G5.out g6)
                have OB6 := Lib.hid (OB5.out.kept g6)
                have OO6 := Lib.hid (OO5.out.kept g6)
                have E26 := Lib.hid (kept g6 E25.out)
                obtain ⟨c0, c1⟩ := OB6.out.two
                clear g6 e1 G5 OB5 OO5 E25
                by_cases h2 : 0 < rm
                · go_wp2_with fail
                  refine (HA.out _ G6.out).mono ?_
                  rintro e w7 ⟨rfl, g7⟩
                  have G7 := Lib.hid (grown_trans G6.out g7)
                  have OB7 := Lib.hid (OB6.out.kept g7)
                  have OO7 := Lib.hid (OO6.out.kept g7)
                  have e2 := kept g7 E26.out
                  clear g7 c0 c1 G6 OB6 OO6
                  obtain ⟨c0, c1⟩ := OB7.out.two
                  by_cases h3 : lh < 0
                  · have PU2 := Lib.hid (PU.out (by first | trivial | rfl) h2 h3)
                    clear SK PU
                    go_wp2_with fail
                    refine (HA.out _ G7.out).mono ?_
                    rintro e w8 ⟨rfl, g8⟩
                    have G8 := Lib.hid (grown_trans G7.out g8)
                    have OB8 := Lib.hid (OB7.out.kept g8)
                    have oo8 := OO7.out.kept g8
                    have f8 := oo8.frozen hd
                    have e8 := kept g8 e2
                    have OS8 := oo8.put (i := hd) (.int .i64 ((t : Int) + 1))
                    rw [ints_set] at OS8
                    have OO8 := Lib.hid OS8
                    clear g8 c0 c1 G7 OB7 OO7 e2 oo8 OS8
                    go_wp2
                    go_roundw
                    case rel => exact ⟨k + 1, R.set hd ((t : Int) + 1), by omega, by go_num, grown_new G8.out (by omega) _, OB8.out.setOther (by omega) _, OO8.out, PU2.out⟩
                    case measure => simp [intOf]; omega
                  · have SK2 := Lib.hid (SK.out (fun h => h3 h.2.2))
                    clear SK PU
                    go_wp2
                    go_roundw
                    case rel => exact ⟨k + 1, R, by omega, by go_num, G7.out, OB7.out, OO7.out, SK2.out⟩
                    case measure => simp [intOf]; omega
                · have SK2 := Lib.hid (SK.out (fun h => h2 h.2.1))
                  clear SK PU
                  go_wp2
                  go_roundw
                  case rel => exact ⟨k + 1, R, by omega, by go_num, G6.out, OB6.out, OO6.out, SK2.out⟩
                  case measure => simp [intOf]; omega
              · have h1b : (lt == (t : Int)) = false := by simp [h1]
                have SK2 := Lib.hid (SK.out (fun h => h1 h.1))
                clear SK PU
                go_wp2
                go_roundw
                case rel => exact ⟨k + 1, R, by omega, by go_num, G5.out, OB5.out, OO5.out, SK2.out⟩
                case measure => simp [intOf]; omega
            · obtain rfl : k = 2 * r := by omega
              have RN := Lib.hid (rnd_round LV.out RD.out)
              go_wp2
              go_roundw
              case rel => exact ⟨t + 1, R, by omega, by go_num, GR.out, OB.out, OO.out, RN.out⟩
              case measure => simp [intOf]; omega
        · obtain rfl : vn = t := by omega
          have hrm := rnd_end LV.out RD.out
          subst hrm
          have hl := RD.out.len
          go_wp2
          go_ret2
          exact ⟨_, rfl, by rw [hl]; exact OO.out.mine (by omega) hl (by omega), GR.out⟩

end Go.Proofs.Ytppcncblmakekaa

set_option maxRecDepth 20000
namespace Go.Proofs.Ytppcncblmakekaa
open Go.RowKit

/-- Blocks that are known whole. -/
def StS (w : World) (os : List (Nat × TypeId × List Value)) : Prop := ∀ o ∈ os, Own w o.1 o.2.1 o.2.2

theorem StS.kept {w w' : World} {os : List (Nat × TypeId × List Value)} (h : StS w os) (k : w.grownBy w' none) : StS w' os := fun o ho => (h o ho).kept k

theorem StS.cons {w : World} {os : List (Nat × TypeId × List Value)} {g : Nat} {T : TypeId} {vs : List Value} (h : StS w os) (o : Own w g T vs) : StS w ((g, T, vs) :: os) := by
  intro x hx
  rcases List.mem_cons.1 hx with rfl | hx
  · exact o
  · exact h x hx

theorem StS.lit {w : World} {os : List (Nat × TypeId × List Value)} {vs : Array Value} {T : TypeId} (h : StS w os) : StS (w.alloc (.cells vs T)) ((w.heap.size, T, vs.toList) :: os) :=
  (h.kept (grow0 _ _)).cons (by have := Own.new w T vs.toList; simpa using this)

theorem StS.nil (w : World) : StS w [] := fun _ h => by cases h

theorem Own.rowS {w : World} {g n : Nat} (xs : List Int) (h : Own w g 3 (ints xs)) (hn : n = xs.length) (hl : xs.length ≤ 1000) (hok : xs.all bdB = true) : Row w (g + 1) (some ⟨g, 0, none⟩) n xs := by
  subst hn
  refine ⟨rfl, by omega, ok_of hok, fun _ => ⟨g, 0, rfl, by omega, fun i hi => ?_⟩⟩
  rw [Nat.zero_add, h.cell i, ints_get xs i hi]

/-- Grown since w0; blocks that are known whole. -/
structure SB (w0 w : World) (os : List (Nat × TypeId × List Value)) : Prop where
  g : w0.grownBy w none
  st : StS w os

theorem SB.kept {w0 w w' : World} {os : List (Nat × TypeId × List Value)} (h : SB w0 w os) (k : w.grownBy w' none) : SB w0 w' os := ⟨grown_trans h.g k, h.st.kept k⟩

theorem SB.lit {w0 w : World} {os : List (Nat × TypeId × List Value)} {vs : Array Value} {T : TypeId} (h : SB w0 w os) : SB w0 (w.alloc (.cells vs T)) ((w.heap.size, T, vs.toList) :: os) := ⟨grown_alloc h.g _, h.st.lit⟩

theorem SB.cons {w0 w : World} {os : List (Nat × TypeId × List Value)} {g : Nat} {T : TypeId} {vs : List Value} (h : SB w0 w os) (o : Own w g T vs) : SB w0 w ((g, T, vs) :: os) := ⟨h.g, h.st.cons o⟩

theorem SB.less {w0 w : World} {os : List (Nat × TypeId × List Value)} (h : SB w0 w os) : SB w0 w [] := ⟨h.g, StS.nil w⟩

theorem SB.own {w0 w : World} {os : List (Nat × TypeId × List Value)} {g : Nat} {T : TypeId} {vs : List Value} (h : SB w0 w os) (m : (g, T, vs) ∈ os) : Own w g T vs := h.st (g, T, vs) m

theorem SB.lks {w0 w : World} {os : List (Nat × TypeId × List Value)} {gs : Nat} (h : SB w0 w os) (ms : (gs, 57, linkE.flat smallL) ∈ os) : Lks w w.heap.size (some ⟨gs, 0, none⟩) 3 smallL := Own.lks' smallL 3 rfl (by decide) (by decide) (h.own ms)

theorem SB.row {w0 w : World} {os : List (Nat × TypeId × List Value)} {g n : Nat} (xs : List Int) (h : SB w0 w os) (m : (g, 3, ints xs) ∈ os) (hn : n = xs.length) (hl : xs.length ≤ 1000) (hb : xs.all bdB = true) : Row w w.heap.size (some ⟨g, 0, none⟩) n xs := (Own.rowS xs (h.own m) hn hl hb).wide (h.own m).lt

theorem SameS {w0 w wz : World} {g c n B : Nat} {A : Option Addr} {os : List (Nat × TypeId × List Value)} {xs : List Int} (r : Row wz B A n xs) (h : SB w0 w os) (hB : B ≤ wz.heap.size) (hw : wz.grownBy w none) (m : (g, 3, ints xs) ∈ os) (hn : n = xs.length) (hl : xs.length ≤ 1000) (hb : xs.all bdB = true) :
    Calls Try.prog 10 #[.slice A n c, .slice (some ⟨g, 0, none⟩) n n] w (Says w (.bool true)) :=
  sameB_refl xs ▸ same_says (SameInts0_any A n c xs _ n n xs w (r.grown hB hw) (h.row xs m hn hl hb))

theorem SB.only {w0 w : World} {os : List (Nat × TypeId × List Value)} {g : Nat} {T : TypeId} {vs : List Value} (h : SB w0 w os) (m : (g, T, vs) ∈ os) : SB w0 w [(g, T, vs)] := ⟨h.g, (StS.nil w).cons (h.own m)⟩

end Go.Proofs.Ytppcncblmakekaa

set_option maxRecDepth 20000
namespace Go.Proofs.Ytppcncblmakekaa
open Go.RowKit

theorem Levels_is (V s : Int) (A : Option Addr) (n c : Nat) (ls : List Lk) (X : Option Addr) (m d : Nat) (caps : List Int) (Y : Option Addr) (r e0 : Nat) (f : List Int) (w : World) {B B' B'' : Nat} (h : Lks w B A n ls) (hB : B ≤ w.heap.size) (hx : Row w B' X m caps) (hB' : B' ≤ w.heap.size) (hy : Row w B'' Y r f) (hB'' : B'' ≤ w.heap.size)
    (M : List Int) (z : Int) (hM : LvIs V ls caps f s M z) : Calls Try.prog 22 #[.agg #[.int .i64 V, .slice A n c], .slice X m d, .slice Y r e0, .int .i64 s] w (SelPost w M z) := by
  refine (Levels_any V s A n c ls X m d caps Y r e0 f w h hB hx hB' hy hB'').mono ?_
  rintro e w' ⟨M', z', h', k⟩
  obtain ⟨rfl, rfl⟩ := lvIs_one hM h'
  exact k

theorem LevelsS {w0 w : World} {gs gc gf p q : Nat} {os : List (Nat × TypeId × List Value)} {s : Int} (caps f M : List Int) (z : Int) (hM : LvIs 3 smallL caps f s M z) (hcapsn : p = caps.length) (hcapsl : caps.length ≤ 1000) (hcapsb : caps.all bdB = true) (mcaps : (gc, 3, ints caps) ∈ os) (hfn : q = f.length) (hfl : f.length ≤ 1000) (hfb : f.all bdB = true) (mf : (gf, 3, ints f) ∈ os) (h : SB w0 w os) (ms : (gs, 57, linkE.flat smallL) ∈ os) :
    Calls Try.prog 22 #[.agg #[.int .i64 3, .slice (some ⟨gs, 0, none⟩) 3 3], .slice (some ⟨gc, 0, none⟩) p p, .slice (some ⟨gf, 0, none⟩) q q, .int .i64 s] w (SelPost w M z) :=
  Levels_is 3 s _ 3 3 smallL _ p p caps _ q q f w (h.lks ms) (Nat.le_refl _) (h.row caps mcaps hcapsn hcapsl hcapsb) (Nat.le_refl _) (h.row f mf hfn hfl hfb) (Nat.le_refl _) M z hM

theorem small_v {v : Int} (h : inV 3 v) : v = 0 ∨ v = 1 ∨ v = 2 := by have := h.1; have := h.2; omega

theorem lv_small1 : LvIs 3 smallL [5, 4, 3] [0, 0, 3] 0 [0, 1, 2] 0 := by
  refine .inl ⟨by decide, rfl, rfl, by decide, fun v hv => ?_, fun v hv => ?_, fun u v h => ?_, fun v hv => ?_⟩
  · rcases small_v hv with rfl | rfl | rfl <;> decide
  · rcases small_v hv with rfl | rfl | rfl <;> decide
  · obtain ⟨a, ha, rfl, rfl, hr⟩ := h
    have ha : a < 6 := ha
    rcases (show a = 0 ∨ a = 1 ∨ a = 2 ∨ a = 3 ∨ a = 4 ∨ a = 5 by omega) with rfl | rfl | rfl | rfl | rfl | rfl <;> revert hr <;> decide
  · rcases small_v hv with rfl | rfl | rfl
    · exact fun h => absurd h (by decide)
    · exact fun _ => ⟨0, ⟨0, by decide, by decide, by decide, by decide⟩, by decide⟩
    · exact fun _ => ⟨1, ⟨2, by decide, by decide, by decide, by decide⟩, by decide⟩

theorem lv_small2 : LvIs 3 smallL [5, 4, 3] [0, 0, 4] 0 [] 1000 := lev_no (by decide)

end Go.Proofs.Ytppcncblmakekaa

set_option maxRecDepth 20000
namespace Go.Proofs.Ytppcncblmakekaa
open Go.RowKit

/-- The vertices that have a level. -/
def reachL (M : List Int) : List Int := pick (fun v => decide (0 ≤ lvAt M (v : Int))) M.length
def reachE (z : Int) : Int := if z = 0 then 0 else 1300
def shutB (V : Int) (M : List Int) (z t : Int) : Bool := decide (z = 0) && isV V t && decide (lvAt M t < 0)
def shutE (V z t : Int) : Int := if (decide (z = 0) && isV V t) = true then 0 else 1300

theorem reach_ok {M : List Int} (h : M.length ≤ 8) : okI (reachL M) ∧ (reachL M).length ≤ 8 :=
  ⟨pick_ok (by omega), Nat.le_trans (pick_len _ _) h⟩

theorem reach_mem {M : List Int} {x : Int} (h0 : 0 ≤ x) (h1 : x < M.length) : x ∈ reachL M ↔ 0 ≤ lvAt M x := by
  rw [reachL, pick_mem]
  constructor
  · rintro ⟨i, _, hi, rfl⟩
    exact of_decide_eq_true hi
  · intro h
    have e : ((x.toNat : Nat) : Int) = x := by omega
    exact ⟨x.toNat, by omega, by rw [e]; exact decide_eq_true h, e.symm⟩

/-- What is told of levels is told once. -/
theorem lvIs_there (V : Int) (ls : List Lk) (caps f : List Int) (s : Int) : ∃ M z, LvIs V ls caps f s M z := by
  cases hb : lvB V ls caps f s
  · exact ⟨[], 1000, lev_no hb⟩
  · obtain ⟨h1, h2⟩ := lvB_parts hb
    have hm := (fits_parts h1).1
    have h8 := may_small hm
    obtain ⟨vn, rfl⟩ : ∃ vn : Nat, V = (vn : Nat) := ⟨V.toNat, by omega⟩
    have hs : inV vn s := by simpa [isV, inV] using h2
    obtain ⟨M, hM⟩ := lev_there (caps := caps) (f := f) hm rfl hs
    exact ⟨M, 0, lev_yes hb rfl hM⟩

theorem caps_low {V : Int} : ∀ (ls : List Lk) (acc : Int), (capsFrom V acc ls).isSome = true → ∀ l ∈ ls, 0 ≤ l.2.2
  | [], _, _ => by simp
  | l :: r, acc, h => by
    intro x hx
    rw [capsFrom] at h
    by_cases k : linkOk V acc l = true
    · rw [if_pos k] at h
      rcases List.mem_cons.1 hx with rfl | hx
      · exact (link_bd k).1
      · exact caps_low r _ h x hx
    · rw [if_neg k] at h
      cases h

theorem may_cap {V : Int} {ls : List Lk} (h : mayG V ls = true) {i : Nat} (hi : i < ls.length) : 0 ≤ (at3 ls i).2.2 := by
  unfold mayG totalOf at h
  by_cases k : formOk V ls.length = true
  · rw [if_pos k] at h
    exact caps_low ls 0 h (at3 ls i) (by unfold at3; rw [List.getElem?_eq_getElem hi]; exact List.getElem_mem hi)
  · rw [if_neg k] at h
    cases h

def ReRel (w w1 : World) (M : List Int) (o i : Value) (wr : World) : Prop :=
  ∃ k : Nat, k ≤ M.length ∧ i = .int .i64 (k : Nat) ∧ w.grownBy wr none ∧ w1.grownBy wr none ∧ Mine wr w1.heap.size o (pick (fun v => decide (0 ≤ lvAt M (v : Int))) k).length (pick (fun v => decide (0 ≤ lvAt M (v : Int))) k)

set_option maxRecDepth 20000 in
set_option maxHeartbeats 2000000 in
theorem RReach_any (V s : Int) (A : Option Addr) (n c : Nat) (ls : List Lk) (X : Option Addr) (m d : Nat) (caps : List Int) (Y : Option Addr) (r e0 : Nat) (f : List Int) (w : World) {B B' B'' : Nat} (h : Lks w B A n ls) (hB : B ≤ w.heap.size) (hx : Row w B' X m caps) (hB' : B' ≤ w.heap.size) (hy : Row w B'' Y r f) (hB'' : B'' ≤ w.heap.size)
    (M : List Int) (z : Int) (hM : LvIs V ls caps f s M z) : Calls Try.prog 8 #[.agg #[.int .i64 V, .slice A n c], .slice X m d, .slice Y r e0, .int .i64 s] w (SelPost w (reachL M) (reachE z)) := by
  have HR := Lib.hid h
  have HX := Lib.hid hx
  have HY := Lib.hid hy
  have HM := Lib.hid hM
  have HG0 := Lib.hid (grow0 w (.cells #[.int .i64 V, .slice A n c] 24))
  clear h hx hy hM
  go_enter Try.func8, Try.ntmps8
  go_wp2_with fail
  refine (RLevels_any V s A n c ls X m d caps Y r e0 f _ (HR.out.grown hB HG0.out) (by simp; omega) (HX.out.grown hB' HG0.out) (by simp; omega) (HY.out.grown hB'' HG0.out) (by simp; omega) M z HM.out).mono ?_
  rintro e w1 ⟨v1, rfl, h1, k⟩
  obtain ⟨g1, _⟩ := box1 [.int .i64 V, .slice A n c] k
  have G := Lib.hid g1
  have hw1 := g1.size
  obtain ⟨okM, hm8⟩ := lvIs_okI HM.out
  obtain ⟨Am, cm, rfl, _, _, rM⟩ := h1.rowN okM
  have RM := Lib.hid rM
  clear k g1 HG0 h1 rM okM
  rcases HM.out with ⟨_, rfl, hi⟩ | ⟨_, rfl, rfl⟩
  case inr =>
    clear HM
    have q : reachE 1000 = 1300 := by decide
    go_wp2
    go_ret2
    exact ⟨.slice none 0 0, (by rw [q]; rfl), Mine.nil _ _, G.out⟩
  clear hi HM
  have HS : Hid (ReRel w w1 M (.slice none 0 0) (.int .i64 0) w1) := ⟨0, Nat.zero_le _, rfl, G.out, World.grownBy.refl w1 none, Mine.nil _ _⟩
  have hml : M.length ≤ 8 := hm8
  obtain ⟨ml, hml2⟩ : ∃ ml, M.length = ml := ⟨_, rfl⟩
  have HML := Lib.hid hml2
  rw [hml2] at hml RM
  clear hml2 hm8
  rw [HML.out]
  go_wp2
  go_loopw [12, 13] (fun o i wr => ReRel w w1 M o i wr) (fun _ i _ => ml - (intOf i).toNat)
  case atStart => exact HS.out
  case round =>
    clear HS
    obtain ⟨k, hk, rfl, hg, hg1, mo⟩ := hrel
    rw [HML.out] at hk
    have G := Lib.hid hg
    have G1 := Lib.hid hg1
    have MO := Lib.hid mo
    have hsz := hg1.size
    clear hg hg1 mo
    by_cases hlt : k < ml
    · obtain ⟨b, off, rfl, hb, hcell⟩ := RM.out.at_ (by omega)
      have d0 := kept G1.out (hcell k hlt)
      have HY1 := Lib.hid (pick_yes (p := fun v => decide (0 ≤ lvAt M (v : Int))) (k := k))
      have HN1 := Lib.hid (pick_no (p := fun v => decide (0 ≤ lvAt M (v : Int))) (k := k))
      have HE : Hid (lvAt M (k : Int) = M[k]?.getD 0) := by rw [Hid, lvAt, Int.toNat_natCast]
      have hl := pick_len (fun v => decide (0 ≤ lvAt M (v : Int))) k
      clear hcell
      generalize M[k]?.getD 0 = x at *
      by_cases hx : 0 ≤ x
      · have HN2 := Lib.hid (HY1.out (by simp only [HE.out]; exact decide_eq_true hx))
        clear HY1 HN1
        generalize pick (fun v => decide (0 ≤ lvAt M (v : Int))) k = xs at *
        have kl := grow0 wr (.cells #[.int .i64 (k : Nat)] 3)
        have HM1 := Lib.hid (MO.out.kept kl)
        have hge := Lib.hid MO.out.own_ge
        have HROW := Lib.hid (Row.newAt (w := wr) (g := wr.heap.size) (n := 1) (vs := #[.int .i64 (k : Nat)]) [(k : Int)] (by simp) rfl rfl (by simp) (by simp; omega))
        have GE := Lib.hid (grown_trans G.out kl)
        have GE1 := Lib.hid (grown_trans G1.out kl)
        have hgs := G.out.size
        clear kl MO G G1
        go_wp2_with (first | (at_builtin; refine wpList_app _ rfl _ _ rfl w1.heap.size _ _ _ rfl HM1.out _ 1 1 [(k : Int)] rfl HROW.out (by simp) (by omega) (by simp; omega) ?_))
        intro v1 w3 hm1 hg3 _
        have G3 := Lib.hid (grown_none GE.out hg3 (fun g hg => by have := hge.out g hg; omega))
        have G31 := Lib.hid (grown_none GE1.out hg3 (fun g hg => by have := hge.out g hg; omega))
        have HM3 := Lib.hid hm1
        clear hm1 hg3
        go_wp2
        go_roundw
        case rel => exact ⟨k + 1, by rw [HML.out]; omega, by go_num, G3.out, G31.out, by rw [HN2.out]; simpa using HM3.out⟩
        case measure => simp [intOf]; omega
      · have HN2 := Lib.hid (HN1.out (by simp only [HE.out]; exact decide_eq_false hx))
        clear HY1 HN1
        go_wp2
        go_roundw
        case rel => exact ⟨k + 1, by rw [HML.out]; omega, by go_num, G.out, G1.out, by rw [HN2.out]; exact MO.out⟩
        case measure => simp [intOf]; omega
    · obtain rfl : k = ml := by omega
      go_wp2
      go_ret2
      have hf := MO.out
      have q : reachE 0 = 0 := by decide
      refine ⟨_, (by rw [q]; rfl), ?_, G.out⟩
      rw [reachL, HML.out]
      exact hf.wide hw1

end Go.Proofs.Ytppcncblmakekaa

set_option maxRecDepth 20000
namespace Go.Proofs.Ytppcncblmakekaa
open Go.RowKit

set_option maxRecDepth 20000 in
set_option maxHeartbeats 2000000 in
theorem Reach_any (V s : Int) (A : Option Addr) (n c : Nat) (ls : List Lk) (X : Option Addr) (m d : Nat) (caps : List Int) (Y : Option Addr) (r e0 : Nat) (f : List Int) (w : World) {B B' B'' : Nat} (h : Lks w B A n ls) (hB : B ≤ w.heap.size) (hx : Row w B' X m caps) (hB' : B' ≤ w.heap.size) (hy : Row w B'' Y r f) (hB'' : B'' ≤ w.heap.size)
    (M : List Int) (z : Int) (hM : LvIs V ls caps f s M z) : Calls Try.prog 7 #[.agg #[.int .i64 V, .slice A n c], .slice X m d, .slice Y r e0, .int .i64 s] w (SelPost w (reachL M) (reachE z)) := by
  have HR := Lib.hid h
  have HX := Lib.hid hx
  have HY := Lib.hid hy
  have HM := Lib.hid hM
  have HG0 := Lib.hid (grow0 w (.cells #[.int .i64 V, .slice A n c] 24))
  clear h hx hy hM
  go_enter Try.func7, Try.ntmps7
  go_wp2_with fail
  refine (Levels_is V s A n c ls X m d caps Y r e0 f _ (HR.out.grown hB HG0.out) (by simp; omega) (HX.out.grown hB' HG0.out) (by simp; omega) (HY.out.grown hB'' HG0.out) (by simp; omega) M z HM.out).mono ?_
  rintro e w1 ⟨v1, rfl, h1, k⟩
  obtain ⟨g1, _⟩ := box1 [.int .i64 V, .slice A n c] k
  have G := Lib.hid g1
  have hw1 := g1.size
  obtain ⟨okM, hm8⟩ := lvIs_okI HM.out
  obtain ⟨Am, cm, rfl, _, _, rM⟩ := h1.rowN okM
  have RM := Lib.hid rM
  clear k g1 HG0 h1 rM okM
  rcases HM.out with ⟨_, rfl, hi⟩ | ⟨_, rfl, rfl⟩
  case inr =>
    clear HM
    have q : reachE 1000 = 1300 := by decide
    go_wp2
    go_ret2
    exact ⟨.slice none 0 0, (by rw [q]; rfl), Mine.nil _ _, G.out⟩
  clear hi HM
  have HS : Hid (ReRel w w1 M (.slice none 0 0) (.int .i64 0) w1) := ⟨0, Nat.zero_le _, rfl, G.out, World.grownBy.refl w1 none, Mine.nil _ _⟩
  have hml : M.length ≤ 8 := hm8
  obtain ⟨ml, hml2⟩ : ∃ ml, M.length = ml := ⟨_, rfl⟩
  have HML := Lib.hid hml2
  rw [hml2] at hml RM
  clear hml2 hm8
  rw [HML.out]
  go_wp2
  go_loopw [12, 27] (fun o i wr => ReRel w w1 M o i wr) (fun _ i _ => ml - (intOf i).toNat)
  case atStart => exact HS.out
  case round =>
    clear HS
    obtain ⟨k, hk, rfl, hg, hg1, mo⟩ := hrel
    rw [HML.out] at hk
    have G := Lib.hid hg
    have G1 := Lib.hid hg1
    have MO := Lib.hid mo
    have hsz := hg1.size
    clear hg hg1 mo
    by_cases hlt : k < ml
    · obtain ⟨b, off, rfl, hb, hcell⟩ := RM.out.at_ (by omega)
      have d0 := kept G1.out (hcell k hlt)
      have HY1 := Lib.hid (pick_yes (p := fun v => decide (0 ≤ lvAt M (v : Int))) (k := k))
      have HN1 := Lib.hid (pick_no (p := fun v => decide (0 ≤ lvAt M (v : Int))) (k := k))
      have HE : Hid (lvAt M (k : Int) = M[k]?.getD 0) := by rw [Hid, lvAt, Int.toNat_natCast]
      have hl := pick_len (fun v => decide (0 ≤ lvAt M (v : Int))) k
      clear hcell
      generalize M[k]?.getD 0 = x at *
      by_cases hx : 0 ≤ x
      · have HN2 := Lib.hid (HY1.out (by simp only [HE.out]; exact decide_eq_true hx))
        clear HY1 HN1
        generalize pick (fun v => decide (0 ≤ lvAt M (v : Int))) k = xs at *
        have kl := grow0 wr (.cells #[.int .i64 (k : Nat)] 3)
        have HM1 := Lib.hid (MO.out.kept kl)
        have hge := Lib.hid MO.out.own_ge
        have HROW := Lib.hid (Row.newAt (w := wr) (g := wr.heap.size) (n := 1) (vs := #[.int .i64 (k : Nat)]) [(k : Int)] (by simp) rfl rfl (by simp) (by simp; omega))
        have GE := Lib.hid (grown_trans G.out kl)
        have GE1 := Lib.hid (grown_trans G1.out kl)
        have hgs := G.out.size
        clear kl MO G G1
        go_wp2_with (first | (at_builtin; refine wpList_app _ rfl _ _ rfl w1.heap.size _ _ _ rfl HM1.out _ 1 1 [(k : Int)] rfl HROW.out (by simp) (by omega) (by simp; omega) ?_))
        intro v1 w3 hm1 hg3 _
        have G3 := Lib.hid (grown_none GE.out hg3 (fun g hg => by have := hge.out g hg; omega))
        have G31 := Lib.hid (grown_none GE1.out hg3 (fun g hg => by have := hge.out g hg; omega))
        have HM3 := Lib.hid hm1
        clear hm1 hg3
        go_wp2
        go_roundw
        case rel => exact ⟨k + 1, by rw [HML.out]; omega, by go_num, G3.out, G31.out, by rw [HN2.out]; simpa using HM3.out⟩
        case measure => simp [intOf]; omega
      · have HN2 := Lib.hid (HN1.out (by simp only [HE.out]; exact decide_eq_false hx))
        clear HY1 HN1
        go_wp2
        go_roundw
        case rel => exact ⟨k + 1, by rw [HML.out]; omega, by go_num, G.out, G1.out, by rw [HN2.out]; exact MO.out⟩
        case measure => simp [intOf]; omega
    · obtain rfl : k = ml := by omega
      go_wp2
      go_ret2
      have hf := MO.out
      have q : reachE 0 = 0 := by decide
      refine ⟨_, (by rw [q]; rfl), ?_, G.out⟩
      rw [reachL, HML.out]
      exact hf.wide hw1

set_option maxRecDepth 20000 in
set_option maxHeartbeats 2000000 in
theorem Shut_any (V s t : Int) (A : Option Addr) (n c : Nat) (ls : List Lk) (X : Option Addr) (m d : Nat) (caps : List Int) (Y : Option Addr) (r e0 : Nat) (f : List Int) (w : World) {B B' B'' : Nat} (h : Lks w B A n ls) (hB : B ≤ w.heap.size) (hx : Row w B' X m caps) (hB' : B' ≤ w.heap.size) (hy : Row w B'' Y r f) (hB'' : B'' ≤ w.heap.size)
    (M : List Int) (z : Int) (hM : LvIs V ls caps f s M z) : Calls Try.prog 9 #[.agg #[.int .i64 V, .slice A n c], .slice X m d, .slice Y r e0, .int .i64 s, .int .i64 t] w (Says w (.tuple #[.bool (shutB V M z t), .int .i64 (shutE V z t)])) := by
  have HR := Lib.hid h
  have HX := Lib.hid hx
  have HY := Lib.hid hy
  have HM := Lib.hid hM
  have HG0 := Lib.hid (grow0 w (.cells #[.int .i64 V, .slice A n c] 24))
  clear h hx hy hM
  go_enter Try.func9, Try.ntmps9
  go_wp2_with fail
  refine (Levels_is V s A n c ls X m d caps Y r e0 f _ (HR.out.grown hB HG0.out) (by simp; omega) (HX.out.grown hB' HG0.out) (by simp; omega) (HY.out.grown hB'' HG0.out) (by simp; omega) M z HM.out).mono ?_
  rintro e w1 ⟨v1, rfl, h1, k⟩
  obtain ⟨g1, o2⟩ := box1 [.int .i64 V, .slice A n c] k
  obtain ⟨c0, c1⟩ := o2.two
  have G := Lib.hid g1
  obtain ⟨okM, hm8⟩ := lvIs_okI HM.out
  obtain ⟨Am, cm, rfl, _, _, rM⟩ := h1.rowN okM
  have RM := Lib.hid rM
  clear k g1 HG0 h1 rM okM o2
  rcases HM.out with ⟨_, rfl, hi⟩ | ⟨_, rfl, rfl⟩
  case inr =>
    have E : Hid (shutB V [] 1000 t = false ∧ shutE V 1000 t = 1300) := by constructor <;> rfl
    clear HM
    go_wp2
    go_ret2
    exact ⟨ret_fit E.out.1 E.out.2, G.out⟩
  clear HM
  have HV := Lib.hid hi
  clear hi
  go_wp2_with fail
  refine (Vert1_any V t A n c _ rfl).mono ?_
  rintro e w2 ⟨rfl, g2⟩
  have RM := Lib.hid (RM.out.grown (Nat.le_refl _) g2)
  have G := Lib.hid (grown_trans G.out g2)
  clear g2 c0 c1
  cases ht : isV V t
  · have E : Hid (shutB V M 0 t = false ∧ shutE V 0 t = 1300) := by
      constructor
      · simp [shutB, ht]
      · simp [shutE, ht]
    clear ht
    go_wp2
    go_ret2
    exact ⟨ret_fit E.out.1 E.out.2, G.out⟩
  have htv : 0 ≤ t ∧ t < V := by simpa [isV] using ht
  have hl := HV.out.len
  obtain ⟨tn, rfl⟩ : ∃ tn : Nat, t = (tn : Nat) := ⟨t.toNat, by omega⟩
  have htl : tn < M.length := by omega
  obtain ⟨b, off, rfl, hb, hcell⟩ := RM.out.at_ (by omega)
  have d0 := hcell tn htl
  have HE : Hid (lvAt M (tn : Int) = M[tn]?.getD 0) := by rw [Hid, lvAt, Int.toNat_natCast]
  have E : Hid (shutB V M 0 (tn : Nat) = decide (lvAt M (tn : Int) < 0) ∧ shutE V 0 (tn : Nat) = 0) := by
    constructor
    · simp [shutB, ht]
    · simp [shutE, ht]
  rw [HE.out] at E
  clear hcell ht RM HE
  generalize M[tn]?.getD 0 = x at *
  go_wp2
  go_ret2
  exact ⟨ret_fit E.out.1 E.out.2, G.out⟩

end Go.Proofs.Ytppcncblmakekaa

set_option maxRecDepth 20000
namespace Go.Proofs.Ytppcncblmakekaa
open Go.RowKit

theorem small13_any (w : World) : Calls Try.prog 26 #[] w (SmallPost w) := by
  have HB := Lib.hid (box2 (w := w) (T := 24) (U := 57) [.int .i64 3, .slice (some ⟨w.heap.size + 1, 0, none⟩) 3 3] smallV (World.grownBy.refl _ none))
  go_enter Try.func26, Try.ntmps26
  go_wp2
  obtain ⟨g, o1, o2⟩ := HB.out
  exact post_graph rfl rfl o1.two.1 o1.two.2 rfl ⟨w.heap.size + 1, rfl, small_flat ▸ o2, by omega, g⟩

theorem small_v13 {v : Int} (h : inV 3 v) : v = 0 ∨ v = 1 ∨ v = 2 := by have := h.1; have := h.2; omega

theorem lv_small13 : LvIs 3 smallL [5, 4, 3] [4, 4, 3] 0 [0, 1, -1] 0 := by
  refine .inl ⟨by decide, rfl, rfl, by decide, fun v hv => ?_, fun v hv => ?_, fun u v h => ?_, fun v hv => ?_⟩
  · rcases small_v13 hv with rfl | rfl | rfl <;> decide
  · rcases small_v13 hv with rfl | rfl | rfl <;> decide
  · obtain ⟨a, ha, rfl, rfl, hr⟩ := h
    have ha : a < 6 := ha
    rcases (show a = 0 ∨ a = 1 ∨ a = 2 ∨ a = 3 ∨ a = 4 ∨ a = 5 by omega) with rfl | rfl | rfl | rfl | rfl | rfl <;> revert hr <;> decide
  · rcases small_v13 hv with rfl | rfl | rfl
    · exact fun h => absurd h (by decide)
    · exact fun _ => ⟨0, ⟨0, by decide, by decide, by decide, by decide⟩, by decide⟩
    · exact fun h => absurd h (by decide)

theorem ReachS {w0 w : World} {gs gc gf : Nat} {os : List (Nat × TypeId × List Value)} (mc : (gc, 3, ints [5, 4, 3]) ∈ os) (mf : (gf, 3, ints [4, 4, 3]) ∈ os) (h : SB w0 w os) (ms : (gs, 57, linkE.flat smallL) ∈ os) :
    Calls Try.prog 7 #[.agg #[.int .i64 3, .slice (some ⟨gs, 0, none⟩) 3 3], .slice (some ⟨gc, 0, none⟩) 3 3, .slice (some ⟨gf, 0, none⟩) 3 3, .int .i64 0] w (SelPost w [0, 1] 0) :=
  Reach_any 3 0 _ 3 3 smallL _ 3 3 [5, 4, 3] _ 3 3 [4, 4, 3] w (h.lks ms) (Nat.le_refl _) (h.row [5, 4, 3] mc rfl (by decide) (by decide)) (Nat.le_refl _) (h.row [4, 4, 3] mf rfl (by decide) (by decide)) (Nat.le_refl _) [0, 1, -1] 0 lv_small13

theorem ShutS {w0 w : World} {gs gc gf : Nat} {os : List (Nat × TypeId × List Value)} (t : Int) (mc : (gc, 3, ints [5, 4, 3]) ∈ os) (mf : (gf, 3, ints [4, 4, 3]) ∈ os) (h : SB w0 w os) (ms : (gs, 57, linkE.flat smallL) ∈ os) :
    Calls Try.prog 9 #[.agg #[.int .i64 3, .slice (some ⟨gs, 0, none⟩) 3 3], .slice (some ⟨gc, 0, none⟩) 3 3, .slice (some ⟨gf, 0, none⟩) 3 3, .int .i64 0, .int .i64 t] w (Says w (.tuple #[.bool (shutB 3 [0, 1, -1] 0 t), .int .i64 (shutE 3 0 t)])) :=
  Shut_any 3 0 t _ 3 3 smallL _ 3 3 [5, 4, 3] _ 3 3 [4, 4, 3] w (h.lks ms) (Nat.le_refl _) (h.row [5, 4, 3] mc rfl (by decide) (by decide)) (Nat.le_refl _) (h.row [4, 4, 3] mf rfl (by decide) (by decide)) (Nat.le_refl _) [0, 1, -1] 0 lv_small13

theorem shut_small : shutB 3 [0, 1, -1] 0 2 = true ∧ shutE 3 0 2 = 0 ∧ shutB 3 [0, 1, -1] 0 1 = false ∧ shutE 3 0 1 = 0 ∧ shutB 3 [0, 1, -1] 0 3 = false ∧ shutE 3 0 3 = 1300 := by decide

set_option maxHeartbeats 4000000 in
theorem awake13_any (w : World) : Calls Try.prog 14 #[] w (Says w (.bool true)) := by
  have HS : Hid (SB w w []) := ⟨World.grownBy.refl w none, StS.nil _⟩
  obtain ⟨a1, a2, a3, a4, a5, a6⟩ := shut_small
  have H1 := Lib.hid a1
  have H2 := Lib.hid a2
  have H3 := Lib.hid a3
  have H4 := Lib.hid a4
  have H5 := Lib.hid a5
  have H6 := Lib.hid a6
  clear a1 a2 a3 a4 a5 a6
  go_enter Try.func14, Try.ntmps14
  go_wp2_with fail
  refine (small13_any _).mono ?_
  rintro e w1 ⟨gs1, rfl, os, _, k⟩
  have HS := Lib.hid ((HS.out.kept k).cons os)
  clear os k
  go_wp2_with fail
  refine (ReachS (by simp [ints]) (by simp [ints]) HS.out.lit.lit (by simp)).mono ?_
  rintro e w2 ⟨va, rfl, ha, k⟩
  obtain ⟨Aa, ca, rfl, _, ra⟩ := ha.row (ok_of (xs := [0, 1]) (by decide))
  have RA := Lib.hid ra
  have HG2 := Lib.hid (World.grownBy.refl w2 none)
  have HS := Lib.hid (HS.out.lit.lit.kept k).less
  clear k ra ha
  go_wp2_with fail
  refine (small13_any _).mono ?_
  rintro e w3 ⟨gs3, rfl, os, _, k⟩
  have HS := Lib.hid ((HS.out.kept k).cons os)
  have HG2 := Lib.hid (grown_trans HG2.out k)
  clear os k
  go_wp2_with fail
  refine (ShutS 2 (by simp [ints]) (by simp [ints]) HS.out.lit.lit (by simp)).mono ?_
  rintro e w4 ⟨he, k⟩
  rw [H1.out, H2.out] at he
  subst he
  have HG2 := Lib.hid (grown_trans (grown_alloc (grown_alloc HG2.out _) _) k)
  have HS := Lib.hid (HS.out.lit.lit.kept k).less
  clear k
  go_wp2_with fail
  refine (small13_any _).mono ?_
  rintro e w5 ⟨gs5, rfl, os, _, k⟩
  have HS := Lib.hid ((HS.out.kept k).cons os)
  have HG2 := Lib.hid (grown_trans HG2.out k)
  clear os k
  go_wp2_with fail
  refine (ShutS 1 (by simp [ints]) (by simp [ints]) HS.out.lit.lit (by simp)).mono ?_
  rintro e w6 ⟨he, k⟩
  rw [H3.out, H4.out] at he
  subst he
  have HG2 := Lib.hid (grown_trans (grown_alloc (grown_alloc HG2.out _) _) k)
  have HS := Lib.hid (HS.out.lit.lit.kept k).less
  clear k
  go_wp2_with fail
  refine (small13_any _).mono ?_
  rintro e w7 ⟨gs7, rfl, os, _, k⟩
  have HS := Lib.hid ((HS.out.kept k).cons os)
  have HG2 := Lib.hid (grown_trans HG2.out k)
  clear os k
  go_wp2_with fail
  refine (ShutS 3 (by simp [ints]) (by simp [ints]) HS.out.lit.lit (by simp)).mono ?_
  rintro e w8 ⟨he, k⟩
  rw [H5.out, H6.out] at he
  subst he
  have HG2 := Lib.hid (grown_trans (grown_alloc (grown_alloc HG2.out _) _) k)
  have HS := Lib.hid (HS.out.lit.lit.kept k).less
  clear k
  go_wp2_with fail
  refine (SameS RA.out HS.out.lit (Nat.le_refl _) (grown_alloc HG2.out _) (by simp [ints]) rfl (by decide) (by decide)).mono ?_
  rintro e w9 ⟨rfl, k⟩
  have HS := Lib.hid (HS.out.lit.kept k).less
  clear k HG2 RA
  go_wp2_with fail
  refine (num_says _ _).mono ?_
  rintro e wa ⟨rfl, k⟩
  have HS := Lib.hid (HS.out.kept k)
  clear k
  go_wp2_with fail
  refine (num_says _ _).mono ?_
  rintro e wb ⟨rfl, k⟩
  have HS := Lib.hid (HS.out.kept k)
  clear k
  go_wp2_with fail
  refine (num_says _ _).mono ?_
  rintro e wc ⟨rfl, k⟩
  have HS := Lib.hid (HS.out.kept k)
  clear k
  go_wp2_with fail
  refine (num_says _ _).mono ?_
  rintro e wd ⟨rfl, k⟩
  have HS := Lib.hid (HS.out.kept k)
  clear k
  go_wp2
  go_ret
  exact ⟨rfl, HS.out.g⟩

end Go.Proofs.Ytppcncblmakekaa

set_option maxRecDepth 20000
namespace Go.Proofs.Ytppcncblmakekaa
open Go.RowKit

def FlRel (w : World) (V : Int) (A : Option Addr) (n c : Nat) (L : List Lk) (f : List Int) (s t : Int) (N : Nat) (i : Value) (wr : World) : Prop :=
  ∃ k : Nat, k ≤ N ∧ i = .int .i64 (k : Nat) ∧ w.grownBy wr none ∧ Own wr w.heap.size 24 [.int .i64 V, .slice A n c] ∧ (List.range k).all (restB L f s t) = true

theorem rest_src {L : List Lk} {f : List Int} {s t : Int} {k : Nat} (h : (k : Int) = s) : restB L f s t k = true := by simp [restB, h]
theorem rest_dst {L : List Lk} {f : List Int} {s t : Int} {k : Nat} (h : (k : Int) = t) : restB L f s t k = true := by simp [restB, h]
theorem rest_gain {L : List Lk} {f : List Int} {s t : Int} {k : Nat} (h : gainOf L f k = 0) : restB L f s t k = true := by simp [restB, h]
theorem rest_no {L : List Lk} {f : List Int} {s t : Int} {k : Nat} (h : ¬ (k : Int) = s) (h2 : ¬ (k : Int) = t) (h3 : ¬ gainOf L f k = 0) : restB L f s t k = false := by simp [restB, h, h2, h3]
theorem rest_more {L : List Lk} {f : List Int} {s t : Int} {k : Nat} (h : (List.range k).all (restB L f s t) = true) (e : restB L f s t k = true) : (List.range (k + 1)).all (restB L f s t) = true := by rw [range_next, h, e]; rfl

set_option maxHeartbeats 2000000 in
theorem FMay_any (V s t : Int) (A : Option Addr) (n c : Nat) (L : List Lk) (X : Option Addr) (p d : Nat) (caps : List Int) (Y : Option Addr) (q e0 : Nat) (f : List Int) (w : World) {B B' B'' : Nat} (h : Lks w B A n L) (hB : B ≤ w.heap.size) (hx : Row w B' X p caps) (hB' : B' ≤ w.heap.size) (hy : Row w B'' Y q f) (hB'' : B'' ≤ w.heap.size) :
    Calls Try.prog 43 #[.agg #[.int .i64 V, .slice A n c], .slice X p d, .slice Y q e0, .int .i64 s, .int .i64 t] w (Says w (.bool (flowB V L caps f s t))) := by
  have HL := Lib.hid h.len
  have HR := Lib.hid h
  have HY := Lib.hid hy
  have HR1 := Lib.hid (h.grown hB (grow0 w (.cells #[.int .i64 V, .slice A n c] 24)))
  have HX1 := Lib.hid (hx.grown hB' (grow0 w (.cells #[.int .i64 V, .slice A n c] 24)))
  have HY1 := Lib.hid (hy.grown hB'' (grow0 w (.cells #[.int .i64 V, .slice A n c] 24)))
  have HE : Hid (flowB V L caps f s t = (fitsF V L caps f && (isV V s && isV V t) && !(s == t) && decide (0 ≤ gainOf L f s) && (List.range V.toNat).all (restB L f s t))) := rfl
  clear h hx hy
  go_enter Try.func43, Try.ntmps43
  go_wp2_with fail
  refine (fits_any V A n c L X p d caps Y q e0 f _ HR1.out (by simp; omega) HX1.out (by simp; omega) HY1.out (by simp; omega)).mono ?_
  rintro e w1 ⟨rfl, g1⟩
  obtain ⟨g, o2⟩ := box1 [.int .i64 V, .slice A n c] g1
  obtain ⟨c0, c1⟩ := o2.two
  have G := Lib.hid g
  have O2 := Lib.hid o2
  clear g g1 o2 HR1 HX1 HY1
  cases hf : fitsF V L caps f
  · have E : Hid (flowB V L caps f s t = false) := by rw [Hid, HE.out, hf]; rfl
    clear HE hf
    go_wp2
    go_ret
    exact ⟨ret_bool E.out, G.out⟩
  rw [hf, Bool.true_and] at HE
  obtain ⟨f1, f2, f3, f4⟩ := fits_parts hf
  have hV := may_small f1
  have HMAY := Lib.hid f1
  have HCAP := Lib.hid f4
  clear hf f1 f2 f3 f4
  go_wp2_with fail
  refine (Vert2_any V s t A n c _ rfl).mono ?_
  rintro e w2 ⟨rfl, g2⟩
  have G := Lib.hid (grown_trans G.out g2)
  have O2 := Lib.hid (O2.out.kept g2)
  clear g2 c0 c1
  obtain ⟨c0, c1⟩ := O2.out.two
  cases hst : (isV V s && isV V t)
  · have E : Hid (flowB V L caps f s t = false) := by rw [Hid, HE.out, hst]; rfl
    clear HE hst
    go_wp2
    go_ret
    exact ⟨ret_bool E.out, G.out⟩
  rw [hst, Bool.true_and] at HE
  clear hst
  by_cases he : s = t
  · have E : Hid (flowB V L caps f s t = false) := by rw [Hid, HE.out, he]; simp
    clear HE
    subst he
    have q1 : (s == s) = true := by simp
    go_wp2
    go_ret
    exact ⟨ret_bool E.out, G.out⟩
  have q1 : (s == t) = false := by simp [he]
  rw [q1, Bool.not_false, Bool.true_and] at HE
  obtain ⟨N, rfl⟩ : ∃ N : Nat, V = (N : Int) := ⟨V.toNat, by omega⟩
  have HE2 : Hid (flowB (N : Int) L caps f s t = (decide (0 ≤ gainOf L f s) && (List.range N).all (restB L f s t))) := by rw [Hid, HE.out]; rfl
  have hN : N ≤ 8 := by omega
  have HS : Hid (FlRel w N A n c L f s t N (.int .i64 0) w2) := ⟨0, Nat.zero_le _, rfl, G.out, O2.out, rfl⟩
  clear HE G O2 hV
  go_wp2
  go_loopw [32] (fun i wr => FlRel w N A n c L f s t N i wr) (fun i _ => N - (intOf i).toNat)
  case atStart => exact HS.out
  case round =>
    clear HS c0 c1
    obtain ⟨k, hk, rfl, hg, ob, hall⟩ := hrel
    have G := Lib.hid hg
    have HA := Lib.hid hall
    obtain ⟨c0, c1⟩ := ob.two
    have O := Lib.hid ob
    clear hg ob hall
    by_cases hlt : k < N
    · by_cases hs : (k : Int) = s
      · have E := Lib.hid (rest_more HA.out (rest_src (L := L) (f := f) (t := t) hs))
        clear HA he
        have q2 : ((k : Int) != s) = false := by simp [hs]
        clear hs
        go_wp2
        go_roundw
        case rel => exact ⟨k + 1, by omega, by go_num, G.out, O.out, E.out⟩
        case measure => simp [intOf]; omega
      have q2 : ((k : Int) != s) = true := by simp [hs]
      by_cases ht : (k : Int) = t
      · have E := Lib.hid (rest_more HA.out (rest_dst (L := L) (f := f) (s := s) ht))
        clear HA he hs
        have q3 : ((k : Int) != t) = false := by simp [ht]
        clear ht
        go_wp2
        go_roundw
        case rel => exact ⟨k + 1, by omega, by go_num, G.out, O.out, E.out⟩
        case measure => simp [intOf]; omega
      have q3 : ((k : Int) != t) = true := by simp [ht]
      have HNS := Lib.hid hs
      have HNT := Lib.hid ht
      clear hs ht
      go_wp2_with fail
      refine (gain_any N A n c L Y q e0 f k _ (HR.out.grown hB G.out) (HY.out.grown hB'' G.out) HMAY.out HCAP.out).mono ?_
      rintro e w4 ⟨rfl, g4⟩
      have G := Lib.hid (grown_trans G.out g4)
      have O := Lib.hid (O.out.kept g4)
      clear g4 c0 c1
      by_cases hz : gainOf L f k = 0
      · have E := Lib.hid (rest_more HA.out (rest_gain (s := s) (t := t) hz))
        rw [hz]
        clear hz HA
        go_wp2
        go_roundw
        case rel => exact ⟨k + 1, by omega, by go_num, G.out, O.out, E.out⟩
        case measure => simp [intOf]; omega
      · have E : Hid (flowB N L caps f s t = false) := by
          rw [Hid, HE2.out, range_stop hlt (rest_no HNS.out HNT.out hz)]; simp
        have q4 : (gainOf L f k != 0) = true := by simp [hz]
        clear hz HE2 HA
        generalize gainOf L f k = x at *
        go_wp2
        go_ret
        exact ⟨ret_bool E.out, G.out⟩
    · obtain rfl : k = N := by omega
      have E : Hid (flowB k L caps f s t = decide (0 ≤ gainOf L f s)) := by rw [Hid, HE2.out, HA.out, Bool.and_true]
      clear HE2 HA
      go_wp2_with fail
      refine (gain_any k A n c L Y q e0 f s _ (HR.out.grown hB G.out) (HY.out.grown hB'' G.out) HMAY.out HCAP.out).mono ?_
      rintro e w4 ⟨rfl, g4⟩
      have G := Lib.hid (grown_trans G.out g4)
      clear g4 c0 c1
      by_cases hz : 0 ≤ gainOf L f s
      · have E2 : Hid (flowB k L caps f s t = true) := by rw [Hid, E.out]; simp [hz]
        clear E
        generalize gainOf L f s = x at *
        go_wp2
        go_ret
        exact ⟨ret_bool E2.out, G.out⟩
      · generalize gainOf L f s = x at *
        go_wp2
        go_ret
        exact ⟨ret_bool E.out, G.out⟩

end Go.Proofs.Ytppcncblmakekaa

set_option maxRecDepth 20000
namespace Go.Proofs.Ytppcncblmakekaa
open Go.RowKit

/-- Rows of the call's own, each apart from the others. -/
structure Fam (w : World) (base : Nat) (vs : List Value) (xs : List (List Int)) : Prop where
  len : vs.length = xs.length
  at_ : ∀ i, i < vs.length → Mine w base (vs[i]?.getD nilS) (xs[i]?.getD []).length (xs[i]?.getD [])
  apart : ∀ i j, i < vs.length → j < vs.length → i ≠ j → Apart (vs[i]?.getD nilS) (vs[j]?.getD nilS)

theorem Fam.kept {w w' : World} {base : Nat} {vs : List Value} {xs : List (List Int)} (h : Fam w base vs xs) (k : w.grownBy w' none) : Fam w' base vs xs :=
  ⟨h.len, fun i hi => (h.at_ i hi).kept k, h.apart⟩

theorem Fam.putLow {w : World} {q i base : Nat} {u : Value} {vs : List Value} {xs : List (List Int)} (h : Fam w base vs xs) (hq : q < base) : Fam (w.setCell ⟨q, i, none⟩ u) base vs xs :=
  ⟨h.len, fun i hi => (h.at_ i hi).putLow hq, h.apart⟩

theorem getD_set {α : Type} {xs : List α} {i : Nat} (hi : i < xs.length) (x d : α) (j : Nat) : (xs.set i x)[j]?.getD d = if j = i then x else xs[j]?.getD d := by
  by_cases e : j = i
  · subst e
    rw [if_pos rfl, List.getElem?_set_self hi]
    rfl
  · rw [if_neg e, List.getElem?_set_ne (fun h => e h.symm)]

theorem Fam.step {w w' : World} {base : Nat} {vs : List Value} {xs : List (List Int)} {i n : Nat} {v' : Value} {ys : List Int} (h : Fam w base vs xs) (hi : i < vs.length) (m : Mine w' base v' n ys) (k : w.grownBy w' (vs[i]?.getD nilS).ownBlock) (c : v'.ownBlock = (vs[i]?.getD nilS).ownBlock ∨ v'.ownBlock = some w.heap.size) : Fam w' base (vs.set i v') (xs.set i ys) := by
  have hl := h.len
  obtain rfl := m.len
  refine ⟨by simp [hl], fun j hj => ?_, fun j l hj hl' hne => ?_⟩
  · rw [List.length_set] at hj
    rw [getD_set hi, getD_set (by omega)]
    by_cases e : j = i
    · rw [if_pos e, if_pos e]; exact m
    · rw [if_neg e, if_neg e]
      exact (h.at_ j hj).kept' k (fun g hg e2 => h.apart i j hi hj (fun q => e q.symm) g e2 hg)
  · rw [List.length_set] at hj hl'
    rw [getD_set hi, getD_set hi]
    by_cases e : j = i
    · rw [if_pos e, if_neg (fun q => hne (e.trans q.symm))]
      exact apart_new (h.apart i l hi hl' (fun q => hne (e.trans q))) (h.at_ l hl').own_lt c
    · rw [if_neg e]
      by_cases e2 : l = i
      · rw [if_pos e2]
        exact apart_symm (apart_new (h.apart i j hi hj (fun q => e q.symm)) (h.at_ j hj).own_lt c)
      · rw [if_neg e2]
        exact h.apart j l hj hl' hne

theorem Fam.none {w : World} {base n : Nat} : Fam w base (List.replicate n nilS) (List.replicate n []) := by
  have e : ∀ i, (List.replicate n nilS)[i]?.getD nilS = nilS := fun i => by rw [List.getElem?_replicate]; split <;> rfl
  have e2 : ∀ i, (List.replicate n ([] : List Int))[i]?.getD [] = [] := fun i => by rw [List.getElem?_replicate]; split <;> rfl
  refine ⟨by simp, fun i _ => ?_, fun i j _ _ _ => ?_⟩
  · rw [e, e2]; exact Mine.nil _ _
  · rw [e, e]; exact (apart_nil _).1

theorem rooms_zero (caps f : List Int) : roomsA caps f 0 = [] := rfl
theorem opns_zero (N : Net) : opnsA N 0 = List.replicate N.V [] := by
  have : ∀ u : Int, opnA N 0 u = [] := fun u => rfl
  simp [opnsA, this, List.map_const']

/-- What stays as it was made ahead of the loop. -/
structure BgK (w : World) (N : Net) (qa gp gO B base : Nat) (A : Option Addr) (c : Nat) (Ax Ay Az : Option Addr) (ns no cx cy cz : Nat) (Am : Option Addr) (wr : World) : Prop where
  g : w.grownBy wr none
  ob : Own wr w.heap.size 24 [.int .i64 (N.V : Nat), .slice A N.n c]
  or : Own wr (w.heap.size + 1) 67 [.int .i64 0, nilS, nilS, nilS]
  oa : Own wr qa 72 [.slice Ax ns cx, .slice Ay no cy, .slice Az (2 * N.n) cz]
  hh : Row wr B Az (2 * N.n) (headsA N.ls (2 * N.n))
  lm : Row wr B Am N.V N.M
  lt : w.heap.size + 1 < qa ∧ qa < B ∧ B ≤ gp ∧ B ≤ gO ∧ gp < base ∧ gO < base ∧ gp ≠ gO
  sz : base ≤ wr.heap.size

theorem BgK.grown {w : World} {N : Net} {qa gp gO B base : Nat} {A : Option Addr} {c : Nat} {Ax Ay Az : Option Addr} {ns no cx cy cz : Nat} {Am : Option Addr} {wr w' : World} {row : Option Nat} (h : BgK w N qa gp gO B base A c Ax Ay Az ns no cx cy cz Am wr) (k : wr.grownBy w' row) (hr : ∀ g, row = some g → base ≤ g) : BgK w N qa gp gO B base A c Ax Ay Az ns no cx cy cz Am w' := by
  obtain ⟨l1, l2, l3, l4, l5, l6, l7⟩ := h.lt
  have hs := h.sz
  exact ⟨grown_none h.g k (fun g e => by have := hr g e; omega), h.ob.kept' k (fun e => by have := hr _ e; omega), h.or.kept' k (fun e => by have := hr _ e; omega), h.oa.kept' k (fun e => by have := hr _ e; omega), h.hh.grown' (by omega) k (fun g e => by have := hr g e; omega), h.lm.grown' (by omega) k (fun g e => by have := hr g e; omega), h.lt, Nat.le_trans h.sz k.size⟩

theorem Row.putHigh {w : World} {B : Nat} {A : Option Addr} {n : Nat} {xs : List Int} {g i : Nat} (h : Row w B A n xs) (hg : B ≤ g) (u : Value) : Row (w.setCell ⟨g, i, none⟩ u) B A n xs :=
  h.keep fun p hp => World.cell?_setCell_other _ _ _ _ (by intro e; subst e; simp at hp; omega)

theorem BgK.put {w : World} {N : Net} {qa gp gO B base : Nat} {A : Option Addr} {c : Nat} {Ax Ay Az : Option Addr} {ns no cx cy cz : Nat} {Am : Option Addr} {wr : World} {g i : Nat} (h : BgK w N qa gp gO B base A c Ax Ay Az ns no cx cy cz Am wr) (hg : B ≤ g) (u : Value) : BgK w N qa gp gO B base A c Ax Ay Az ns no cx cy cz Am (wr.setCell ⟨g, i, none⟩ u) := by
  obtain ⟨l1, l2, l3, l4, l5, l6, l7⟩ := h.lt
  have hs := h.sz
  exact ⟨grown_new h.g (by omega) u, h.ob.setOther (by omega) u, h.or.setOther (by omega) u, h.oa.setOther (by omega) u, h.hh.putHigh hg u, h.lm.putHigh hg u, h.lt, by simpa [World.setCell] using h.sz⟩

def BgMid (w3 : World) (t : Int) (hs : Value) (vn : Nat) (p : Value) (wx : World) : Prop :=
  ∃ gp gO, p = .pointer (some ⟨gp, 0, none⟩) ∧ w3.grownBy wx none ∧ Own wx gp 67 [.int .i64 t, hs, nilS, .slice (some ⟨gO, 0, none⟩) vn vn] ∧ Own wx gO 25 (List.replicate vn nilS) ∧ gp ≠ gO ∧ w3.heap.size ≤ gp ∧ w3.heap.size ≤ gO

def BgRel (w : World) (N : Net) (qa gp gO B base : Nat) (A : Option Addr) (c : Nat) (Ax Ay Az : Option Addr) (ns no cx cy cz : Nat) (Am : Option Addr) (i : Value) (wr : World) : Prop :=
  ∃ (k : Nat) (rA : Option Addr) (rc : Nat) (vs : List Value), k ≤ 2 * N.n ∧ i = .int .i64 (k : Nat) ∧ BgK w N qa gp gO B base A c Ax Ay Az ns no cx cy cz Am wr ∧
    Own wr gp 67 [.int .i64 N.t, .slice Az (2 * N.n) cz, .slice rA k rc, .slice (some ⟨gO, 0, none⟩) N.V N.V] ∧ Own wr gO 25 vs ∧ vs.length = N.V ∧ Fam wr base (.slice rA k rc :: vs) (roomsA N.caps N.f k :: opnsA N k)

def BgPost (w : World) (N : Net) (e : Ending) (w' : World) : Prop :=
  ∃ (Az : Option Addr) (cz : Nat) (rA : Option Addr) (rc gO B base : Nat) (vs : List Value), e = .returned (.agg #[.int .i64 N.t, .slice Az (2 * N.n) cz, .slice rA (2 * N.n) rc, .slice (some ⟨gO, 0, none⟩) N.V N.V]) ∧ w.grownBy w' none ∧
    w.heap.size ≤ gO ∧ w.heap.size ≤ base ∧ gO < base ∧ B ≤ base ∧ base ≤ w'.heap.size ∧ Own w' gO 25 vs ∧ vs.length = N.V ∧ Row w' B Az (2 * N.n) (headsA N.ls (2 * N.n)) ∧ Fam w' base (.slice rA (2 * N.n) rc :: vs) (roomsA N.caps N.f (2 * N.n) :: opnsA N (2 * N.n))

theorem Fam.head {w : World} {base : Nat} {v : Value} {vs : List Value} {x : List Int} {xs : List (List Int)} (h : Fam w base (v :: vs) (x :: xs)) : Mine w base v x.length x := h.at_ 0 (by simp)
theorem Fam.row {w : World} {base : Nat} {v : Value} {vs : List Value} {x : List Int} {xs : List (List Int)} (h : Fam w base (v :: vs) (x :: xs)) {u : Nat} (hu : u < vs.length) : Mine w base (vs[u]?.getD nilS) (xs[u]?.getD []).length (xs[u]?.getD []) ∧ Apart v (vs[u]?.getD nilS) := ⟨h.at_ (u + 1) (by simp; omega), h.apart 0 (u + 1) (by simp) (by simp; omega) (by omega)⟩
theorem Fam.step0 {w w' : World} {base n : Nat} {v v' : Value} {vs : List Value} {x y : List Int} {xs : List (List Int)} (h : Fam w base (v :: vs) (x :: xs)) (m : Mine w' base v' n y) (k : w.grownBy w' v.ownBlock) (c : v'.ownBlock = v.ownBlock ∨ v'.ownBlock = some w.heap.size) : Fam w' base (v' :: vs) (y :: xs) := h.step (i := 0) (by simp) m k c
theorem Fam.stepU {w w' : World} {base n u : Nat} {v v' : Value} {vs : List Value} {x y : List Int} {xs : List (List Int)} (h : Fam w base (v :: vs) (x :: xs)) (hu : u < vs.length) (m : Mine w' base v' n y) (k : w.grownBy w' (vs[u]?.getD nilS).ownBlock) (c : v'.ownBlock = (vs[u]?.getD nilS).ownBlock ∨ v'.ownBlock = some w.heap.size) : Fam w' base (v :: vs.set u v') (x :: xs.set u y) := h.step (i := u + 1) (by simp; omega) m k c

/-- Begun: a pusher in memory. -/
theorem Pst.first {w : World} {N : Net} (ok : N.Ok) {Az : Option Addr} {cz : Nat} {rA : Option Addr} {rc gO B base : Nat} {vs : List Value} (h1 : gO < base) (h2 : B ≤ base) (h3 : base ≤ w.heap.size) (oo : Own w gO 25 vs) (hv : vs.length = N.V) (hh : Row w B Az (2 * N.n) (headsA N.ls (2 * N.n))) (fa : Fam w base (.slice rA (2 * N.n) rc :: vs) (roomsA N.caps N.f (2 * N.n) :: opnsA N (2 * N.n))) :
    Pst (w.alloc (.cells #[.int .i64 N.t, .slice Az (2 * N.n) cz, .slice rA (2 * N.n) rc, .slice (some ⟨gO, 0, none⟩) N.V N.V] 67)) N w.heap.size gO base Az cz rA rc vs (roomsA N.caps N.f (2 * N.n)) (opnsA N (2 * N.n)) := by
  have k := grow0 w (.cells #[.int .i64 N.t, .slice Az (2 * N.n) cz, .slice rA (2 * N.n) rc, .slice (some ⟨gO, 0, none⟩) N.V N.V] 67)
  have h8 := may_small ok.may
  rw [ok.hl] at h8
  have hr := fa.head
  rw [rooms_len] at hr
  have hsz : (w.alloc (.cells #[.int .i64 N.t, .slice Az (2 * N.n) cz, .slice rA (2 * N.n) rc, .slice (some ⟨gO, 0, none⟩) N.V N.V] 67)).heap.size = w.heap.size + 1 := by simp
  have hb : ∀ g, rBlk rA = some g → base ≤ g ∧ g < w.heap.size := by
    intro g hg
    rcases hr.2 with ⟨e, _⟩ | ⟨g', cap, cur, e, b1, b2, _⟩
    · injection e with e1 _ _
      subst e1
      simp [rBlk] at hg
    · injection e with e1 _ _
      subst e1
      simp only [rBlk, Option.map_some, Option.some.injEq] at hg
      subst hg
      exact ⟨b1, (Array.getElem?_eq_some_iff.1 b2).1⟩
  refine ⟨Own.new w _ [_, _, _, _], oo.kept k, hv, (hh.grown (by omega) k).wide (by omega), fun hn a ha e => ?_, hr.kept k, fun e => ?_, fun e => ?_, ?_, fun u hu => ?_⟩
  · obtain ⟨b, off, hA, hb2, _⟩ := hh.at_ hn
    rw [ha] at hA
    have hA := Option.some.inj hA
    subst hA
    have := (hb _ e).1
    simp at this
    omega
  · have := (hb _ e).2; omega
  · have := (hb _ e).1; omega
  · have := oo.lt; omega
  · obtain ⟨m, ap⟩ := fa.row (u := u) (by omega)
    have eo : oAt (opnsA N (2 * N.n)) (u : Int) = (opnsA N (2 * N.n))[u]?.getD [] := rfl
    have hok : okI ((opnsA N (2 * N.n))[u]?.getD []) := by
      rw [opns_at hu]
      refine get_ok fun x hx => ?_
      obtain ⟨a, rfl, ha, _⟩ := opn_mem.1 hx
      omega
    obtain ⟨A, c, hv2, hc, _, hr2⟩ := m.rowN hok
    refine ⟨A, c, ?_, ?_, ?_, fun hn a ha e => ?_⟩
    · rw [eo, ← hv2, List.getElem?_eq_getElem (by omega)]; rfl
    · rw [eo]; exact hc
    · rw [eo]; exact (hr2.grown (Nat.le_refl _) k).wide (by omega)
    · rw [eo] at hn
      rw [hv2] at ap
      rw [hv2] at m
      obtain ⟨g2, hg2, _⟩ := m.at0 hn
      subst ha
      have hg2 := Option.some.inj hg2
      subst hg2
      cases rA with
      | none => simp [rBlk] at e
      | some ra =>
        rcases hr.2 with ⟨e', _⟩ | ⟨g', cap, cur, e', _⟩
        · cases e'
        · injection e' with e1 _ _
          have e1 := Option.some.inj e1
          subst e1
          simp only [rBlk, Option.map_some, Option.some.injEq] at e
          subst e
          exact ap g' rfl rfl

end Go.Proofs.Ytppcncblmakekaa

set_option maxRecDepth 20000
namespace Go.Proofs.Ytppcncblmakekaa
open Go.RowKit

def FlowPost (w : World) (xs : List Int) (e : Ending) (w' : World) : Prop :=
  ∃ v, e = .returned v ∧ Mine w' w.heap.size v xs.length xs ∧ w.grownBy w' none

def FlowRel (w : World) (m : Nat) (R : List Int) (o i : Value) (wr : World) : Prop :=
  ∃ k : Nat, k ≤ m ∧ i = .int .i64 (k : Nat) ∧ w.grownBy wr none ∧ Mine wr w.heap.size o (k / 2) (bOf R (k / 2))

theorem bOf_next (R : List Int) (k : Nat) : bOf R (k + 1) = bOf R k ++ [rAt R (2 * k + 1)] := by simp [bOf, List.range_succ]

set_option maxRecDepth 20000 in
set_option maxHeartbeats 1000000 in
theorem flow_any (q n rc : Nat) (t : Int) (hs os : Value) (rA : Option Addr) (R : List Int) (w : World) {B : Nat} (hq : Own w q 67 [.int .i64 t, hs, .slice rA (2 * n) rc, os]) (hr : Row w B rA (2 * n) R) (hn : n ≤ 16) :
    Calls Try.prog 46 #[.pointer (some ⟨q, 0, none⟩)] w (FlowPost w (bOf R n)) := by
  obtain ⟨c0, c1, c2, c3⟩ := hq.four
  have HR := Lib.hid hr
  clear hq hr c0 c1 c3
  obtain ⟨m, hm⟩ : ∃ m, 2 * n = m := ⟨_, rfl⟩
  have HM := Lib.hid hm
  rw [hm] at c2 HR
  have hm1 : m ≤ 32 := by omega
  clear hm hn
  have HS : Hid (FlowRel w m R (.slice none 0 0) (.int .i64 0) w) := ⟨0, Nat.zero_le _, rfl, World.grownBy.refl w _, Mine.nil _ _⟩
  go_enter Try.func46, Try.ntmps46
  go_wp2
  go_loopw [3, 11] (fun o i wr => FlowRel w m R o i wr) (fun _ i _ => m - (intOf i).toNat)
  case atStart => exact HS.out
  case round =>
    clear HS
    obtain ⟨k, hk, rfl, hg, hmine⟩ := hrel
    have G := Lib.hid hg
    have HM1 := Lib.hid hmine
    have hsz := hg.size
    clear hg hmine
    by_cases hlt : k < m
    · obtain ⟨b, off, rfl, hb, hcell⟩ := HR.out.at_ (by omega)
      have d0 := kept G.out (hcell k hlt)
      have D0 : Hid (R[k]?.getD 0 = rAt R k) := rfl
      have okk := HR.out.ok k
      clear hcell
      generalize R[k]?.getD 0 = x at *
      rcases Nat.mod_two_eq_zero_or_one k with e | e
      · have hmod : ((k : Nat) : Int).tmod 2 = 0 := by rw [Int.tmod_eq_emod_of_nonneg (by omega)]; omega
        have HD : Hid ((k + 1) / 2 = k / 2) := by rw [Hid]; omega
        clear e
        go_wp2
        go_roundw
        case rel => exact ⟨k + 1, by omega, by go_num, G.out, by rw [HD.out]; exact HM1.out⟩
        case measure => simp [intOf]; omega
      · have hmod : ((k : Nat) : Int).tmod 2 = 1 := by rw [Int.tmod_eq_emod_of_nonneg (by omega)]; omega
        have HD : Hid ((k + 1) / 2 = k / 2 + 1) := by rw [Hid]; omega
        have HB : Hid (bOf R (k / 2 + 1) = bOf R (k / 2) ++ [x]) := by rw [Hid, bOf_next, show 2 * (k / 2) + 1 = k by omega, ← D0.out]
        have h2 : k / 2 ≤ 16 := by omega
        clear e
        generalize hh : k / 2 = kh at *
        clear hh
        have HM2 := Lib.hid (HM1.out.kept (grow0 _ (.cells #[.int .i64 x] 3)))
        have HROW := Lib.hid (Row.newAt (w := wr) (g := wr.heap.size) (n := 1) (vs := #[.int .i64 x]) [x] (by simp) rfl rfl (by simp) (by simp; omega))
        go_wp2_with (first | (at_builtin; refine wpList_app _ rfl _ _ rfl w.heap.size _ _ _ rfl HM2.out _ 1 1 [x] rfl HROW.out (by simp) (by omega) (by simp; omega) ?_))
        intro v1 w3 hm1 hg3 _
        have G3 := Lib.hid (grown_none (grown_alloc G.out (.cells #[.int .i64 x] 3)) hg3 (fun g hg => HM1.out.own_ge g hg))
        have HM3 := Lib.hid hm1
        clear hm1 hg3
        go_wp2
        go_roundw
        case rel => exact ⟨k + 1, by omega, by go_num, G3.out, by rw [HD.out, HB.out]; exact HM3.out⟩
        case measure => simp [intOf]; omega
    · obtain rfl : k = m := by omega
      have HN : Hid (k / 2 = n) := by rw [Hid, ← HM.out]; omega
      go_wp2
      go_ret
      have hf := HM1.out
      rw [HN.out] at hf
      exact ⟨_, rfl, by rw [bOf_len]; exact hf, G.out⟩

end Go.Proofs.Ytppcncblmakekaa

set_option maxRecDepth 20000
namespace Go.Proofs.Ytppcncblmakekaa
open Go.RowKit

def MadeAt (vn : Nat) (w w' : World) : Prop := (Instr.makeSlice 58 (.int .i64 (vn : Nat)) (.int .i64 (vn : Nat))).run Try.prog w = .ok (.slice (some ⟨w.heap.size, 0, none⟩) vn vn) w' ∧ Own w' w.heap.size 25 (List.replicate vn nilS) ∧ w.grownBy w' none

theorem SemMake (vn : Nat) (hv : vn ≤ 8) : ∃ mk : World → World, ∀ w : World, MadeAt vn w (mk w) := by
  refine (Classical.skolem (p := MadeAt vn)).1 fun w => ?_
  obtain ⟨i0, hi, hz0, hz1, hz2⟩ := info_parts info25
  obtain ⟨w6, hrun, hmk, k6⟩ := run_make_full (P := Try.prog) w w.heap.size 58 25 i0 (.slice none 0 0) 1 Try.underlying58 hi hz0 hz1 .i64 .i64 vn (by rw [hz2]; omega) (by unfold maxLen; omega) (Nat.le_refl _)
  rw [show (Value.slice none 0 0).cells = #[Value.slice none 0 0] from rfl, Nat.mul_one, toList_madeCells_one] at hmk
  exact ⟨w6, hrun, Own.of_made hmk, k6⟩

theorem Own.put4 {w : World} {g : Nat} {T : TypeId} {x y z u : Value} (h : Own w g T [x, y, z, u]) (a b c d : Value) :
    Own ((((w.setCell ⟨g, 0, none⟩ a).setCell ⟨g, 1, none⟩ b).setCell ⟨g, 2, none⟩ c).setCell ⟨g, 3, none⟩ d) g T [a, b, c, d] :=
  (((h.put (i := 0) a).put (i := 1) b).put (i := 2) c).put (i := 3) d

/-- What a round reads of what stays. -/
theorem BgK.cells {w : World} {N : Net} {qa gp gO B base : Nat} {A : Option Addr} {c : Nat} {Ax Ay : Option Addr} {ns no cx cy cz : Nat} {bh offh bm offm : Nat} {wr : World} (h : BgK w N qa gp gO B base A c Ax Ay (some ⟨bh, offh, none⟩) ns no cx cy cz (some ⟨bm, offm, none⟩) wr) {k tl hd : Nat} (hk : k < 2 * N.n) (ht : N.tl k = (tl : Int)) (hh : N.hd k = (hd : Int)) (h1 : tl < N.V) (h2 : hd < N.V) :
    (wr.cell? ⟨bh, offh + k, none⟩ = some (.int .i64 (hd : Nat)) ∧ wr.cell? ⟨bh, offh + flipN k, none⟩ = some (.int .i64 (tl : Nat))) ∧ (wr.cell? ⟨bm, offm + tl, none⟩ = some (.int .i64 (N.lev (tl : Int))) ∧ wr.cell? ⟨bm, offm + hd, none⟩ = some (.int .i64 (N.lev (hd : Int)))) ∧
      wr.cell? ⟨w.heap.size, 0, none⟩ = some (.int .i64 (N.V : Nat)) ∧ wr.cell? ⟨w.heap.size, 1, none⟩ = some (.slice A N.n c) ∧ wr.cell? ⟨qa, 2, none⟩ = some (.slice (some ⟨bh, offh, none⟩) (2 * N.n) cz) := by
  have d1 := h.hh.cellAt hk
  have d2 := h.hh.cellAt (flip_lt hk)
  rw [heads_at N.ls _ k hk, show headOf N.ls k = (hd : Int) from hh] at d1
  rw [heads_at N.ls _ _ (flip_lt hk), flip_head, show tailOf N.ls k = (tl : Int) from ht] at d2
  exact ⟨⟨d1, d2⟩, ⟨h.lm.cellAt h1, h.lm.cellAt h2⟩, h.ob.two.1, h.ob.two.2, h.oa.three.2.2⟩

theorem results_push {fn : Func} {t : Tmp} (h : fn.results = #[.cell t 67]) (tmps : Array Value) (w : World) {g : Nat} {x y z u : Value} (hp : tmps[t]?.getD undef = .pointer (some ⟨g, 0, none⟩))
   (c0 : w.cell? ⟨g, 0, none⟩ = some x) (c1 : w.cell? ⟨g, 1, none⟩ = some y) (c2 : w.cell? ⟨g, 2, none⟩ = some z) (c3 : w.cell? ⟨g, 3, none⟩ = some u) :
    (results fn tmps).run Try.prog w = .ok (.agg #[x, y, z, u]) w := by
  simp [results, h, hp, c0, c1, c2, c3, go_sem]

theorem post_push {fn : Func} {t : Tmp} {R : Ending → World → Prop} {a : Act} {w : World} (h : fn.results = #[.cell t 67]) {g : Nat} {x y z u : Value} (hp : a.tmps[t]?.getD undef = .pointer (some ⟨g, 0, none⟩))
   (o : Own w g 67 [x, y, z, u]) (hd : a.defers = []) (hR : R (.returned (.agg #[x, y, z, u])) w) : bodyPost Try.prog fn R .ret a w :=
  bodyPost_ret (results_push h a.tmps w hp o.four.1 o.four.2.1 o.four.2.2.1 o.four.2.2.2) hd hR

theorem bg_end {w : World} {N : Net} {qa gp gO B base : Nat} {A : Option Addr} {c : Nat} {Ax Ay Az : Option Addr} {ns no cx cy cz : Nat} {Am : Option Addr} {wr : World} (h : BgK w N qa gp gO B base A c Ax Ay Az ns no cx cy cz Am wr) {rA : Option Addr} {rc : Nat} {vs : List Value} (oo : Own wr gO 25 vs) (hv : vs.length = N.V) (fa : Fam wr base (.slice rA (2 * N.n) rc :: vs) (roomsA N.caps N.f (2 * N.n) :: opnsA N (2 * N.n))) (hz : OffR Az (2 * N.n) (some (w.heap.size + 1))) (x y z u : Value) :
    BgPost w N (.returned (.agg #[.int .i64 N.t, .slice Az (2 * N.n) cz, .slice rA (2 * N.n) rc, .slice (some ⟨gO, 0, none⟩) N.V N.V])) ((((wr.setCell ⟨w.heap.size + 1, 0, none⟩ x).setCell ⟨w.heap.size + 1, 1, none⟩ y).setCell ⟨w.heap.size + 1, 2, none⟩ z).setCell ⟨w.heap.size + 1, 3, none⟩ u) := by
  obtain ⟨l1, l2, l3, l4, l5, l6, l7⟩ := h.lt
  have hs := h.sz
  have hl : w.heap.size ≤ w.heap.size + 1 := by omega
  have hlb : w.heap.size + 1 < base := by omega
  have hne : ¬ w.heap.size + 1 = gO := by omega
  refine ⟨Az, cz, rA, rc, gO, B, base, vs, rfl, grown_new (grown_new (grown_new (grown_new h.g hl _) hl _) hl _) hl _, by omega, by omega, by omega, by omega, by simpa [World.setCell] using hs, (((oo.setOther hne _).setOther hne _).setOther hne _).setOther hne _, hv, (((h.hh.setOther hz _).setOther hz _).setOther hz _).setOther hz _, (((fa.putLow hlb).putLow hlb).putLow hlb).putLow hlb⟩

def BgIf (w8 : World) (k : Nat) (p : Bool) (i b : Value) (wx : World) : Prop := i = .int .i64 (k : Nat) ∧ b = .bool p ∧ w8.grownBy wx none

theorem bg_mid1 {w4 : World} {mk : World → World} {vn : Nat} {t : Int} {hs : Value} (h : ∀ w, MadeAt vn w (mk w)) :
    BgMid w4 t hs vn (.pointer (some ⟨(mk w4.drew).heap.size, 0, none⟩)) ((mk w4.drew).alloc (.cells #[.int .i64 t, hs, .slice none 0 0, .slice (some ⟨w4.heap.size, 0, none⟩) vn vn] 67)) := by
  obtain ⟨_, h2, h3⟩ := h w4.drew
  have hl := h2.lt
  have hl2 : w4.heap.size < (mk w4.drew).heap.size := hl
  exact ⟨_, w4.heap.size, rfl, grown_trans (grown_undrew h3) (grow0 _ _), Own.new _ _ [_, _, _, _], h2.alloc _, by omega, by omega, Nat.le_refl _⟩

theorem bg_mid2 {w4 : World} {mk : World → World} {vn : Nat} {t : Int} {hs : Value} {o : List Value} (h : ∀ w, MadeAt vn w (mk w)) (ho : o = [.int .i64 0, .slice none 0 0, .slice none 0 0, .slice none 0 0]) :
    BgMid w4 t hs vn (.pointer (some ⟨w4.heap.size, 0, none⟩)) (((((mk (w4.alloc (.cells o.toArray 67)).drew).setCell ⟨w4.heap.size, 0, none⟩ (.int .i64 t)).setCell ⟨w4.heap.size, 1, none⟩ hs).setCell ⟨w4.heap.size, 2, none⟩ (.slice none 0 0)).setCell ⟨w4.heap.size, 3, none⟩ (.slice (some ⟨w4.heap.size + 1, 0, none⟩) vn vn)) := by
  subst ho
  obtain ⟨_, h2, h3⟩ := h (w4.alloc (.cells [.int .i64 0, .slice none 0 0, .slice none 0 0, .slice none 0 0].toArray 67)).drew
  have e : (w4.alloc (.cells [.int .i64 0, .slice none 0 0, .slice none 0 0, .slice none 0 0].toArray 67)).drew.heap.size = w4.heap.size + 1 := by
    show (w4.alloc _).heap.size = _
    simp
  rw [e] at h2
  have o1 := (Own.new w4 67 [.int .i64 0, .slice none 0 0, .slice none 0 0, .slice none 0 0]).kept (grown_trans (grown_drew (World.grownBy.refl _ none)) h3)
  refine ⟨w4.heap.size, w4.heap.size + 1, rfl, grown_new (grown_new (grown_new (grown_new (grown_trans (grow0 _ _) (grown_trans (grown_drew (World.grownBy.refl _ none)) h3)) (Nat.le_refl _) _) (Nat.le_refl _) _) (Nat.le_refl _) _) (Nat.le_refl _) _, o1.put4 _ _ _ _, ?_, by omega, Nat.le_refl _, by omega⟩
  exact (((h2.setOther (by omega) _).setOther (by omega) _).setOther (by omega) _).setOther (by omega) _

set_option maxRecDepth 20000 in
set_option maxHeartbeats 4000000 in
theorem bbegin_any (N : Net) (ok : N.Ok) (A : Option Addr) (c : Nat) (X : Option Addr) (m d : Nat) (Y : Option Addr) (r e0 : Nat) (w : World) {B B' B'' : Nat} (h : Lks w B A N.n N.ls) (hB : B ≤ w.heap.size) (hx : Row w B' X m N.caps) (hB' : B' ≤ w.heap.size) (hy : Row w B'' Y r N.f) (hB'' : B'' ≤ w.heap.size) :
    Calls Try.prog 44 #[.agg #[.int .i64 (N.V : Nat), .slice A N.n c], .slice X m d, .slice Y r e0, .int .i64 N.s, .int .i64 N.t] w (BgPost w N) := by
  have OK := Lib.hid ok
  have h8 := may_small ok.may
  rw [ok.hl] at h8
  have HR := Lib.hid h
  have HX := Lib.hid hx
  have HY := Lib.hid hy
  have HLV : Hid (LvIs (N.V : Nat) N.ls N.caps N.f N.s N.M 0) := lev_yes (by obtain ⟨h1, h2, _⟩ := flow_parts ok.flow; rw [lvB, h1, Bool.true_and]; exact isV_yes h2.1 h2.2) ok.hl ok.lv
  have OKM := Lib.hid (lvIs_okI HLV.out).1
  obtain ⟨okS', okO', okH'⟩ := may_ok ok.may ok.hl
  have okS := Lib.hid okS'
  have okO := Lib.hid okO'
  have okH := Lib.hid okH'
  have hls := starts_len N.ls N.n (N.V + 1)
  have hlh := heads_len N.ls (2 * N.n)
  have HML := Lib.hid ok.lv.len
  obtain ⟨mk, hmk⟩ := SemMake N.V (by omega)
  have MK := Lib.hid hmk
  have mkr : ∀ w : World, (Instr.makeSlice 58 (.int .i64 (N.V : Nat)) (.int .i64 (N.V : Nat))).run Try.prog w = .ok (.slice (some ⟨w.heap.size, 0, none⟩) N.V N.V) (mk w) := fun w => (hmk w).1
  clear h hx hy ok okS' okO' okH' hmk
  go_enter Try.func44, Try.ntmps44
  go_upto_region 1 with fail
  have OB := Lib.hid ((Own.new w 24 [.int .i64 (N.V : Nat), .slice A N.n c]).alloc (.cells #[.int .i64 0, .slice none 0 0, .slice none 0 0, .slice none 0 0] 67))
  have OR := Lib.hid (Own.new (w.alloc (.cells #[.int .i64 (N.V : Nat), .slice A N.n c] 24)) 67 [.int .i64 0, .slice none 0 0, .slice none 0 0, .slice none 0 0])
  have G := Lib.hid (grown_trans (grow0 w (.cells #[.int .i64 (N.V : Nat), .slice A N.n c] 24)) (grow0 _ (.cells #[.int .i64 0, .slice none 0 0, .slice none 0 0, .slice none 0 0] 67)))
  have hs0 : (w.alloc (.cells #[.int .i64 (N.V : Nat), .slice A N.n c] 24)).heap.size = w.heap.size + 1 := by simp
  rw [hs0] at OR
  have hs1 : ((w.alloc (.cells #[.int .i64 (N.V : Nat), .slice A N.n c] 24)).alloc (.cells #[.int .i64 0, .slice none 0 0, .slice none 0 0, .slice none 0 0] 67)).heap.size = w.heap.size + 2 := by simp
  clear hs0
  generalize (w.alloc (.cells #[.int .i64 (N.V : Nat), .slice A N.n c] 24)).alloc (.cells #[.int .i64 0, .slice none 0 0, .slice none 0 0, .slice none 0 0] 67) = w0 at *
  obtain ⟨p0, p1⟩ := OB.out.two
  go_wp2_with fail
  refine (Build_may N.V A N.n c N.ls _ (HR.out.grown hB G.out) (by have := G.out.size; omega) OK.out.may).mono ?_
  rintro e w2 ⟨x, y, z, rfl, ta, k⟩
  obtain ⟨Ax, cx, rfl, _, _, _⟩ := ta.S.rowN okS.out
  obtain ⟨Ay, cy, rfl, _, _, _⟩ := ta.O.rowN okO.out
  obtain ⟨Az, cz, rfl, _, _, rH⟩ := ta.H.rowN okH.out
  have HOZ : Hid (OffR Az (2 * N.n) (some (w.heap.size + 1))) := by
    intro hn a ha e
    have hH := ta.H
    rw [hlh] at hH
    obtain ⟨g, hg, hb⟩ := hH.at0 hn
    rw [ha] at hg
    have hg := Option.some.inj hg
    subst hg
    injection e with e
    simp at e
    omega
  rw [hls, hlh]
  rw [hlh] at rH
  clear ta
  generalize (ordA N.ls N.n N.V).length = no at *
  have s2 := k.size
  have k2 := grown_trans k (grow0 w2 (.cells #[.slice Ax (N.V + 1) cx, .slice Ay no cy, .slice Az (2 * N.n) cz] 72))
  have G := Lib.hid (grown_trans G.out k2)
  have OB := Lib.hid (OB.out.kept k2)
  have OR := Lib.hid (OR.out.kept k2)
  have OA := Lib.hid (Own.new w2 72 [.slice Ax (N.V + 1) cx, .slice Ay no cy, .slice Az (2 * N.n) cz])
  have RH := Lib.hid (rH.grown (Nat.le_refl _) (grow0 w2 (.cells #[.slice Ax (N.V + 1) cx, .slice Ay no cy, .slice Az (2 * N.n) cz] 72)))
  clear k k2 rH p0 p1
  go_upto_region 2 with fail
  have hs2 : (w2.alloc (.cells #[.slice Ax (N.V + 1) cx, .slice Ay no cy, .slice Az (2 * N.n) cz] 72)).heap.size = w2.heap.size + 1 := by simp
  obtain ⟨qa, hqa⟩ : ∃ qa, w2.heap.size = qa := ⟨_, rfl⟩
  rw [hqa] at OA hs2 s2
  generalize w2.alloc (.cells #[.slice Ax (N.V + 1) cx, .slice Ay no cy, .slice Az (2 * N.n) cz] 72) = w3 at *
  obtain ⟨p0, p1⟩ := OB.out.two
  go_wp2_with fail
  refine (Levels_is (N.V : Nat) N.s A N.n c N.ls X m d N.caps Y r e0 N.f _ (HR.out.grown hB G.out) (by have := G.out.size; omega) (HX.out.grown hB' G.out) (by have := G.out.size; omega) (HY.out.grown hB'' G.out) (by have := G.out.size; omega) N.M 0 HLV.out).mono ?_
  rintro e w4 ⟨v4, rfl, m4, k4⟩
  obtain ⟨Am, cm, rfl, _, _, rM⟩ := m4.rowN OKM.out
  rw [HML.out]
  have s4 := k4.size
  have G := Lib.hid (grown_trans G.out k4)
  have OB := Lib.hid (OB.out.kept k4)
  have OR := Lib.hid (OR.out.kept k4)
  have OA := Lib.hid (OA.out.kept k4)
  have RH := Lib.hid (RH.out.grown (by omega) k4)
  have RM := Lib.hid rM
  rw [HML.out] at RM
  clear k4 m4 rM p0 p1
  go_upto_region 3 with fail
  have HS : Hid (w4.cell? ⟨qa, 2, none⟩ = some (.slice Az (2 * N.n) cz) ∧ w4.cell? ⟨w.heap.size, 0, none⟩ = some (.int .i64 (N.V : Nat))) := ⟨OA.out.three.2.2, OB.out.two.1⟩
  obtain ⟨a2, p0⟩ := HS.out
  have HSa : Hid (∀ (wx : World) (o : Obj), wx.cell? ⟨qa, 2, none⟩ = some (.slice Az (2 * N.n) cz) ∧ wx.cell? ⟨w.heap.size, 0, none⟩ = some (.int .i64 (N.V : Nat)) → (wx.alloc o).cell? ⟨qa, 2, none⟩ = some (.slice Az (2 * N.n) cz) ∧ (wx.alloc o).cell? ⟨w.heap.size, 0, none⟩ = some (.int .i64 (N.V : Nat))) := fun wx o h => ⟨kept (grow0 _ _) h.1, kept (grow0 _ _) h.2⟩
  have HSm : Hid (∀ (wx : World), wx.cell? ⟨qa, 2, none⟩ = some (.slice Az (2 * N.n) cz) ∧ wx.cell? ⟨w.heap.size, 0, none⟩ = some (.int .i64 (N.V : Nat)) → (mk wx).cell? ⟨qa, 2, none⟩ = some (.slice Az (2 * N.n) cz) ∧ (mk wx).cell? ⟨w.heap.size, 0, none⟩ = some (.int .i64 (N.V : Nat))) := fun wx h => ⟨kept (MK.out wx).2.2 h.1, kept (MK.out wx).2.2 h.2⟩
  go_cut [15] (fun p wx => BgMid w4 N.t (.slice Az (2 * N.n) cz) N.V p wx)
  case first =>
    have OQ := Lib.hid ((Own.new w4 67 [.int .i64 0, .slice none 0 0, .slice none 0 0, .slice none 0 0]).kept (grown_trans (grown_drew (World.grownBy.refl _ none)) (MK.out (w4.alloc (.cells #[.int .i64 0, .slice none 0 0, .slice none 0 0, .slice none 0 0] 67)).drew).2.2))
    obtain ⟨b0, b1, b2, b3⟩ := OQ.out.four
    have f0 := OQ.out.frozen 0
    have f1 := OQ.out.frozen 1
    have f2 := OQ.out.frozen 2
    have f3 := OQ.out.frozen 3
    obtain ⟨x0, x1⟩ := HSa.out w4 (.cells #[.int .i64 0, .slice none 0 0, .slice none 0 0, .slice none 0 0] 67) HS.out
    obtain ⟨x2, x3⟩ := HSm.out w4.drew HS.out
    obtain ⟨x4, x5⟩ := HSm.out (w4.alloc (.cells #[.int .i64 0, .slice none 0 0, .slice none 0 0, .slice none 0 0] 67)).drew (HSa.out w4 _ HS.out)
    obtain ⟨x6, x7⟩ := HSa.out (mk w4.drew) (.cells #[.int .i64 0, .slice none 0 0, .slice none 0 0, .slice none 0 0] 67) (HSm.out w4.drew HS.out)
    go_region_law (first | fail)
    all_goals go_wp2_with fail
    all_goals go_meet
    all_goals first
      | exact bg_mid1 MK.out
      | exact bg_mid2 (o := [.int .i64 0, .slice none 0 0, .slice none 0 0, .slice none 0 0]) MK.out rfl
  case rest =>
    obtain ⟨gp, gO, rfl, kx, op, oo, hne, g1, g2⟩ := hcut
    have G := Lib.hid (grown_trans G.out kx)
    have OB := Lib.hid (OB.out.kept kx)
    have OR := Lib.hid (OR.out.kept kx)
    have OA := Lib.hid (OA.out.kept kx)
    have RH := Lib.hid (RH.out.grown (B := w2.heap.size) (by omega) kx)
    have RM := Lib.hid (RM.out.grown (Nat.le_refl _) kx)
    have l1 := op.lt
    have l2 := oo.lt
    have HS2 : Hid (BgRel w N qa gp gO w4.heap.size wc.heap.size A c Ax Ay Az (N.V + 1) no cx cy cz Am (.int .i64 0) wc) := by
      refine ⟨0, none, 0, _, Nat.zero_le _, rfl, ⟨G.out, OB.out, OR.out, OA.out, RH.out.wide (by omega), RM.out, ⟨by omega, by omega, g1, g2, l1, l2, hne⟩, Nat.le_refl _⟩, op, oo, by simp, ?_⟩
      rw [rooms_zero, opns_zero]
      exact Fam.none (n := N.V + 1)
    obtain ⟨m2, hm2⟩ : ∃ m2, 2 * N.n = m2 := ⟨_, rfl⟩
    have HM2 := Lib.hid hm2
    have a2 := OA.out.three.2.2
    rw [hm2] at a2
    have hm32 : m2 ≤ 32 := by omega
    clear hm2 kx op oo G OB OR OA RH RM HS HSa HSm p0
    go_upto_region 4 with fail
    go_wp2
    go_loopw [44] (fun i wr => BgRel w N qa gp gO w4.heap.size wc.heap.size A c Ax Ay Az (N.V + 1) no cx cy cz Am i wr) (fun i _ => m2 - (intOf i).toNat)
    case atStart => exact HS2.out
    case round =>
      clear HS2 a2
      obtain ⟨B0, hB0⟩ : ∃ B0, w4.heap.size = B0 := ⟨_, rfl⟩
      obtain ⟨base, hbase⟩ : ∃ base, wc.heap.size = base := ⟨_, rfl⟩
      rw [hB0, hbase] at hrel
      obtain ⟨k, rA, rc, vs, hk, rfl, keep, op, oo, hvl, fam⟩ := hrel
      have KEEP := Lib.hid keep
      have OP := Lib.hid op
      have OO := Lib.hid oo
      have FAM := Lib.hid fam
      rw [HM2.out] at hk
      obtain ⟨r1, r2, r3, r4, r5, r6, r7⟩ := keep.lt
      have hsz := keep.sz
      obtain ⟨p0, p1⟩ := keep.ob.two
      have a2 := keep.oa.three.2.2
      obtain ⟨q0, q1, q2, q3⟩ := op.four
      rw [HM2.out] at a2 q1
      clear keep op oo fam
      by_cases hlt : k < m2
      · obtain ⟨bh, offh, hAz, _, _⟩ := KEEP.out.hh.at_ (by rw [HM2.out]; omega)
        subst hAz
        obtain ⟨bm, offm, hAm, _, _⟩ := KEEP.out.lm.at_ (by omega)
        subst hAm
        have HK2 : Hid (k < 2 * N.n) := by rw [Hid, HM2.out]; exact hlt
        obtain ⟨t0, t1⟩ := OK.out.tl_in HK2.out
        obtain ⟨u0, u1⟩ := OK.out.hd_in HK2.out
        have bt := OK.out.lv.bd (N.tl k) ⟨t0, t1⟩
        have bu := OK.out.lv.bd (N.hd k) ⟨u0, u1⟩
        obtain ⟨tl, htl⟩ : ∃ tl : Nat, N.tl k = (tl : Int) := ⟨(N.tl k).toNat, by omega⟩
        obtain ⟨hd, hhd⟩ : ∃ hd : Nat, N.hd k = (hd : Int) := ⟨(N.hd k).toNat, by omega⟩
        rw [htl] at t1 bt
        rw [hhd] at u1 bu
        have htv : tl < N.V := by omega
        have hhv : hd < N.V := by omega
        have HTL := Lib.hid htl
        have HHD := Lib.hid hhd
        have CELLS : Hid (∀ wr', BgK w N qa gp gO B0 base A c Ax Ay (some ⟨bh, offh, none⟩) (N.V + 1) no cx cy cz (some ⟨bm, offm, none⟩) wr' → _) := fun wr' h => BgK.cells h HK2.out htl hhd htv hhv
        have rbd := (pi_first OK.out).1.bd OK.out HK2.out
        rw [rooms_at HK2.out] at rbd
        have HST : Hid (N.stp k ↔ 0 < roomI N.caps N.f (k : Int) ∧ 0 ≤ N.lev (tl : Int) ∧ N.lev (hd : Int) = N.lev (tl : Int) + 1) := by
          rw [Hid, ← htl, ← hhd]
          exact Iff.rfl
        have HRN : Hid (roomsA N.caps N.f k ++ [roomI N.caps N.f (k : Int)] = roomsA N.caps N.f (k + 1)) := (rooms_next N.caps N.f k).symm
        have hfl := flip_lt HK2.out
        rw [HM2.out] at hfl
        have CP := Lib.hid (pair_any k)
        obtain ⟨⟨d1, d2⟩, _, _, _, _⟩ := CELLS.out wr KEEP.out
        have hr0 := rbd.1
        have hr1 : roomI N.caps N.f (k : Int) ≤ 4611686018427387904 := by omega
        clear htl hhd rbd t0 u0
        go_wp2_with fail
        refine (SRoom_yes N.V (k : Nat) A N.n c N.ls X m d N.caps Y r e0 N.f _ (HR.out.grown hB KEEP.out.g) (by have := KEEP.out.g.size; omega) (HX.out.grown hB' KEEP.out.g) (by have := KEEP.out.g.size; omega) (HY.out.grown hB'' KEEP.out.g) (by have := KEEP.out.g.size; omega) (flow_parts OK.out.flow).1 ⟨by omega, by have := HK2.out; omega⟩).mono ?_
        rintro e w5 ⟨rfl, g5⟩
        have KEEP := Lib.hid (KEEP.out.grown g5 (by simp))
        have OP := Lib.hid (OP.out.kept g5)
        have OO := Lib.hid (OO.out.kept g5)
        have FAM := Lib.hid (FAM.out.kept g5)
        have s5 := KEEP.out.sz
        clear g5 d1 d2 p0 p1 a2 q0 q1 q2 q3
        generalize roomI N.caps N.f (k : Int) = rm at *
        obtain ⟨q0, q1, q2, q3⟩ := OP.out.four
        have kl := grow0 w5 (.cells #[.int .i64 rm] 3)
        have M0 := FAM.out.head
        rw [rooms_len] at M0
        have hge := Lib.hid M0.own_ge
        have HM1 := Lib.hid (M0.kept kl)
        have KE := Lib.hid (KEEP.out.grown kl (by simp))
        have OPE := Lib.hid (OP.out.kept kl)
        have OOE := Lib.hid (OO.out.kept kl)
        have FE := Lib.hid (FAM.out.kept kl)
        have HROW := Lib.hid (Row.newAt (w := w5) (g := w5.heap.size) (n := 1) (vs := #[.int .i64 rm]) [rm] (by simp) rfl rfl (by simp) (by simp; omega))
        clear kl M0 KEEP OP OO FAM
        go_wp2_with (first | (at_builtin; refine wpList_app _ rfl _ _ rfl base _ _ _ rfl HM1.out _ 1 1 [rm] rfl HROW.out (by simp) (by omega) (by simp; omega) ?_))
        intro v6 w6 hm6 hg6 hc6
        have KEEP := Lib.hid (KE.out.grown hg6 hge.out)
        have OP := Lib.hid (OPE.out.kept' hg6 (fun e => by have := hge.out _ e; omega))
        have OO := Lib.hid (OOE.out.kept' hg6 (fun e => by have := hge.out _ e; omega))
        have FAM := Lib.hid (FE.out.step0 hm6 hg6 (by simpa using hc6))
        rw [HRN.out] at FAM
        obtain ⟨rA6, rc6, rfl, _⟩ := hm6.sl
        clear hm6 hg6 hc6 KE OPE OOE FE HM1 HROW hge q0 q1 q2 q3
        obtain ⟨q0, q1, q2, q3⟩ := OP.out.four
        have f2 := OP.out.frozen 2
        have KEEP := Lib.hid (KEEP.out.put (i := 2) r3 (.slice rA6 (k + 1) rc6))
        have OP : Hid (Own (w6.setCell ⟨gp, 2, none⟩ (.slice rA6 (k + 1) rc6)) gp 67 [.int .i64 N.t, .slice (some ⟨bh, offh, none⟩) (2 * N.n) cz, .slice rA6 (k + 1) rc6, .slice (some ⟨gO, 0, none⟩) N.V N.V]) := OP.out.put (i := 2) _
        have OO := Lib.hid (OO.out.setOther (k := gp) (j := 2) r7 (.slice rA6 (k + 1) rc6))
        have FAM := Lib.hid (FAM.out.putLow (q := gp) (i := 2) (u := .slice rA6 (k + 1) rc6) r5)
        have s6 := KEEP.out.sz
        go_upto_region 9 with fail
        clear f2 q0 q1 q2 q3
        generalize w6.setCell ⟨gp, 2, none⟩ (.slice rA6 (k + 1) rc6) = w7 at *
        obtain ⟨⟨d1, d2⟩, ⟨e1, e2⟩, p0, p1, a2⟩ := CELLS.out w7 KEEP.out
        obtain ⟨q0, q1, q2, q3⟩ := OP.out.four
        have hfi0 : (0 : Int) ≤ (flipN k : Nat) := by omega
        have hfi1 : ((flipN k : Nat) : Int) < (m2 : Int) := by omega
        rw [HM2.out] at a2 q1
        generalize flipN k = fk at *
        go_quiet ((go_at_call 55; exact quiet_left (CP.out _ (by omega))))
        go_upto_region 10 with fail
        have KEEP : Hid (BgK w N qa gp gO B0 base A c Ax Ay (some ⟨bh, offh, none⟩) (N.V + 1) no cx cy cz (some ⟨bm, offm, none⟩) (w7.drewN nq)) := KEEP.out.grown (grown_drewN (World.grownBy.refl _ none) _) (by simp)
        have OP : Hid (Own (w7.drewN nq) gp 67 _) := OP.out
        have OO : Hid (Own (w7.drewN nq) gO 25 vs) := OO.out
        have FAM : Hid (Fam (w7.drewN nq) base _ _) := FAM.out.kept (grown_drewN (World.grownBy.refl _ none) nq)
        have HVL := Lib.hid hvl
        clear d1 d2 e1 e2 p0 p1 a2 q0 q1 q2 q3 hvl CP
        generalize w7.drewN nq = w8 at *
        obtain ⟨_, ⟨e1, e2⟩, _, _, _⟩ := CELLS.out w8 KEEP.out
        have s8 := KEEP.out.sz
        have ht1 : (tl : Int) < (N.V : Int) := t1
        have hu1 : (hd : Int) < (N.V : Int) := u1
        have ht0 : (0 : Int) ≤ (tl : Int) := by omega
        have hu0 : (0 : Int) ≤ (hd : Int) := by omega
        have bt1 : -1 ≤ N.lev (tl : Int) ∧ N.lev (tl : Int) < 100 := by unfold Net.lev; omega
        have bu1 : -1 ≤ N.lev (hd : Int) ∧ N.lev (hd : Int) < 100 := by unfold Net.lev; omega
        clear bt bu t1 u1
        generalize N.lev (tl : Int) = lt at *
        generalize N.lev (hd : Int) = lh at *
        have hwl : IntKind.i64.wrap (lt + 1) = lt + 1 := IntWalk.i64_in _ (by omega)
        go_cut [44, 89] from 44 to 102 (fun i b wx => BgIf w8 k (decide (0 < rm) && decide (0 ≤ lt) && decide (lh = lt + 1)) i b wx)
        case first =>
          by_cases z0 : 0 < rm
          · have z0b : decide (0 < rm) = true := decide_eq_true z0
            by_cases z1 : 0 ≤ lt
            · have z1b : decide (0 ≤ lt) = true := decide_eq_true z1
              by_cases z2 : lh = lt + 1
              · have z2b : (lh == lt + 1) = true := by simp [z2]
                go_quiet (fail)
                go_wp2
                go_meet
                case rel => exact ⟨rfl, by simp [z0, z1, z2], grown_drewN (World.grownBy.refl _ none) _⟩
              · have z2b : (lh == lt + 1) = false := by simp [z2]
                go_quiet (fail)
                go_wp2
                go_meet
                case rel => exact ⟨rfl, by simp [z0, z1, z2], grown_drewN (World.grownBy.refl _ none) _⟩
            · obtain rfl : lt = -1 := by omega
              have HV : Hid (Value.bool false = .bool (decide (0 < rm) && decide ((0 : Int) ≤ -1) && decide (lh = -1 + 1))) := by rw [Hid]; simp
              clear z1 hwl
              go_quiet (fail)
              go_wp2
              go_meet
              case rel => exact ⟨rfl, HV.out, grown_drewN (World.grownBy.refl _ none) _⟩
          · obtain rfl : rm = 0 := by omega
            have HV : Hid (Value.bool false = .bool (decide ((0 : Int) < 0) && decide (0 ≤ lt) && decide (lh = lt + 1))) := by rw [Hid]; simp
            clear z0
            go_quiet (fail)
            go_wp2
            go_meet
            case rel => exact ⟨rfl, HV.out, grown_drewN (World.grownBy.refl _ none) _⟩
        case rest =>
          obtain ⟨rfl, rfl, gx⟩ := hcut
          have KEEP := Lib.hid (KEEP.out.grown gx (by simp))
          have OP := Lib.hid (OP.out.kept gx)
          have OO := Lib.hid (OO.out.kept gx)
          have FAM := Lib.hid (FAM.out.kept gx)
          have s9 := KEEP.out.sz
          clear gx e1 e2 hwl
          cases hb : (decide (0 < rm) && decide (0 ≤ lt) && decide (lh = lt + 1))
          · have HN : Hid (opnsA N (k + 1) = opnsA N k) := opns_no (fun q => by
              have := HST.out.1 q
              simp [this] at hb)
            clear hb
            go_wp2
            go_roundw
            case rel => rw [hB0, hbase]; exact ⟨k + 1, rA6, rc6, vs, by rw [HM2.out]; omega, by go_num, KEEP.out, OP.out, OO.out, HVL.out, by rw [HN.out]; exact FAM.out⟩
            case measure => simp [intOf]; omega
          · simp only [Bool.and_eq_true, decide_eq_true_eq] at hb
            have HSTP := Lib.hid (HST.out.2 ⟨hb.1.1, hb.1.2, hb.2⟩)
            have HY : Hid (opnsA N (k + 1) = (opnsA N k).set tl ((opnsA N k)[tl]?.getD [] ++ [(k : Int)])) := by
              have h1 := opns_yes (N := N) (m := k) (by rw [HTL.out]; exact ⟨ht0, ht1⟩) HSTP.out
              rw [HTL.out, Int.toNat_natCast] at h1
              rw [Hid, opns_at htv]
              exact h1
            obtain ⟨m0, _⟩ := FAM.out.row (u := tl) (by rw [HVL.out]; exact htv)
            obtain ⟨Ag, cg, hv, _⟩ := m0.sl
            have hgt : vs[tl]? = some (.slice Ag ((opnsA N k)[tl]?.getD []).length cg) := by
              rw [List.getElem?_eq_getElem (by rw [HVL.out]; exact htv)] at hv ⊢
              exact congrArg some hv
            have hlen : ((opnsA N k)[tl]?.getD []).length ≤ 32 := by
              rw [opns_at htv]
              have := opn_len N k (tl : Int)
              omega
            have c0 := OO.out.cell tl
            rw [hgt] at c0
            rw [hv] at m0
            have HV := Lib.hid hv
            generalize (opnsA N k)[tl]?.getD [] = hs at *
            have kl : wc.grownBy (wc.alloc (.cells #[.int .i64 (k : Nat)] 3)).drew none := grown_drew (grow0 _ _)
            have c0' : (wc.alloc (.cells #[.int .i64 (k : Nat)] 3)).cell? ⟨gO, tl, none⟩ = some (.slice Ag hs.length cg) := kept (grow0 _ _) c0
            have q3 := OP.out.four.2.2.2
            have q3' : (wc.alloc (.cells #[.int .i64 (k : Nat)] 3)).cell? ⟨gp, 3, none⟩ = some (.slice (some ⟨gO, 0, none⟩) N.V N.V) := kept (grow0 _ _) q3
            have HM1 : Hid (Mine (wc.alloc (.cells #[.int .i64 (k : Nat)] 3)).drew base (.slice Ag hs.length cg) hs.length hs) := m0.kept kl
            have HROW : Hid (Row (wc.alloc (.cells #[.int .i64 (k : Nat)] 3)).drew (wc.heap.size + 1) (some ⟨wc.heap.size, 0, none⟩) 1 [(k : Int)]) := (Row.newAt (w := wc) (g := wc.heap.size) (n := 1) (vs := #[.int .i64 (k : Nat)]) [(k : Int)] rfl rfl rfl (by simp) (by simp; omega)).drewN 1
            have KE := Lib.hid (KEEP.out.grown kl (by simp))
            have OPE := Lib.hid (OP.out.kept kl)
            have OOE := Lib.hid (OO.out.kept kl)
            have FE := Lib.hid (FAM.out.kept kl)
            have FS : Hid (∀ v6 w6, Mine w6 base v6 (hs.length + 1) (hs ++ [(k : Int)]) → (wc.alloc (.cells #[.int .i64 (k : Nat)] 3)).drew.grownBy w6 (Value.slice Ag hs.length cg).ownBlock → (v6.ownBlock = (Value.slice Ag hs.length cg).ownBlock ∨ v6.ownBlock = some (wc.heap.size + 1)) → Fam w6 base (.slice rA6 (k + 1) rc6 :: vs.set tl v6) (roomsA N.caps N.f (k + 1) :: (opnsA N k).set tl (hs ++ [(k : Int)]))) := fun v6 w6 h1 h2 h3 =>
              FE.out.stepU (by rw [HVL.out]; exact htv) h1 (by rw [HV.out]; exact h2) (by rw [HV.out]; exact h3.imp id (fun h => h.trans (by show _ = some (wc.alloc _).heap.size; simp)))
            clear hb kl m0 hgt hv KEEP OP OO FAM
            go_upto_region 11 with fail
            refine wp_region_held_drew (S := fun w' : World => w'.cell? ⟨gp, 3, none⟩ = some (.slice (some ⟨gO, 0, none⟩) N.V N.V)) (by kernel_rfl) q3 (fun hHeld => ?_)
            refine takeH (i := 0) (d := 90) (v := .pointer (some ⟨gp, 3, none⟩)) rfl rfl (by kernel_rfl) (by kernel_rfl) (by kernel_rfl) (fun _ _ _ h => h) (Or.inl ⟨by rfl, ?_⟩) (by assumption) ?_
            · intro w hSw; go_simp
            simp only [Act.put, List.setIfInBounds_toArray, List.set_cons_zero, List.set_cons_succ]
            refine takeH (i := 1) (d := 91) (v := .slice (some ⟨gO, 0, none⟩) N.V N.V) rfl rfl (by kernel_rfl) (by kernel_rfl) (by kernel_rfl) (fun _ _ _ h => h) (Or.inl ⟨by rfl, ?_⟩) (by assumption) ?_
            · intro w hSw; go_simp
            simp only [Act.put, List.setIfInBounds_toArray, List.set_cons_zero, List.set_cons_succ]
            refine takeH (i := 2) (d := 92) (v := .int .i64 (tl : Nat)) rfl rfl (by kernel_rfl) (by kernel_rfl) (by kernel_rfl) (fun _ _ _ h => h) (Or.inl ⟨by rfl, ?_⟩) (by assumption) ?_
            · intro w hSw; go_simp
            simp only [Act.put, List.setIfInBounds_toArray, List.set_cons_zero, List.set_cons_succ]
            refine takeH (i := 3) (d := 93) (v := .pointer (some ⟨gp, 3, none⟩)) rfl rfl (by kernel_rfl) (by kernel_rfl) (by kernel_rfl) (fun _ _ _ h => h) (Or.inl ⟨by rfl, ?_⟩) (by assumption) ?_
            · intro w hSw; go_simp
            simp only [Act.put, List.setIfInBounds_toArray, List.set_cons_zero, List.set_cons_succ]
            refine takeH (i := 4) (d := 94) (v := .slice (some ⟨gO, 0, none⟩) N.V N.V) rfl rfl (by kernel_rfl) (by kernel_rfl) (by kernel_rfl) (fun _ _ _ h => h) (Or.inl ⟨by rfl, ?_⟩) (by assumption) ?_
            · intro w hSw; go_simp
            simp only [Act.put, List.setIfInBounds_toArray, List.set_cons_zero, List.set_cons_succ]
            refine takeH (i := 5) (d := 95) (v := .int .i64 (tl : Nat)) rfl rfl (by kernel_rfl) (by kernel_rfl) (by kernel_rfl) (fun _ _ _ h => h) (Or.inl ⟨by rfl, ?_⟩) (by assumption) ?_
            · intro w hSw; go_simp
            simp only [Act.put, List.setIfInBounds_toArray, List.set_cons_zero, List.set_cons_succ]
            refine takeH (i := 6) (d := 96) (v := .pointer (some ⟨gO, tl, none⟩)) rfl rfl (by kernel_rfl) (by kernel_rfl) (by kernel_rfl) (fun _ _ _ h => h) (Or.inl ⟨by rfl, ?_⟩) (by assumption) ?_
            · intro w hSw; go_simp
            simp only [Act.put, List.setIfInBounds_toArray, List.set_cons_zero, List.set_cons_succ]
            refine takeH (i := 8) (d := 98) (v := .int .i64 (k : Nat)) rfl rfl (by kernel_rfl) (by kernel_rfl) (by kernel_rfl) (fun _ _ _ h => h) (Or.inl ⟨by rfl, ?_⟩) (by assumption) ?_
            · intro w hSw; go_simp
            simp only [Act.put, List.setIfInBounds_toArray, List.set_cons_zero, List.set_cons_succ]
            refine wpAnyH_ready (rs := [7, 9]) (by kernel_rfl) (by simp) ?_
            refine AllReadyH.cons rfl (fun K hK => ?_) (AllReadyH.cons rfl (fun K hK => ?_) AllReadyH.nil)
            · go_simp
              refine hK.out _ _ q3 (fun hHeld => ?_)
              clear hK
              refine wpAnyH_ready (rs := [9]) (by kernel_rfl) (by simp) ?_
              refine AllReadyH.cons rfl (fun K hK => ?_) AllReadyH.nil
              go_simp
              refine hK.out _ _ q3' (fun hHeld => ?_)
              clear hK
              refine wpAnyH_ready (rs := [10]) (by kernel_rfl) (by simp) ?_
              refine AllReadyH.cons rfl (fun K hK => ?_) AllReadyH.nil
              refine step_app4 rfl _ _ (by rfl) base _ hs.length hs (by rfl) HM1.out (some ⟨wc.heap.size, 0, none⟩) 1 1 [(k : Int)] (by rfl) HROW.out (by simp) (by omega) (by simp; omega) ?_
              intro v6 w6 hm6 hg6 hc6
              have hge := HM1.out.own_ge
              have F6 := Lib.hid (FS.out v6 w6 hm6 hg6 (by simpa using hc6))
              obtain ⟨A9, c9, rfl, _⟩ := hm6.sl
              have K6 := Lib.hid (KE.out.grown hg6 hge)
              have P6 := Lib.hid (OPE.out.kept' hg6 (fun e => by have := hge _ e; omega))
              have O6 := Lib.hid (OOE.out.kept' hg6 (fun e => by have := hge _ e; omega))
              have k0 := O6.out.cell tl
              rw [List.getElem?_eq_getElem (show tl < vs.length by rw [HVL.out]; exact htv)] at k0
              have t0 := O6.out.frozen tl
              have q6 := P6.out.four.2.2.2
              clear hm6 hg6 hge hc6
              simp only [Act.put, List.setIfInBounds_toArray]
              refine hK.out _ _ q6 (fun hHeld => ?_)
              clear hK
              refine takeH (i := 11) (d := 101) (v := .pointer (some ⟨gO, tl, none⟩)) rfl rfl (by kernel_rfl) (by kernel_rfl) (by kernel_rfl) (fun _ _ _ h => h) (Or.inl ⟨by rfl, ?_⟩) (by assumption) ?_
              · intro w hSw; go_simp
              simp only [Act.put]
              refine wpAnyH_ready (rs := [12]) (by kernel_rfl) (by simp) ?_
              refine AllReadyH.cons rfl (fun K hK => ?_) AllReadyH.nil
              go_simp
              refine hK.out _ _ (other_get (fun e => r7 e.symm) q6) (fun hHeld => ?_)
              clear hK
              refine wpAnyH_done (by kernel_rfl) ?_ _
              go_wp2
              go_roundw
              case rel =>
                rw [hB0, hbase]
                exact ⟨k + 1, rA6, rc6, vs.set tl (.slice A9 (hs.length + 1) c9), by rw [HM2.out]; omega, by go_num, K6.out.put r4 _, P6.out.setOther (fun e => r7 e.symm) _, O6.out.put (i := tl) _, by rw [List.length_set]; exact HVL.out, by rw [HY.out]; exact F6.out.putLow r6⟩
              case measure => simp [intOf]; omega
            · go_simp
              refine hK.out _ _ q3' (fun hHeld => ?_)
              clear hK
              refine wpAnyH_ready (rs := [7]) (by kernel_rfl) (by simp) ?_
              refine AllReadyH.cons rfl (fun K hK => ?_) AllReadyH.nil
              go_simp
              refine hK.out _ _ q3' (fun hHeld => ?_)
              clear hK
              refine wpAnyH_ready (rs := [10]) (by kernel_rfl) (by simp) ?_
              refine AllReadyH.cons rfl (fun K hK => ?_) AllReadyH.nil
              refine step_app4 rfl _ _ (by rfl) base _ hs.length hs (by rfl) HM1.out (some ⟨wc.heap.size, 0, none⟩) 1 1 [(k : Int)] (by rfl) HROW.out (by simp) (by omega) (by simp; omega) ?_
              intro v6 w6 hm6 hg6 hc6
              have hge := HM1.out.own_ge
              have F6 := Lib.hid (FS.out v6 w6 hm6 hg6 (by simpa using hc6))
              obtain ⟨A9, c9, rfl, _⟩ := hm6.sl
              have K6 := Lib.hid (KE.out.grown hg6 hge)
              have P6 := Lib.hid (OPE.out.kept' hg6 (fun e => by have := hge _ e; omega))
              have O6 := Lib.hid (OOE.out.kept' hg6 (fun e => by have := hge _ e; omega))
              have k0 := O6.out.cell tl
              rw [List.getElem?_eq_getElem (show tl < vs.length by rw [HVL.out]; exact htv)] at k0
              have t0 := O6.out.frozen tl
              have q6 := P6.out.four.2.2.2
              clear hm6 hg6 hge hc6
              simp only [Act.put, List.setIfInBounds_toArray]
              refine hK.out _ _ q6 (fun hHeld => ?_)
              clear hK
              refine takeH (i := 11) (d := 101) (v := .pointer (some ⟨gO, tl, none⟩)) rfl rfl (by kernel_rfl) (by kernel_rfl) (by kernel_rfl) (fun _ _ _ h => h) (Or.inl ⟨by rfl, ?_⟩) (by assumption) ?_
              · intro w hSw; go_simp
              simp only [Act.put]
              refine wpAnyH_ready (rs := [12]) (by kernel_rfl) (by simp) ?_
              refine AllReadyH.cons rfl (fun K hK => ?_) AllReadyH.nil
              go_simp
              refine hK.out _ _ (other_get (fun e => r7 e.symm) q6) (fun hHeld => ?_)
              clear hK
              refine wpAnyH_done (by kernel_rfl) ?_ _
              go_wp2
              go_roundw
              case rel =>
                rw [hB0, hbase]
                exact ⟨k + 1, rA6, rc6, vs.set tl (.slice A9 (hs.length + 1) c9), by rw [HM2.out]; omega, by go_num, K6.out.put r4 _, P6.out.setOther (fun e => r7 e.symm) _, O6.out.put (i := tl) _, by rw [List.length_set]; exact HVL.out, by rw [HY.out]; exact F6.out.putLow r6⟩
              case measure => simp [intOf]; omega
      · obtain rfl : k = m2 := by omega
        obtain ⟨o0, o1, o2, o3⟩ := KEEP.out.or.four
        have f0 := KEEP.out.or.frozen 0
        have f1 := KEEP.out.or.frozen 1
        have f2 := KEEP.out.or.frozen 2
        have f3 := KEEP.out.or.frozen 3
        unfold nilS at o1 o2 o3
        have fam := FAM.out
        have oo := OO.out
        have OR := Lib.hid KEEP.out.or
        rw [← HM2.out] at fam
        have BE := Lib.hid (fun x y z u => bg_end KEEP.out oo hvl fam HOZ.out x y z u)
        rw [HM2.out] at BE
        clear fam oo KEEP OO FAM OP
        go_wp2
        exact post_push rfl rfl (OR.out.put4 _ _ _ _) rfl (BE.out _ _ _ _)

end Go.Proofs.Ytppcncblmakekaa

set_option maxRecDepth 20000
namespace Go.Proofs.Ytppcncblmakekaa
open Go.RowKit

def blkV (v : Value) (k z : Int) : Value := .tuple #[v, .int .i64 k, .int .i64 z]

def YesPost (w : World) (N : Net) (most : Int) (e : Ending) (w' : World) : Prop :=
  ∃ b k, BlkIs N.V N.ls N.caps N.f N.s N.t most b k N.M ∧ ∃ v, e = .returned (blkV v k 0) ∧ Mine w' w.heap.size v b.length b ∧ w.grownBy w' none

set_option maxRecDepth 20000 in
set_option maxHeartbeats 2000000 in
theorem Block_yes (N : Net) (ok : N.Ok) (A : Option Addr) (c : Nat) (X : Option Addr) (m d : Nat) (Y : Option Addr) (r e0 : Nat) (most : Int) (w : World) {B B' B'' : Nat} (h : Lks w B A N.n N.ls) (hB : B ≤ w.heap.size) (hx : Row w B' X m N.caps) (hB' : B' ≤ w.heap.size) (hy : Row w B'' Y r N.f) (hB'' : B'' ≤ w.heap.size) (m0 : 0 ≤ most) (m1 : most ≤ 4611686018427387904) :
    Calls Try.prog 29 #[.agg #[.int .i64 (N.V : Nat), .slice A N.n c], .slice X m d, .slice Y r e0, .int .i64 N.s, .int .i64 N.t, .int .i64 most] w (YesPost w N most) := by
  have OK := Lib.hid ok
  have h8 := may_small ok.may
  rw [ok.hl] at h8
  have HR := Lib.hid h
  have HX := Lib.hid hx
  have HY := Lib.hid hy
  have HFL := Lib.hid ok.flow
  obtain ⟨_, ⟨s0, s1⟩, _⟩ := flow_parts ok.flow
  obtain ⟨sn, hsn⟩ : ∃ sn : Nat, N.s = (sn : Int) := ⟨N.s.toNat, by omega⟩
  have HSN := Lib.hid hsn
  have hlev : Hid (0 ≤ N.lev (sn : Int) ∧ (N.V : Int) ≤ N.lev (sn : Int) + N.V) := by
    have := ok.lv.src
    unfold Net.lev
    rw [← hsn, this]
    constructor <;> omega
  have hsv : sn < N.V := by rw [hsn] at s1; omega
  obtain ⟨pi, hbf⟩ := pi_first ok
  have PI1 := Lib.hid pi
  have HBF := Lib.hid hbf
  have HG0 := Lib.hid (grow0 w (.cells #[.int .i64 (N.V : Nat), .slice A N.n c] 24))
  clear h hx hy ok hsn s0 s1 pi hbf
  go_enter Try.func29, Try.ntmps29
  go_wp2_with fail
  refine (FMay_any (N.V : Nat) N.s N.t A N.n c N.ls X m d N.caps Y r e0 N.f _ (HR.out.grown hB HG0.out) (by simp; omega) (HX.out.grown hB' HG0.out) (by simp; omega) (HY.out.grown hB'' HG0.out) (by simp; omega)).mono ?_
  rintro e w1 ⟨he, g1⟩
  rw [HFL.out] at he
  subst he
  obtain ⟨g, ob⟩ := box1 [.int .i64 (N.V : Nat), .slice A N.n c] g1
  have G := Lib.hid g
  have OB := Lib.hid ob
  clear g g1 ob HG0
  obtain ⟨p0, p1⟩ := OB.out.two
  go_wp2_with fail
  refine (bbegin_any N OK.out A c X m d Y r e0 _ (HR.out.grown hB G.out) (by have := G.out.size; omega) (HX.out.grown hB' G.out) (by have := G.out.size; omega) (HY.out.grown hB'' G.out) (by have := G.out.size; omega)).mono ?_
  rintro e w2 ⟨Az, cz, rA, rc, gO, B2, base, vs, rfl, g2, h1, h2, h3, h4, h5, oo, hv, hh, fam⟩
  have PS := Lib.hid (Pst.first (cz := cz) OK.out h3 h4 h5 oo hv hh fam)
  have hrb : Hid (∀ b, rBlk rA = some b → w.heap.size ≤ b) := by
    intro b hb
    have hr := fam.head
    rw [rooms_len] at hr
    have := G.out.size
    rcases hr.2 with ⟨e, _⟩ | ⟨g', cap, cur, e, b1, b2, _⟩
    · injection e with e1 _ _
      subst e1
      simp [rBlk] at hb
    · injection e with e1 _ _
      subst e1
      simp only [rBlk, Option.map_some, Option.some.injEq] at hb
      omega
  have hgo : w.heap.size ≤ gO := by have := G.out.size; omega
  have G := Lib.hid (grown_trans (grown_trans G.out g2) (grow0 w2 (.cells #[.int .i64 N.t, .slice Az (2 * N.n) cz, .slice rA (2 * N.n) rc, .slice (some ⟨gO, 0, none⟩) N.V N.V] 67)))
  clear g2 oo hh fam OB p0 p1
  go_upto_region 4 with fail
  obtain ⟨q, hq⟩ : ∃ q, w2.heap.size = q := ⟨_, rfl⟩
  rw [hq] at PS
  generalize w2.alloc (.cells #[.int .i64 N.t, .slice Az (2 * N.n) cz, .slice rA (2 * N.n) rc, .slice (some ⟨gO, 0, none⟩) N.V N.V] 67) = w3 at *
  have hsz := G.out.size
  rw [hq, HSN.out]
  go_wp2_with fail
  refine (push_any N OK.out q gO base Az cz rA rc N.V sn most _ _ _ vs PS.out PI1.out hsv hlev.out.1 hlev.out.2 m0 m1).mono ?_
  rintro e w4 ⟨k, R, O, vs4, rfl, pl, pe, ps, tr⟩
  have BK : Hid (BlkIs N.V N.ls N.caps N.f N.s N.t most (bOf R N.n) k N.M) := blk_of OK.out HBF.out (by rw [HSN.out]; exact pl) (by rw [HSN.out]; exact pe)
  have G := Lib.hid (Trn.grown G.out tr hrb.out hgo)
  have HQ := Lib.hid ps.oq
  have hokR : okI R := by
    intro i
    by_cases hi : i < 2 * N.n
    · have := pl.inv.bd OK.out hi
      unfold rAt at this
      omega
    · rw [List.getElem?_eq_none (by rw [pl.inv.lenR]; omega)]
      simp
  have RR := Lib.hid (ps.rm.rowAt hokR)
  clear pl pe ps tr hokR PS
  go_wp2_with fail
  refine (flow_any q N.n rc N.t _ _ rA R _ HQ.out RR.out (by omega)).mono ?_
  rintro e w5 ⟨v, rfl, mv, k5⟩
  have G5 := Lib.hid (grown_trans G.out k5)
  have MV := Lib.hid (mv.wide G.out.size)
  clear k5 mv
  go_wp2
  go_ret3
  exact ⟨_, k, BK.out, v, rfl, MV.out, G5.out⟩

theorem Block_no (V s t most : Int) (A : Option Addr) (n c : Nat) (ls : List Lk) (X : Option Addr) (m d : Nat) (caps : List Int) (Y : Option Addr) (r e0 : Nat) (f : List Int) (w : World) {B B' B'' : Nat} (h : Lks w B A n ls) (hB : B ≤ w.heap.size) (hx : Row w B' X m caps) (hB' : B' ≤ w.heap.size) (hy : Row w B'' Y r f) (hB'' : B'' ≤ w.heap.size) (hno : (flowB V ls caps f s t && decide (0 ≤ most) && decide (most ≤ 4611686018427387904)) = false) :
    Calls Try.prog 29 #[.agg #[.int .i64 V, .slice A n c], .slice X m d, .slice Y r e0, .int .i64 s, .int .i64 t, .int .i64 most] w (Says w (blkV (.slice none 0 0) 0 1100)) := by
  have HR := Lib.hid h
  have HX := Lib.hid hx
  have HY := Lib.hid hy
  have HN := Lib.hid hno
  have HG0 := Lib.hid (grow0 w (.cells #[.int .i64 V, .slice A n c] 24))
  clear h hx hy hno
  go_enter Try.func29, Try.ntmps29
  go_wp2_with fail
  refine (FMay_any V s t A n c ls X m d caps Y r e0 f _ (HR.out.grown hB HG0.out) (by simp; omega) (HX.out.grown hB' HG0.out) (by simp; omega) (HY.out.grown hB'' HG0.out) (by simp; omega)).mono ?_
  rintro e w1 ⟨rfl, g1⟩
  obtain ⟨g, _⟩ := box1 [.int .i64 V, .slice A n c] g1
  have G := Lib.hid g
  clear g g1 HG0
  have hno := HN.out
  clear HN
  cases hf : flowB V ls caps f s t
  · clear hno
    go_wp2
    go_ret3
    exact ⟨rfl, G.out⟩
  · rw [hf] at hno
    by_cases m0 : most < 0
    · clear hno
      go_wp2
      go_ret3
      exact ⟨rfl, G.out⟩
    · by_cases m1 : 4611686018427387904 < most
      · clear hno
        go_wp2
        go_ret3
        exact ⟨rfl, G.out⟩
      · have h1 : 0 ≤ most := by omega
        have h2 : most ≤ 4611686018427387904 := by omega
        simp [h1, h2] at hno

def blkB (V : Int) (ls : List Lk) (caps f : List Int) (s t most : Int) : Bool := flowB V ls caps f s t && decide (0 ≤ most) && decide (most ≤ 4611686018427387904)

/-- What Block may tell. -/
def BlockIs (V : Int) (ls : List Lk) (caps f : List Int) (s t most : Int) (b : List Int) (k z : Int) : Prop :=
  (blkB V ls caps f s t most = true ∧ z = 0 ∧ ∃ M, IsLv V.toNat (Leads ls caps f (2 * ls.length)) s M ∧ BlkIs V.toNat ls caps f s t most b k M) ∨ (blkB V ls caps f s t most = false ∧ z = 1100 ∧ b = [] ∧ k = 0)

def BlockPost (w : World) (V : Int) (ls : List Lk) (caps f : List Int) (s t most : Int) (e : Ending) (w' : World) : Prop :=
  ∃ b k z, BlockIs V ls caps f s t most b k z ∧ ∃ v, e = .returned (blkV v k z) ∧ Mine w' w.heap.size v b.length b ∧ w.grownBy w' none

theorem blkB_parts {V : Int} {ls : List Lk} {caps f : List Int} {s t most : Int} (h : blkB V ls caps f s t most = true) : flowB V ls caps f s t = true ∧ 0 ≤ most ∧ most ≤ 4611686018427387904 := by
  simp only [blkB, Bool.and_eq_true, decide_eq_true_eq] at h
  exact ⟨h.1.1, h.1.2, h.2⟩

theorem flow_may {V : Int} {L : List Lk} {caps f : List Int} {s t : Int} (h : flowB V L caps f s t = true) : fitsF V L caps f = true := by
  simp only [flowB, Bool.and_eq_true] at h
  exact h.1.1.1.1

theorem Block_any (V s t most : Int) (A : Option Addr) (n c : Nat) (ls : List Lk) (X : Option Addr) (m d : Nat) (caps : List Int) (Y : Option Addr) (r e0 : Nat) (f : List Int) (w : World) {B B' B'' : Nat} (h : Lks w B A n ls) (hB : B ≤ w.heap.size) (hx : Row w B' X m caps) (hB' : B' ≤ w.heap.size) (hy : Row w B'' Y r f) (hB'' : B'' ≤ w.heap.size) :
    Calls Try.prog 29 #[.agg #[.int .i64 V, .slice A n c], .slice X m d, .slice Y r e0, .int .i64 s, .int .i64 t, .int .i64 most] w (BlockPost w V ls caps f s t most) := by
  cases hb : blkB V ls caps f s t most
  · refine (Block_no V s t most A n c ls X m d caps Y r e0 f w h hB hx hB' hy hB'' hb).mono ?_
    rintro e w' ⟨rfl, g⟩
    exact ⟨[], 0, 1100, .inr ⟨hb, rfl, rfl, rfl⟩, _, rfl, Mine.nil _ _, g⟩
  · obtain ⟨h1, h2, h3⟩ := blkB_parts hb
    have hm := (fits_parts (flow_may h1)).1
    have h8 := may_small hm
    obtain ⟨vn, rfl⟩ : ∃ vn : Nat, V = (vn : Nat) := ⟨V.toNat, by omega⟩
    have hl := h.len
    subst hl
    obtain ⟨_, hs, _⟩ := flow_parts h1
    obtain ⟨M, hM⟩ := lev_there (caps := caps) (f := f) hm rfl hs
    refine (Block_yes ⟨vn, ls.length, ls, caps, f, M, s, t⟩ ⟨rfl, h1, hM⟩ A c X m d Y r e0 most w h hB hx hB' hy hB'' h2 h3).mono ?_
    rintro e w' ⟨b, k, hk, v, rfl, mv, g⟩
    exact ⟨b, k, 0, .inl ⟨hb, rfl, M, hM, hk⟩, v, rfl, mv, g⟩

theorem Block_okI {V : Int} {ls : List Lk} {caps f : List Int} {s t most : Int} {b : List Int} {k z : Int} (h : BlockIs V ls caps f s t most b k z) : okI b ∧ b.length ≤ 16 := by
  rcases h with ⟨h1, _, M, _, h3⟩ | ⟨_, _, rfl, _⟩
  · obtain ⟨f1, _, _, f4⟩ := fits_parts (flow_parts h3.flow).1
    have h8 := may_small f1
    have hl := flow_len h3.flow
    refine ⟨fun i => ?_, by omega⟩
    by_cases hi : i < ls.length
    · have hb := f_bd f4 hi
      have h5 := may_sum f1 (i + 1) (by omega)
      have h6 := (gk_bd (f := b) 0 f4 i (by omega)).1
      rw [capSum] at h5
      omega
    · rw [List.getElem?_eq_none (by omega)]
      simp
  · refine ⟨fun i => by simp, by simp⟩

end Go.Proofs.Ytppcncblmakekaa

set_option maxRecDepth 20000
namespace Go.Proofs.Ytppcncblmakekaa

theorem count_arc (ls : List Lk) (v : Int) (m a : Nat) : (arcIf ls v m).count (a : Int) = if m = a ∧ tailOf ls a = v then 1 else 0 := by
  unfold arcIf
  by_cases h : tailOf ls m = v
  · rw [if_pos h]
    by_cases k : m = a
    · subst k; simp [h]
    · have : ((m : Nat) : Int) ≠ (a : Int) := by omega
      simp [k, this]
  · rw [if_neg h]
    by_cases k : m = a
    · subst k; simp [h]
    · simp [k]

theorem count_row (ls : List Lk) (v : Int) (a : Nat) : ∀ m, (rowA ls v m).count (a : Int) = if a < m ∧ tailOf ls a = v then 1 else 0
  | 0 => by simp [rowA]
  | m + 1 => by
    rw [rowA, List.count_append, count_row ls v a m, count_arc]
    by_cases h : tailOf ls a = v
    · simp only [h, and_true]
      by_cases k : a < m
      · rw [if_pos k, if_neg (by omega), if_pos (by omega)]
      · by_cases j : m = a
        · rw [if_neg k, if_pos j, if_pos (by omega)]
        · rw [if_neg k, if_neg j, if_neg (by omega)]
    · simp [h]

theorem count_ord (ls : List Lk) (n a : Nat) (ha : a < 2 * n) : ∀ v : Nat, (ordA ls n v).count (a : Int) = if 0 ≤ tailOf ls a ∧ tailOf ls a < v then 1 else 0
  | 0 => by
    have : ¬ (0 ≤ tailOf ls a ∧ tailOf ls a < ((0 : Nat) : Int)) := by omega
    rw [if_neg this]; simp [ordA]
  | v + 1 => by
    rw [ordA, List.count_append, count_ord ls n a ha v, count_row]
    by_cases h : tailOf ls a = (v : Int)
    · rw [if_neg (by omega), if_pos ⟨ha, h⟩, if_pos (by omega)]
    · rw [if_neg (show ¬ (a < 2 * n ∧ tailOf ls a = (v : Int)) from fun k => h k.2)]
      by_cases k : 0 ≤ tailOf ls a ∧ tailOf ls a < v
      · rw [if_pos k, if_pos (by omega)]
      · rw [if_neg k, if_neg (by omega)]

theorem once {vn : Nat} {ls : List Lk} (h : mayG (vn : Nat) ls = true) {a : Nat} (ha : a < 2 * ls.length) : (ordA ls ls.length vn).count (a : Int) = 1 := by
  rw [count_ord ls ls.length a ha vn, if_pos (tail_bd h ha)]

def sumRows (ls : List Lk) (m : Nat) : Nat → Nat
  | 0 => 0
  | v + 1 => sumRows ls m v + (rowA ls (v : Int) m).length

theorem arc_len (ls : List Lk) (v : Int) (m : Nat) : (rowA ls v (m + 1)).length = (rowA ls v m).length + if tailOf ls m = v then 1 else 0 := by
  rw [rowA, List.length_append, arcIf]
  by_cases h : tailOf ls m = v
  · rw [if_pos h, if_pos h]; rfl
  · rw [if_neg h, if_neg h]; rfl

theorem rows_step (ls : List Lk) (m : Nat) : ∀ v : Nat, sumRows ls (m + 1) v = sumRows ls m v + if 0 ≤ tailOf ls m ∧ tailOf ls m < v then 1 else 0
  | 0 => by
    have : ¬ (0 ≤ tailOf ls m ∧ tailOf ls m < ((0 : Nat) : Int)) := by omega
    rw [if_neg this]; rfl
  | v + 1 => by
    rw [sumRows, sumRows, rows_step ls m v, arc_len]
    by_cases h : tailOf ls m = (v : Int)
    · rw [if_neg (by omega), if_pos h, if_pos (by omega)]; omega
    · rw [if_neg h]
      by_cases k : 0 ≤ tailOf ls m ∧ tailOf ls m < v
      · rw [if_pos k, if_pos (by omega)]; omega
      · rw [if_neg k, if_neg (by omega)]; omega

theorem sum_zero (ls : List Lk) : ∀ v, sumRows ls 0 v = 0
  | 0 => rfl
  | v + 1 => by rw [sumRows, sum_zero ls v]; rfl

theorem sum_all (ls : List Lk) (v : Nat) : ∀ m, (∀ a, a < m → 0 ≤ tailOf ls a ∧ tailOf ls a < v) → sumRows ls m v = m
  | 0, _ => sum_zero ls v
  | m + 1, h => by rw [rows_step, sum_all ls v m (fun a ha => h a (by omega)), if_pos (h m (by omega))]

theorem ord_sum (ls : List Lk) (n : Nat) : ∀ v, (ordA ls n v).length = sumRows ls (2 * n) v
  | 0 => rfl
  | v + 1 => by rw [ordA, List.length_append, ord_sum ls n v]; rfl

theorem ord_all {vn : Nat} {ls : List Lk} (h : mayG (vn : Nat) ls = true) : (ordA ls ls.length vn).length = 2 * ls.length := by
  rw [ord_sum, sum_all ls vn _ fun a ha => tail_bd h ha]

/-- The first k links turned. -/
def turnK (ls : List Lk) : Nat → List Lk
  | 0 => ls
  | k + 1 => (turnK ls k).set k ((at3 ls k).2.1, (at3 ls k).1, (at3 ls k).2.2)

theorem turn_len (ls : List Lk) : ∀ k, (turnK ls k).length = ls.length
  | 0 => rfl
  | k + 1 => by rw [turnK, List.length_set, turn_len ls k]

theorem turn_at (ls : List Lk) : ∀ k i, i < ls.length → at3 (turnK ls k) i = if i < k then ((at3 ls i).2.1, (at3 ls i).1, (at3 ls i).2.2) else at3 ls i
  | 0, i, _ => by simp [turnK]
  | k + 1, i, hi => by
    have hl := turn_len ls k
    rw [turnK]
    unfold at3
    by_cases h : i = k
    · subst h
      rw [List.getElem?_set_self (by omega), if_pos (by omega)]
      rfl
    · rw [List.getElem?_set_ne (by omega)]
      have := turn_at ls k i hi
      unfold at3 at this
      rw [this]
      by_cases j : i < k
      · rw [if_pos j, if_pos (by omega)]
      · rw [if_neg j, if_neg (by omega)]

theorem tail_turn (ls : List Lk) (i : Nat) (hi : i < ls.length) : tailOf (turnK ls ls.length) (2 * i) = tailOf ls (2 * i + 1) ∧ tailOf (turnK ls ls.length) (2 * i + 1) = tailOf ls (2 * i) := by
  rw [tail_even, tail_odd, tail_even, tail_odd, turn_at ls _ i hi, if_pos hi]
  exact ⟨rfl, rfl⟩

theorem head_turn (ls : List Lk) (i : Nat) (hi : i < ls.length) : headOf (turnK ls ls.length) (2 * i) = headOf ls (2 * i + 1) ∧ headOf (turnK ls ls.length) (2 * i + 1) = headOf ls (2 * i) := by
  rw [head_even, head_odd, head_even, head_odd, turn_at ls _ i hi, if_pos hi]
  exact ⟨rfl, rfl⟩

theorem row_turn (ls : List Lk) (v : Int) : ∀ k, k ≤ ls.length → (rowA (turnK ls ls.length) v (2 * k)).length = (rowA ls v (2 * k)).length
  | 0, _ => rfl
  | k + 1, h => by
    obtain ⟨h1, h2⟩ := tail_turn ls k (by omega)
    rw [show 2 * (k + 1) = 2 * k + 1 + 1 by omega, arc_len, arc_len, arc_len, arc_len, row_turn ls v k (by omega), h1, h2]
    omega

theorem ord_turn (ls : List Lk) : ∀ v, (ordA (turnK ls ls.length) ls.length v).length = (ordA ls ls.length v).length
  | 0 => rfl
  | v + 1 => by
    rw [ordA, ordA, List.length_append, List.length_append, ord_turn ls v, row_turn ls _ _ (Nat.le_refl _)]

theorem starts_turn (ls : List Lk) : ∀ v, startsA (turnK ls ls.length) ls.length v = startsA ls ls.length v
  | 0 => rfl
  | v + 1 => by rw [startsA, startsA, starts_turn ls v, ord_turn]

theorem joins_symm (V f t : Int) : joinsB V f t = joinsB V t f := by
  unfold joinsB
  have : (f == t) = (t == f) := Bool.eq_iff_iff.2 (by simp only [beq_iff_eq]; exact eq_comm)
  rw [this, Bool.and_comm (isV V f)]

def turnL (l : Lk) : Lk := (l.2.1, l.1, l.2.2)

theorem caps_turn (V : Int) : ∀ (ls : List Lk) (acc : Int), capsFrom V acc (ls.map turnL) = capsFrom V acc ls
  | [], _ => rfl
  | l :: r, acc => by
    rw [List.map_cons, capsFrom, capsFrom]
    have e : linkOk V acc (turnL l) = linkOk V acc l := by
      unfold linkOk turnL
      rw [joins_symm]
    rw [e]
    by_cases h : linkOk V acc l = true
    · rw [if_pos h, if_pos h]; exact caps_turn V r _
    · rw [if_neg h, if_neg h]

theorem turn_map (ls : List Lk) : turnK ls ls.length = ls.map turnL := by
  refine List.ext_getElem? fun i => ?_
  by_cases hi : i < ls.length
  · have h1 := turn_at ls ls.length i hi
    rw [if_pos hi] at h1
    have hl := turn_len ls ls.length
    unfold at3 at h1
    rw [List.getElem?_eq_getElem (by omega)] at h1 ⊢
    rw [List.getElem?_map, List.getElem?_eq_getElem hi]
    rw [List.getElem?_eq_getElem hi] at h1
    simp only [Option.getD_some] at h1
    rw [h1]
    rfl
  · rw [List.getElem?_eq_none (by rw [turn_len]; omega), List.getElem?_eq_none (by simp; omega)]

theorem may_turn {V : Int} {ls : List Lk} (h : mayG V ls = true) : mayG V (turnK ls ls.length) = true := by
  rw [turn_map]
  unfold mayG totalOf at h ⊢
  rw [List.length_map, caps_turn]
  exact h

theorem turn_ok {ls : List Lk} (P : Int → Prop) (h : ∀ i : Nat, P (at3 ls i).1 ∧ P (at3 ls i).2.1 ∧ P (at3 ls i).2.2) (k : Nat) : ∀ i : Nat, P (at3 (turnK ls k) i).1 ∧ P (at3 (turnK ls k) i).2.1 ∧ P (at3 (turnK ls k) i).2.2 := by
  intro i
  by_cases hi : i < ls.length
  · rw [turn_at ls k i hi]
    obtain ⟨a, b, c⟩ := h i
    by_cases j : i < k
    · rw [if_pos j]; exact ⟨b, a, c⟩
    · rw [if_neg j]; exact ⟨a, b, c⟩
  · have h0 := h i
    have e : at3 ls i = (0, 0, 0) := by unfold at3; rw [List.getElem?_eq_none (by omega)]; rfl
    have e' : at3 (turnK ls k) i = (0, 0, 0) := by unfold at3; rw [List.getElem?_eq_none (by rw [turn_len]; omega)]; rfl
    rw [e'] 
    rw [e] at h0
    exact h0

end Go.Proofs.Ytppcncblmakekaa

set_option maxRecDepth 20000
namespace Go.Proofs.Ytppcncblmakekaa

/-- What the greatest flow up to what is wanted keeps. -/
structure PshIs (V : Nat) (L : List Lk) (caps : List Int) (s t want : Int) (b : List Int) (k : Int) : Prop where
  flow : flowB (V : Nat) L caps b s t = true
  val : gainOf L b s = k
  high : k ≤ want
  shut : k = want ∨ ∀ M, IsLv V (Leads L caps b (2 * L.length)) s M → lvAt M t < 0

theorem psh_low {V : Nat} {L : List Lk} {caps b : List Int} {s t want k : Int} (h : PshIs V L caps s t want b k) : 0 ≤ k ∧ k ≤ 4611686018427387904 := by
  have := flow_most h.flow
  rw [h.val] at this
  exact this

theorem psh_under {V : Nat} {L : List Lk} {caps b : List Int} {s t want k : Int} (h : PshIs V L caps s t want b k) {p : Nat → Bool} (hs : p s.toNat = true) (ht : p t.toNat = false) : k ≤ cutW p L caps L.length := by
  rw [← h.val]
  exact flow_cut h.flow hs ht

/-- Less than was wanted: as much as a cut. -/
theorem psh_cut {V : Nat} {L : List Lk} {caps b : List Int} {s t want k : Int} (h : PshIs V L caps s t want b k) (hk : k ≠ want) : ∃ p : Nat → Bool, p s.toNat = true ∧ p t.toNat = false ∧ k = cutW p L caps L.length := by
  obtain ⟨h1, h2, h3, _⟩ := flow_parts h.flow
  have hm := (fits_parts h1).1
  obtain ⟨M, hM⟩ := lev_there (caps := caps) (f := b) hm rfl h2
  have s0 := h2.1
  have t0 := h3.1
  have e1 : ((s.toNat : Nat) : Int) = s := by omega
  have e2 : ((t.toNat : Nat) : Int) = t := by omega
  rcases h.shut with e | e
  · exact absurd e hk
  · have hlt := e M hM
    refine ⟨fun v => decide (0 ≤ lvAt M (v : Int)), ?_, ?_, ?_⟩
    · simp only [e1, hM.src]; decide
    · simp only [e2, decide_eq_false_iff_not]; omega
    · rw [← h.val]; exact flow_reach h.flow hM hlt

def leastC (V : Nat) (L : List Lk) (caps : List Int) (s t : Nat) : Int := leastN (fun B => B.testBit s && !B.testBit t) (fun B => cutW (fun v => B.testBit v) L caps L.length) (2 ^ V)

theorem least_under {V : Nat} {L : List Lk} {caps : List Int} {s t : Nat} (hm : mayG (V : Nat) L = true) (h1 : s < V) (h2 : t < V) {p : Nat → Bool} (hs : p s = true) (ht : p t = false) : leastC V L caps s t ≤ cutW p L caps L.length := by
  obtain ⟨B, b1, b2⟩ := bits_of p V
  have := least_hit (ok := fun B => B.testBit s && !B.testBit t) (w := fun B => cutW (fun v => B.testBit v) L caps L.length) (B := B) (by simp only [b2 s h1, b2 t h2, hs, ht]; rfl) (2 ^ V) b1
  rw [← cutW_congr (caps := caps) hm b2]
  exact this

/-- As great as is wanted, or as the least cut. -/
theorem psh_least {V : Nat} {L : List Lk} {caps b : List Int} {s t : Nat} {want k : Int} (h : PshIs V L caps (s : Int) (t : Int) want b k) : k = if want < leastC V L caps s t then want else leastC V L caps s t := by
  obtain ⟨h1, h2, h3, _⟩ := flow_parts h.flow
  have hm := (fits_parts h1).1
  have s1 := h2.2
  have t1 := h3.2
  have lo : k ≤ leastC V L caps s t := least_low (psh_low h).2 (2 ^ V) (fun B _ hB => by
    simp only [Bool.and_eq_true, Bool.not_eq_true'] at hB
    exact psh_under h (p := fun v => B.testBit v) hB.1 hB.2)
  have hh := h.high
  by_cases e : k = want
  · by_cases q : want < leastC V L caps s t
    · rw [if_pos q]; exact e
    · rw [if_neg q]; omega
  · obtain ⟨p, hs, ht, hc⟩ := psh_cut h e
    rw [Int.toNat_natCast] at hs ht
    have := least_under (caps := caps) hm (by omega) (by omega) hs ht
    rw [if_neg (by omega)]
    omega

/-- More wanted is never less. -/
theorem psh_more {V : Nat} {L : List Lk} {caps f g : List Int} {s t a b x y : Int} (h1 : PshIs V L caps s t a f x) (h2 : PshIs V L caps s t b g y) (hab : a ≤ b) : x ≤ y ∧ (y < a ∨ x = a) ∧ (x = a ∨ x = y) := by
  have a1 := h1.high
  have le : x ≤ y := by
    by_cases e : y = b
    · omega
    · obtain ⟨p, hs, ht, hc⟩ := psh_cut h2 e
      rw [hc]
      exact psh_under h1 hs ht
  by_cases e : x = a
  · exact ⟨le, .inr e, .inl e⟩
  · obtain ⟨p, hs, ht, hc⟩ := psh_cut h1 e
    have := psh_under h2 hs ht
    exact ⟨le, .inl (by omega), .inr (by omega)⟩

theorem gk_turn (L : List Lk) (f : List Int) (v : Int) : ∀ k, k ≤ L.length → gk (turnK L L.length) f v k = -gk L f v k
  | 0, _ => by simp [gk]
  | k + 1, hk => by
    have ih := gk_turn L f v k (by omega)
    have ht := turn_at L L.length k (by omega)
    rw [if_pos (by omega)] at ht
    rw [gk, gk, ih, outP, inP, outP, inP, ht]
    generalize (if (at3 L k).1 = v then f[k]?.getD 0 else 0) = x
    generalize (if (at3 L k).2.1 = v then f[k]?.getD 0 else 0) = y
    omega

theorem gain_turn (L : List Lk) (f : List Int) (v : Int) : gainOf (turnK L L.length) f v = -gainOf L f v := by
  rw [gainOf, turn_len, gk_turn L f v _ (Nat.le_refl _)]
  rfl

theorem capsB_turn {L : List Lk} {caps : List Int} (h : capsB L caps = true) : capsB (turnK L L.length) caps = true := by
  obtain ⟨h1, h2⟩ := capsB_parts h
  refine capsB_all (by rw [turn_len]; exact h1) ?_
  rw [List.all_eq_true]
  intro i hi
  rw [List.mem_range, h1] at hi
  have := h2 i hi
  unfold capI at this
  rw [capB, turn_at L _ i hi, if_pos hi]
  simp only [Bool.and_eq_true, decide_eq_true_eq]
  exact this

/-- All links turned, from the sink to the source: the same is a flow. -/
theorem flow_turn {V : Nat} {L : List Lk} {caps f : List Int} {s t : Int} (h : flowB (V : Nat) L caps f s t = true) : flowB (V : Nat) (turnK L L.length) caps f t s = true ∧ gainOf (turnK L L.length) f t = gainOf L f s := by
  obtain ⟨h1, h2, h3, h4, h5, h6⟩ := flow_parts h
  obtain ⟨f1, f2, f3, f4⟩ := fits_parts h1
  have he := flow_ends h
  have hg : gainOf (turnK L L.length) f t = gainOf L f s := by rw [gain_turn, he]; omega
  refine ⟨?_, hg⟩
  simp only [flowB, fitsF, may_turn f1, capsB_turn f2, f3, hg, Bool.and_eq_true, Bool.not_eq_true', beq_eq_false_iff_ne, decide_eq_true_eq, isV, List.all_eq_true, List.mem_range, Int.toNat_natCast]
  refine ⟨⟨⟨⟨⟨⟨trivial, trivial⟩, trivial⟩, ⟨h3.1, h3.2⟩, h2.1, h2.2⟩, fun e => h4 e.symm⟩, h5⟩, fun v hv => ?_⟩
  simp only [restB, gain_turn, Bool.or_eq_true, beq_iff_eq]
  by_cases e1 : (v : Int) = s
  · exact .inl (.inr e1)
  · by_cases e2 : (v : Int) = t
    · exact .inl (.inl e2)
    · right
      rw [h6 v hv e1 e2]
      rfl

theorem turn_twice (L : List Lk) : turnK (turnK L L.length) L.length = L := by
  have e : turnK (turnK L L.length) (turnK L L.length).length = L := by
    rw [turn_map, turn_map, List.map_map]
    have : turnL ∘ turnL = id := by funext l; rfl
    rw [this, List.map_id]
  rw [turn_len] at e
  exact e

theorem psh_turn {V : Nat} {L : List Lk} {caps f g : List Int} {s t want j k : Int} (h1 : PshIs V L caps s t want f k) (h2 : PshIs V (turnK L L.length) caps t s want g j) : j = k := by
  have a1 := h1.high
  have a2 := h2.high
  have u1 : k ≤ j := by
    by_cases e : j = want
    · omega
    · obtain ⟨p, hs, ht, hc⟩ := psh_cut h2 e
      obtain ⟨q1, q2⟩ := flow_turn h1.flow
      rw [hc, ← h1.val, ← q2]
      exact flow_cut q1 hs ht
  have u2 : j ≤ k := by
    by_cases e : k = want
    · omega
    · obtain ⟨p, hs, ht, hc⟩ := psh_cut h1 e
      obtain ⟨q1, q2⟩ := flow_turn h2.flow
      rw [turn_len, turn_twice] at q1 q2
      rw [hc, ← h2.val, ← q2]
      exact flow_cut q1 hs ht
  omega

/-- On one link less: a cut is worth less by no more than that. -/
theorem cut_less (p : Nat → Bool) (L : List Lk) {caps : List Int} {i : Nat} {y : Int} (hi : i < caps.length) (hy : 0 ≤ y) : ∀ n, cutW p L (caps.set i (caps[i]?.getD 0 - y)) n ≤ cutW p L caps n ∧ cutW p L caps n ≤ cutW p L (caps.set i (caps[i]?.getD 0 - y)) n + (if i < n then y else 0)
  | 0 => by simp [cutW, sumN]
  | n + 1 => by
    have ih := cut_less p L hi hy n
    unfold cutW at ih ⊢
    rw [sumN, sumN, put_get hi]
    generalize sumN (fun v => if (p (at3 L v).1.toNat && !p (at3 L v).2.1.toNat) = true then (caps.set i (caps[i]?.getD 0 - y))[v]?.getD 0 else 0) n = A at *
    generalize sumN (fun v => if (p (at3 L v).1.toNat && !p (at3 L v).2.1.toNat) = true then caps[v]?.getD 0 else 0) n = B at *
    by_cases e : n = i
    · subst e
      rw [if_neg (Nat.lt_irrefl n)] at ih
      rw [if_pos rfl, if_pos (Nat.lt_succ_self n)]
      split <;> omega
    · rw [if_neg e]
      have q : (i < n + 1) ↔ (i < n) := by omega
      simp only [q]
      split <;> omega

theorem psh_less {V : Nat} {L : List Lk} {caps f g : List Int} {s t want j k y : Int} {i : Nat} (h1 : PshIs V L caps s t want f k) (h2 : PshIs V L (caps.set i (caps[i]?.getD 0 - y)) s t want g j) (hi : i < caps.length) (hy : 0 ≤ y) : j ≤ k ∧ k - j ≤ y := by
  have a1 := h1.high
  have a2 := h2.high
  have u1 : j ≤ k := by
    by_cases e : k = want
    · omega
    · obtain ⟨p, hs, ht, hc⟩ := psh_cut h1 e
      have := psh_under h2 hs ht
      have := (cut_less p L hi hy L.length).1
      omega
  refine ⟨u1, ?_⟩
  by_cases e : j = want
  · omega
  · obtain ⟨p, hs, ht, hc⟩ := psh_cut h2 e
    have q1 := psh_under h1 hs ht
    have q2 := (cut_less p L hi hy L.length).2
    split at q2 <;> omega

/-- Caps with less on one link are caps still. -/
theorem caps_less {L : List Lk} {caps : List Int} {i : Nat} {y : Int} (h : capsB L caps = true) (hi : i < caps.length) (h0 : 0 ≤ y) (h1 : y ≤ caps[i]?.getD 0) : capsB L (caps.set i (caps[i]?.getD 0 - y)) = true := by
  refine caps_in h (set_rates ?_ hi (by omega) (by omega))
  exact ratesB_mk rfl fun j hj => ⟨((capsB_parts h).2 j (by rw [← (capsB_parts h).1]; exact hj)).1, Int.le_refl _⟩

/-- A set of vertices, as it is given: what leaves it. -/
theorem wk_mem (L : List Lk) (caps vs : List Int) {V : Nat} (hm : mayG (V : Nat) L = true) : ∀ k, k ≤ L.length → wk L caps vs k = cutW (fun v => decide ((v : Int) ∈ vs)) L caps k
  | 0, _ => rfl
  | k + 1, hk => by
    have hj := may_joins hm (i := k) (by omega)
    have ih := wk_mem L caps vs hm k (by omega)
    unfold cutW at ih ⊢
    have e1 : (((at3 L k).1.toNat : Nat) : Int) = (at3 L k).1 := by have := hj.1; omega
    have e2 : (((at3 L k).2.1.toNat : Nat) : Int) = (at3 L k).2.1 := by have := hj.2.2.1; omega
    rw [wk, sumN, ih, leaves]
    simp only [e1, e2]
    rfl

theorem lev_only {V : Nat} {L : List Lk} {caps f M N : List Int} {s t : Int} (h : flowB (V : Nat) L caps f s t = true) (hN : IsLv V (Leads L caps f (2 * L.length)) s N) (hM : IsLv V (Leads L caps f (2 * L.length)) s M) : N = M :=
  lev_one (leads_in (fits_parts (flow_parts h).1).1 rfl) (fun _ _ => Iff.rfl) hN hM

/-- The way there: a flow, what it is worth, no more than is wanted. -/
structure PshI (V : Nat) (L : List Lk) (caps : List Int) (s t want : Int) (f : List Int) (k : Int) : Prop where
  flow : flowB (V : Nat) L caps f s t = true
  val : gainOf L f s = k
  high : k ≤ want

theorem pshi_first {V : Nat} {L : List Lk} {caps : List Int} {s t want : Int} (h1 : mayG (V : Nat) L = true) (h2 : capsB L caps = true) (hs : inV V s) (ht : inV V t) (hst : s ≠ t) (hw : 0 ≤ want) : PshI V L caps s t want (List.replicate L.length 0) 0 := by
  have r := round_first h1 h2 hs ht hst
  exact ⟨r.flow, r.val, hw⟩

theorem pshi_next {V : Nat} {L : List Lk} {caps f b M : List Int} {s t want k j : Int} (h : PshI V L caps s t want f k) (hb : BlkIs V L caps f s t (want - k) b j M) : PshI V L caps s t want b (k + j) := by
  have := hb.high
  exact ⟨hb.flow, by rw [hb.val, h.val], by omega⟩

theorem pshi_full {V : Nat} {L : List Lk} {caps f : List Int} {s t want : Int} (h : PshI V L caps s t want f want) : PshIs V L caps s t want f want := ⟨h.flow, h.val, h.high, .inl rfl⟩

/-- Nothing more is pushed: the sink can't be reached. -/
theorem pshi_shut {V : Nat} {L : List Lk} {caps f b M : List Int} {s t want k : Int} (h : PshI V L caps s t want f k) (hM : IsLv V (Leads L caps f (2 * L.length)) s M) (hb : BlkIs V L caps f s t (want - k) b 0 M) (hk : k < want) : PshIs V L caps s t want f k ∧ b = f := by
  have hh : lvAt M t < 0 := by
    by_cases q : lvAt M t < 0
    · exact q
    · have := blk_some h.flow hM hb (by omega) (by omega)
      omega
  refine ⟨⟨h.flow, h.val, h.high, .inr fun N hN => ?_⟩, (blk_stays h.flow hM hb hh).2⟩
  rw [lev_only h.flow hN hM]
  exact hh

/-- The sink can't be reached: as it is. -/
theorem pshi_end {V : Nat} {L : List Lk} {caps f M : List Int} {s t want k : Int} (h : PshI V L caps s t want f k) (hM : IsLv V (Leads L caps f (2 * L.length)) s M) (hh : lvAt M t < 0) : PshIs V L caps s t want f k := by
  refine ⟨h.flow, h.val, h.high, .inr fun N hN => ?_⟩
  rw [lev_only h.flow hN hM]
  exact hh

end Go.Proofs.Ytppcncblmakekaa

set_option maxRecDepth 20000
namespace Go.Proofs.Ytppcncblmakekaa
open Go.RowKit

def pshB (V : Int) (ls : List Lk) (caps : List Int) (s t want : Int) : Bool := mayG V ls && capsB ls caps && (isV V s && isV V t) && !(s == t) && decide (0 ≤ want) && decide (want ≤ 4611686018427387904)

/-- What Push may tell. -/
def PushIs (V : Int) (ls : List Lk) (caps : List Int) (s t want : Int) (b : List Int) (k z : Int) : Prop :=
  (pshB V ls caps s t want = true ∧ z = 0 ∧ PshIs V.toNat ls caps s t want b k) ∨ (pshB V ls caps s t want = false ∧ z = 1200 ∧ b = [] ∧ k = 0)

def MostPost (w : World) (V : Int) (ls : List Lk) (caps : List Int) (s t want : Int) (e : Ending) (w' : World) : Prop :=
  ∃ b k z, PushIs V ls caps s t want b k z ∧ ∃ v, e = .returned (blkV v k z) ∧ Mine w' w.heap.size v b.length b ∧ w.grownBy w' none

theorem pshB_parts {V : Int} {ls : List Lk} {caps : List Int} {s t want : Int} (h : pshB V ls caps s t want = true) : mayG V ls = true ∧ capsB ls caps = true ∧ (0 ≤ s ∧ s < V) ∧ (0 ≤ t ∧ t < V) ∧ s ≠ t ∧ 0 ≤ want ∧ want ≤ 4611686018427387904 := by
  simp only [pshB, isV, Bool.and_eq_true, decide_eq_true_eq, Bool.not_eq_true', beq_eq_false_iff_ne] at h
  exact ⟨h.1.1.1.1.1, h.1.1.1.1.2, h.1.1.1.2.1, h.1.1.1.2.2, h.1.1.2, h.1.2, h.2⟩

theorem most_no {w w' : World} {V : Int} {ls : List Lk} {caps : List Int} {s t want : Int} {e : Ending} (hb : pshB V ls caps s t want = false) (he : e = .returned (blkV (.slice none 0 0) 0 1200)) (g : w.grownBy w' none) : MostPost w V ls caps s t want e w' :=
  ⟨[], 0, 1200, .inr ⟨hb, rfl, rfl, rfl⟩, _, he, Mine.nil _ _, g⟩

theorem most_yes {w w' : World} {vn : Nat} {ls : List Lk} {caps b : List Int} {s t want k : Int} {v : Value} {n : Nat} {e : Ending} (hb : pshB (vn : Nat) ls caps s t want = true) (h : PshIs vn ls caps s t want b k) (hn : b.length = n) (he : e = .returned (blkV v k 0)) (m : Mine w' w.heap.size v n b) (g : w.grownBy w' none) : MostPost w (vn : Nat) ls caps s t want e w' := by
  subst hn
  exact ⟨b, k, 0, .inl ⟨hb, rfl, by rw [Int.toNat_natCast]; exact h⟩, v, he, m, g⟩

def MostRel (w : World) (vn : Nat) (A : Option Addr) (n c : Nat) (ls : List Lk) (caps : List Int) (s t want : Int) (u a : Value) (wr : World) : Prop :=
  ∃ (f : List Int) (k : Int) (Af : Option Addr) (cf : Nat), a = .int .i64 k ∧ u = .slice Af n cf ∧ w.grownBy wr none ∧ Own wr w.heap.size 24 [.int .i64 (vn : Nat), .slice A n c] ∧ Mine wr w.heap.size (.slice Af n cf) n f ∧ PshI vn ls caps s t want f k

theorem caps_okI {V : Int} {ls : List Lk} {f : List Int} (f1 : mayG V ls = true) (f4 : capsB ls f = true) : okI f := by
  intro i
  have hl := (capsB_parts f4).1
  by_cases hi : i < ls.length
  · have hb := f_bd f4 hi
    have h5 := may_sum f1 (i + 1) (by omega)
    have h6 := (gk_bd (f := f) 0 f4 i (by omega)).1
    rw [capSum] at h5
    omega
  · rw [List.getElem?_eq_none (by omega)]
    simp

theorem flow_okI {V : Int} {ls : List Lk} {caps f : List Int} {s t : Int} (h : flowB V ls caps f s t = true) : okI f := by
  obtain ⟨f1, _, _, f4⟩ := fits_parts (flow_may h)
  exact caps_okI f1 f4

theorem pshB_mk {V : Int} {ls : List Lk} {caps : List Int} {s t want : Int} (h1 : mayG V ls = true) (h2 : capsB ls caps = true) (h3 : 0 ≤ s ∧ s < V) (h4 : 0 ≤ t ∧ t < V) (h5 : s ≠ t) (h6 : 0 ≤ want) (h7 : want ≤ 4611686018427387904) : pshB V ls caps s t want = true := by
  simp [pshB, isV, h1, h2, h3.1, h3.2, h4.1, h4.2, h5, h6, h7]

/-- What is told where it may be. -/
theorem push_yes {V : Int} {ls : List Lk} {caps : List Int} {s t want : Int} {b : List Int} {k z : Int} (h : PushIs V ls caps s t want b k z) (hb : pshB V ls caps s t want = true) : z = 0 ∧ PshIs V.toNat ls caps s t want b k := by
  rcases h with ⟨_, h2, h3⟩ | ⟨h1, _⟩
  · exact ⟨h2, h3⟩
  · rw [hb] at h1; cases h1

set_option maxRecDepth 20000 in
set_option maxHeartbeats 4000000 in
theorem Push_any (V s t want : Int) (A : Option Addr) (n c : Nat) (ls : List Lk) (X : Option Addr) (m d : Nat) (caps : List Int) (w : World) {B B' : Nat} (h : Lks w B A n ls) (hB : B ≤ w.heap.size) (hx : Row w B' X m caps) (hB' : B' ≤ w.heap.size) :
    Calls Try.prog 16 #[.agg #[.int .i64 V, .slice A n c], .slice X m d, .int .i64 s, .int .i64 t, .int .i64 want] w (MostPost w V ls caps s t want) := by
  have HL := Lib.hid h.len
  have HR := Lib.hid h
  have HX := Lib.hid hx
  have HG0 := Lib.hid (grow0 w (.cells #[.int .i64 V, .slice A n c] 24))
  have HE : Hid (pshB V ls caps s t want = (mayG V ls && capsB ls caps && (isV V s && isV V t) && !(s == t) && decide (0 ≤ want) && decide (want ≤ 4611686018427387904))) := rfl
  clear h hx
  go_enter Try.func16, Try.ntmps16
  go_wp2_with fail
  refine (GMay_any V A n c ls _ (HR.out.grown hB HG0.out) (by simp; omega)).mono ?_
  rintro e w1 ⟨rfl, g1⟩
  obtain ⟨g, o2⟩ := box1 [.int .i64 V, .slice A n c] g1
  have G := Lib.hid g
  have OB := Lib.hid o2
  clear g g1 o2 HG0
  obtain ⟨p0, p1⟩ := OB.out.two
  cases hm : mayG V ls
  · have E : Hid (pshB V ls caps s t want = false) := by rw [Hid, HE.out, hm]; rfl
    clear HE hm
    go_wp2
    go_ret3
    exact most_no E.out rfl G.out
  have h8 := may_small hm
  rw [HL.out] at h8
  obtain ⟨vn, rfl⟩ : ∃ vn : Nat, V = (vn : Nat) := ⟨V.toNat, by omega⟩
  have HMAY := Lib.hid hm
  clear hm
  go_wp2_with fail
  refine (areCaps_any (vn : Nat) A n c ls X m d caps _ (HR.out.grown hB G.out) (HX.out.grown hB' G.out) (by have := G.out.size; omega) (by omega)).mono ?_
  rintro e w2 ⟨rfl, k⟩
  have G := Lib.hid (grown_trans G.out k)
  have OB := Lib.hid (OB.out.kept k)
  clear k p0 p1
  obtain ⟨p0, p1⟩ := OB.out.two
  cases hc : capsB ls caps
  · have E : Hid (pshB (vn : Nat) ls caps s t want = false) := by rw [Hid, HE.out, HMAY.out, hc]; rfl
    clear HE hc
    go_wp2
    go_ret3
    exact most_no E.out rfl G.out
  have HCAP := Lib.hid hc
  clear hc
  go_wp2_with fail
  refine (Vert2_any (vn : Nat) s t A n c _ rfl).mono ?_
  rintro e w3 ⟨rfl, k⟩
  have G := Lib.hid (grown_trans G.out k)
  have OB := Lib.hid (OB.out.kept k)
  clear k p0 p1
  obtain ⟨p0, p1⟩ := OB.out.two
  cases hst : (isV (vn : Nat) s && isV (vn : Nat) t)
  · have E : Hid (pshB (vn : Nat) ls caps s t want = false) := by rw [Hid, HE.out, HMAY.out, HCAP.out, hst]; rfl
    clear HE hst
    go_wp2
    go_ret3
    exact most_no E.out rfl G.out
  have HST := Lib.hid hst
  clear hst
  by_cases he : s = t
  · have E : Hid (pshB (vn : Nat) ls caps s t want = false) := by rw [Hid, HE.out, he]; simp
    clear HE
    have q1 : (s == t) = true := by simp [he]
    clear he
    go_wp2
    go_ret3
    exact most_no E.out rfl G.out
  have q1 : (s == t) = false := by simp [he]
  by_cases m0 : want < 0
  · have E : Hid (pshB (vn : Nat) ls caps s t want = false) := by
      have q : decide (0 ≤ want) = false := by simp [m0]
      rw [Hid, HE.out, q]; simp
    clear HE he
    go_wp2
    go_ret3
    exact most_no E.out rfl G.out
  by_cases m1 : 4611686018427387904 < want
  · have E : Hid (pshB (vn : Nat) ls caps s t want = false) := by
      have q : decide (want ≤ 4611686018427387904) = false := by simp [m1]
      rw [Hid, HE.out, q]; simp
    clear HE he
    go_wp2
    go_ret3
    exact most_no E.out rfl G.out
  have E : Hid (pshB (vn : Nat) ls caps s t want = true) := by
    have qa : decide (0 ≤ want) = true := by simp; omega
    have qb : decide (want ≤ 4611686018427387904) = true := by simp; omega
    rw [Hid, HE.out, HMAY.out, HCAP.out, HST.out, q1, qa, qb]; rfl
  clear HE HST
  obtain ⟨_, _, hs, ht, _⟩ := pshB_parts E.out
  have PF := Lib.hid (pshi_first (L := ls) (caps := caps) HMAY.out HCAP.out hs ht he (show 0 ≤ want by omega))
  obtain ⟨i0, hi, hz0, hz1, hz2⟩ := info_parts info3
  have HI := Lib.hid hi
  have HZ0 := Lib.hid hz0
  have HZ1 := Lib.hid hz1
  have HZ2 := Lib.hid hz2
  clear hi hz0 hz1 hz2 he hs ht
  go_wp2_with (first | (refine wpList_make_full _ rfl _ _ 25 rfl w3.heap.size 3 i0 (.int .i64 0) 1 Try.underlying25 HI.out HZ0.out HZ1.out .i64 .i64 (n : Int) (n : Int) n rfl rfl rfl rfl (by rw [HZ2.out]; omega) (by unfold maxLen; omega) (Nat.le_refl _) ?_))
  intro w4 hmk k2
  rw [toList_madeCells_one, ints_zero] at hmk
  have oz := Own.of_made hmk
  have hge : w.heap.size ≤ w3.heap.size := G.out.size
  have rz := Own.mine (n := n) (base := w.heap.size) oz hge (by simp) (by omega)
  have pf := PF.out
  rw [HL.out] at pf
  have HS : Hid (MostRel w vn A n c ls caps s t want (.slice (some ⟨w3.heap.size, 0, none⟩) n n) (.int .i64 0) w4) := ⟨_, 0, _, n, rfl, rfl, grown_trans G.out k2, OB.out.kept k2, rz, pf⟩
  clear hmk k2 oz rz pf hge PF G OB p0 p1 HI HZ0 HZ1 HZ2
  go_wp2
  go_loopw [13, 14] (fun u a wr => MostRel w vn A n c ls caps s t want u a wr) (fun _ a _ => want.toNat - (intOf a).toNat)
  case atStart => exact HS.out
  case round =>
    clear HS
    obtain ⟨f, k, Af, cf, rfl, rfl, hg, ob, mf, pi⟩ := hrel
    have G := Lib.hid hg
    have OB := Lib.hid ob
    have MF := Lib.hid mf
    have OKF := Lib.hid (flow_okI pi.flow)
    have RF := Lib.hid (mf.rowAt OKF.out)
    have PI := Lib.hid pi
    have hsz := ob.lt
    obtain ⟨p0, p1⟩ := ob.two
    have hk0 := flow_most pi.flow
    rw [pi.val] at hk0
    have hk1 := pi.high
    have FL := Lib.hid (flow_len pi.flow)
    clear hg ob mf pi
    by_cases hlt : k < want
    · obtain ⟨_, hs2, _⟩ := flow_parts PI.out.flow
      obtain ⟨M, hM⟩ := lev_there (caps := caps) (f := f) HMAY.out rfl hs2
      have LV := Lib.hid hM
      clear hs2 hM
      have e1 : IntKind.i64.wrap (want - k) = want - k := IntWalk.i64_in _ (by omega)
      go_wp2_with fail
      refine (Block_any (vn : Nat) s t (want - k) A n c ls X m d caps Af n cf f _ (HR.out.grown hB G.out) (by omega) (HX.out.grown hB' G.out) (by omega) RF.out (Nat.le_refl _)).mono ?_
      rintro e w5 ⟨b, j, z, hb, v5, rfl, h5, k5⟩
      have hbB : blkB (vn : Nat) ls caps f s t (want - k) = true := by
        rw [blkB, PI.out.flow]
        have qa : decide (0 ≤ want - k) = true := by simp; omega
        have qb : decide (want - k ≤ 4611686018427387904) = true := by simp; omega
        rw [qa, qb]; rfl
      obtain ⟨okb, _⟩ := Block_okI hb
      obtain ⟨rfl, hbk⟩ : z = 0 ∧ BlkIs vn ls caps f s t (want - k) b j M := by
        rcases hb with ⟨_, hz, M', hM', hk⟩ | ⟨h1, _⟩
        · rw [Int.toNat_natCast] at hM' hk
          obtain rfl := lev_one (leads_in HMAY.out rfl) (fun _ _ => Iff.rfl) LV.out hM'
          exact ⟨hz, hk⟩
        · rw [hbB] at h1; cases h1
      obtain ⟨Ab, cb, rfl, _, _, _⟩ := h5.rowN okb
      have hbn : b.length = n := by rw [flow_len hbk.flow, HL.out]
      rw [hbn] at h5 ⊢
      have MB := Lib.hid (h5.wide G.out.size)
      have G5 := Lib.hid (grown_trans G.out k5)
      have O5 := Lib.hid (OB.out.kept k5)
      have M5 := Lib.hid (MF.out.kept k5)
      have BK := Lib.hid hbk
      have jl := hbk.low
      have jh := hbk.high
      clear h5 k5 hb okb hbk hbB hbn RF p0 p1 G OB MF
      unfold blkV
      by_cases hj : j = 0
      · subst hj
        have PE := Lib.hid (pshi_shut PI.out LV.out BK.out hlt).1
        clear BK PI LV
        go_wp2
        go_ret3
        exact most_yes E.out PE.out (by rw [FL.out, HL.out]) rfl M5.out G5.out
      · have hjb : (j == 0) = false := by simp [hj]
        have PN := Lib.hid (pshi_next PI.out BK.out)
        have e2 : IntKind.i64.wrap (k + j) = k + j := IntWalk.i64_in _ (by omega)
        clear BK PI LV M5
        go_wp2
        go_roundw
        case rel => exact ⟨b, k + j, Ab, cb, rfl, rfl, G5.out, O5.out, MB.out, PN.out⟩
        case measure => simp [intOf]; omega
    · obtain rfl : k = want := by omega
      have PE := Lib.hid (pshi_full PI.out)
      go_wp2
      go_ret3
      exact most_yes E.out PE.out (by rw [FL.out, HL.out]) rfl MF.out G.out

theorem push_okI {V : Int} {ls : List Lk} {caps : List Int} {s t want : Int} {b : List Int} {k z : Int} (h : PushIs V ls caps s t want b k z) : okI b ∧ b.length ≤ 16 ∧ 0 ≤ k ∧ k ≤ 4611686018427387904 := by
  rcases h with ⟨h1, _, h3⟩ | ⟨_, _, rfl, rfl⟩
  · have h8 := may_small (pshB_parts h1).1
    have hl := flow_len h3.flow
    exact ⟨flow_okI h3.flow, by omega, psh_low h3⟩
  · exact ⟨fun i => by simp, by simp, by omega, by omega⟩

end Go.Proofs.Ytppcncblmakekaa
