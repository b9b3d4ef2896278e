/-
  block.Block, walked. What every program answers that is one: layer 11's awake. The law BlockForms, walked. Proved here: for every input that can be read as data, the law BlockForms returns true and leaves its arguments as they read before. No condition.
-/
import Derived.Test.YtcilhidoiomfkaaPushE
import Derived.Test.YtcilhidoiomfkaaPushC
import Derived.Test.YtcilhidoiomfkaaFlowC
import Derived.OwnWalk
import Derived.Test.YtcilhidoiomfkaaBlocks
import Derived.Test.YtcilhidoiomfkaaLevelLawC
import Derived.Test.YtcilhidoiomfkaaFrame

namespace Go.Proofs.Ytcilhidoiomfkaa
open Go.RowKit

def blkV (v : Value) (k z : Int) : Value := .tuple #[v, .int .i64 k, .int .i64 z]

def YesPost (w : World) (N : Net) (most : Int) (e : Ending) (w' : World) : Prop :=
  ∃ b k, BlkIs N.V N.ls N.caps N.f N.s N.t most b k N.M ∧ ∃ v, e = .returned (blkV v k 0) ∧ Mine w' w.heap.size v b.length b ∧ w.grownBy w' none

set_option maxRecDepth 20000 in
set_option maxHeartbeats 2000000 in
theorem Block_yes (N : Net) (ok : N.Ok) (A : Option Addr) (c : Nat) (X : Option Addr) (m d : Nat) (Y : Option Addr) (r e0 : Nat) (most : Int) (w : World) {B B' B'' : Nat} (h : Lks w B A N.n N.ls) (hB : B ≤ w.heap.size) (hx : Row w B' X m N.caps) (hB' : B' ≤ w.heap.size) (hy : Row w B'' Y r N.f) (hB'' : B'' ≤ w.heap.size) (m0 : 0 ≤ most) (m1 : most ≤ 4611686018427387904) :
    Calls Try.prog 9 #[.agg #[.int .i64 (N.V : Nat), .slice A N.n c], .slice X m d, .slice Y r e0, .int .i64 N.s, .int .i64 N.t, .int .i64 most] w (YesPost w N most) := by
  have OK := Lib.hid ok
  have h8 := may_small ok.may
  rw [ok.hl] at h8
  have HR := Lib.hid h
  have HX := Lib.hid hx
  have HY := Lib.hid hy
  have HFL := Lib.hid ok.flow
  obtain ⟨_, ⟨s0, s1⟩, _⟩ := flow_parts ok.flow
  obtain ⟨sn, hsn⟩ : ∃ sn : Nat, N.s = (sn : Int) := ⟨N.s.toNat, by omega⟩
  have HSN := Lib.hid hsn
  have hlev : Hid (0 ≤ N.lev (sn : Int) ∧ (N.V : Int) ≤ N.lev (sn : Int) + N.V) := by
    have := ok.lv.src
    unfold Net.lev
    rw [← hsn, this]
    constructor <;> omega
  have hsv : sn < N.V := by rw [hsn] at s1; omega
  obtain ⟨pi, hbf⟩ := pi_first ok
  have PI1 := Lib.hid pi
  have HBF := Lib.hid hbf
  have HG0 := Lib.hid (grow0 w (.cells #[.int .i64 (N.V : Nat), .slice A N.n c] 24))
  clear h hx hy ok hsn s0 s1 pi hbf
  go_enter Try.func9, Try.ntmps9
  go_wp2_with fail
  refine (FMay_any (N.V : Nat) N.s N.t A N.n c N.ls X m d N.caps Y r e0 N.f _ (HR.out.grown hB HG0.out) (by simp; omega) (HX.out.grown hB' HG0.out) (by simp; omega) (HY.out.grown hB'' HG0.out) (by simp; omega)).mono ?_
  rintro e w1 ⟨he, g1⟩
  rw [HFL.out] at he
  subst he
  obtain ⟨g, ob⟩ := box1 [.int .i64 (N.V : Nat), .slice A N.n c] g1
  have G := Lib.hid g
  have OB := Lib.hid ob
  clear g g1 ob HG0
  obtain ⟨p0, p1⟩ := OB.out.two
  go_wp2_with fail
  refine (bbegin_any N OK.out A c X m d Y r e0 _ (HR.out.grown hB G.out) (by have := G.out.size; omega) (HX.out.grown hB' G.out) (by have := G.out.size; omega) (HY.out.grown hB'' G.out) (by have := G.out.size; omega)).mono ?_
  rintro e w2 ⟨Az, cz, rA, rc, gO, B2, base, vs, rfl, g2, h1, h2, h3, h4, h5, oo, hv, hh, fam⟩
  have PS := Lib.hid (Pst.first (cz := cz) OK.out h3 h4 h5 oo hv hh fam)
  have hrb : Hid (∀ b, rBlk rA = some b → w.heap.size ≤ b) := by
    intro b hb
    have hr := fam.head
    rw [rooms_len] at hr
    have := G.out.size
    rcases hr.2 with ⟨e, _⟩ | ⟨g', cap, cur, e, b1, b2, _⟩
    · injection e with e1 _ _
      subst e1
      simp [rBlk] at hb
    · injection e with e1 _ _
      subst e1
      simp only [rBlk, Option.map_some, Option.some.injEq] at hb
      omega
  have hgo : w.heap.size ≤ gO := by have := G.out.size; omega
  have G := Lib.hid (grown_trans (grown_trans G.out g2) (grow0 w2 (.cells #[.int .i64 N.t, .slice Az (2 * N.n) cz, .slice rA (2 * N.n) rc, .slice (some ⟨gO, 0, none⟩) N.V N.V] 50)))
  clear g2 oo hh fam OB p0 p1
  go_upto_region 4 with fail
  obtain ⟨q, hq⟩ : ∃ q, w2.heap.size = q := ⟨_, rfl⟩
  rw [hq] at PS
  generalize w2.alloc (.cells #[.int .i64 N.t, .slice Az (2 * N.n) cz, .slice rA (2 * N.n) rc, .slice (some ⟨gO, 0, none⟩) N.V N.V] 50) = w3 at *
  have hsz := G.out.size
  rw [hq, HSN.out]
  go_wp2_with fail
  refine (push_any N OK.out q gO base Az cz rA rc N.V sn most _ _ _ vs PS.out PI1.out hsv hlev.out.1 hlev.out.2 m0 m1).mono ?_
  rintro e w4 ⟨k, R, O, vs4, rfl, pl, pe, ps, tr⟩
  have BK : Hid (BlkIs N.V N.ls N.caps N.f N.s N.t most (bOf R N.n) k N.M) := blk_of OK.out HBF.out (by rw [HSN.out]; exact pl) (by rw [HSN.out]; exact pe)
  have G := Lib.hid (Trn.grown G.out tr hrb.out hgo)
  have HQ := Lib.hid ps.oq
  have hokR : okI R := by
    intro i
    by_cases hi : i < 2 * N.n
    · have := pl.inv.bd OK.out hi
      unfold rAt at this
      omega
    · rw [List.getElem?_eq_none (by rw [pl.inv.lenR]; omega)]
      simp
  have RR := Lib.hid (ps.rm.rowAt hokR)
  clear pl pe ps tr hokR PS
  go_wp2_with fail
  refine (flow_any q N.n rc N.t _ _ rA R _ HQ.out RR.out (by omega)).mono ?_
  rintro e w5 ⟨v, rfl, mv, k5⟩
  have G5 := Lib.hid (grown_trans G.out k5)
  have MV := Lib.hid (mv.wide G.out.size)
  clear k5 mv
  go_wp2
  go_ret3
  exact ⟨_, k, BK.out, v, rfl, MV.out, G5.out⟩

theorem Block_no (V s t most : Int) (A : Option Addr) (n c : Nat) (ls : List Lk) (X : Option Addr) (m d : Nat) (caps : List Int) (Y : Option Addr) (r e0 : Nat) (f : List Int) (w : World) {B B' B'' : Nat} (h : Lks w B A n ls) (hB : B ≤ w.heap.size) (hx : Row w B' X m caps) (hB' : B' ≤ w.heap.size) (hy : Row w B'' Y r f) (hB'' : B'' ≤ w.heap.size) (hno : (flowB V ls caps f s t && decide (0 ≤ most) && decide (most ≤ 4611686018427387904)) = false) :
    Calls Try.prog 9 #[.agg #[.int .i64 V, .slice A n c], .slice X m d, .slice Y r e0, .int .i64 s, .int .i64 t, .int .i64 most] w (Says w (blkV (.slice none 0 0) 0 1100)) := by
  have HR := Lib.hid h
  have HX := Lib.hid hx
  have HY := Lib.hid hy
  have HN := Lib.hid hno
  have HG0 := Lib.hid (grow0 w (.cells #[.int .i64 V, .slice A n c] 24))
  clear h hx hy hno
  go_enter Try.func9, Try.ntmps9
  go_wp2_with fail
  refine (FMay_any V s t A n c ls X m d caps Y r e0 f _ (HR.out.grown hB HG0.out) (by simp; omega) (HX.out.grown hB' HG0.out) (by simp; omega) (HY.out.grown hB'' HG0.out) (by simp; omega)).mono ?_
  rintro e w1 ⟨rfl, g1⟩
  obtain ⟨g, _⟩ := box1 [.int .i64 V, .slice A n c] g1
  have G := Lib.hid g
  clear g g1 HG0
  have hno := HN.out
  clear HN
  cases hf : flowB V ls caps f s t
  · clear hno
    go_wp2
    go_ret3
    exact ⟨rfl, G.out⟩
  · rw [hf] at hno
    by_cases m0 : most < 0
    · clear hno
      go_wp2
      go_ret3
      exact ⟨rfl, G.out⟩
    · by_cases m1 : 4611686018427387904 < most
      · clear hno
        go_wp2
        go_ret3
        exact ⟨rfl, G.out⟩
      · have h1 : 0 ≤ most := by omega
        have h2 : most ≤ 4611686018427387904 := by omega
        simp [h1, h2] at hno

def blkB (V : Int) (ls : List Lk) (caps f : List Int) (s t most : Int) : Bool := flowB V ls caps f s t && decide (0 ≤ most) && decide (most ≤ 4611686018427387904)

/-- What Block may tell. -/
def BlockIs (V : Int) (ls : List Lk) (caps f : List Int) (s t most : Int) (b : List Int) (k z : Int) : Prop :=
  (blkB V ls caps f s t most = true ∧ z = 0 ∧ ∃ M, IsLv V.toNat (Leads ls caps f (2 * ls.length)) s M ∧ BlkIs V.toNat ls caps f s t most b k M) ∨ (blkB V ls caps f s t most = false ∧ z = 1100 ∧ b = [] ∧ k = 0)

def BlockPost (w : World) (V : Int) (ls : List Lk) (caps f : List Int) (s t most : Int) (e : Ending) (w' : World) : Prop :=
  ∃ b k z, BlockIs V ls caps f s t most b k z ∧ ∃ v, e = .returned (blkV v k z) ∧ Mine w' w.heap.size v b.length b ∧ w.grownBy w' none

theorem blkB_parts {V : Int} {ls : List Lk} {caps f : List Int} {s t most : Int} (h : blkB V ls caps f s t most = true) : flowB V ls caps f s t = true ∧ 0 ≤ most ∧ most ≤ 4611686018427387904 := by
  simp only [blkB, Bool.and_eq_true, decide_eq_true_eq] at h
  exact ⟨h.1.1, h.1.2, h.2⟩

theorem flow_may {V : Int} {L : List Lk} {caps f : List Int} {s t : Int} (h : flowB V L caps f s t = true) : fitsF V L caps f = true := by
  simp only [flowB, Bool.and_eq_true] at h
  exact h.1.1.1.1

theorem Block_any (V s t most : Int) (A : Option Addr) (n c : Nat) (ls : List Lk) (X : Option Addr) (m d : Nat) (caps : List Int) (Y : Option Addr) (r e0 : Nat) (f : List Int) (w : World) {B B' B'' : Nat} (h : Lks w B A n ls) (hB : B ≤ w.heap.size) (hx : Row w B' X m caps) (hB' : B' ≤ w.heap.size) (hy : Row w B'' Y r f) (hB'' : B'' ≤ w.heap.size) :
    Calls Try.prog 9 #[.agg #[.int .i64 V, .slice A n c], .slice X m d, .slice Y r e0, .int .i64 s, .int .i64 t, .int .i64 most] w (BlockPost w V ls caps f s t most) := by
  cases hb : blkB V ls caps f s t most
  · refine (Block_no V s t most A n c ls X m d caps Y r e0 f w h hB hx hB' hy hB'' hb).mono ?_
    rintro e w' ⟨rfl, g⟩
    exact ⟨[], 0, 1100, .inr ⟨hb, rfl, rfl, rfl⟩, _, rfl, Mine.nil _ _, g⟩
  · obtain ⟨h1, h2, h3⟩ := blkB_parts hb
    have hm := (fits_parts (flow_may h1)).1
    have h8 := may_small hm
    obtain ⟨vn, rfl⟩ : ∃ vn : Nat, V = (vn : Nat) := ⟨V.toNat, by omega⟩
    have hl := h.len
    subst hl
    obtain ⟨_, hs, _⟩ := flow_parts h1
    obtain ⟨M, hM⟩ := lev_there (caps := caps) (f := f) hm rfl hs
    refine (Block_yes ⟨vn, ls.length, ls, caps, f, M, s, t⟩ ⟨rfl, h1, hM⟩ A c X m d Y r e0 most w h hB hx hB' hy hB'' h2 h3).mono ?_
    rintro e w' ⟨b, k, hk, v, rfl, mv, g⟩
    exact ⟨b, k, 0, .inl ⟨hb, rfl, M, hM, hk⟩, v, rfl, mv, g⟩

theorem Block_okI {V : Int} {ls : List Lk} {caps f : List Int} {s t most : Int} {b : List Int} {k z : Int} (h : BlockIs V ls caps f s t most b k z) : okI b ∧ b.length ≤ 16 := by
  rcases h with ⟨h1, _, M, _, h3⟩ | ⟨_, _, rfl, _⟩
  · obtain ⟨f1, _, _, f4⟩ := fits_parts (flow_parts h3.flow).1
    have h8 := may_small f1
    have hl := flow_len h3.flow
    refine ⟨fun i => ?_, by omega⟩
    by_cases hi : i < ls.length
    · have hb := f_bd f4 hi
      have h5 := may_sum f1 (i + 1) (by omega)
      have h6 := (gk_bd (f := b) 0 f4 i (by omega)).1
      rw [capSum] at h5
      omega
    · rw [List.getElem?_eq_none (by omega)]
      simp
  · refine ⟨fun i => by simp, by simp⟩

end Go.Proofs.Ytcilhidoiomfkaa

namespace Go.Proofs.Ytcilhidoiomfkaa
open Go.RowKit

theorem small11_any (w : World) : Calls Try.prog 22 #[] w (SmallPost w) := by
  have HB := Lib.hid (box2 (w := w) (T := 24) (U := 56) [.int .i64 3, .slice (some ⟨w.heap.size + 1, 0, none⟩) 3 3] smallV (World.grownBy.refl _ none))
  go_enter Try.func22, Try.ntmps22
  go_wp2
  obtain ⟨g, o1, o2⟩ := HB.out
  exact post_graph rfl rfl o1.two.1 o1.two.2 rfl ⟨w.heap.size + 1, rfl, small_flat ▸ o2, by omega, g⟩

theorem BlockS {w0 w : World} {gs gc gf p q : Nat} {os : List (Nat × TypeId × List Value)} {s t most : Int} (caps f : List Int) (hcapsn : p = caps.length) (hcapsl : caps.length ≤ 1000) (hcapsb : caps.all bdB = true) (mcaps : (gc, 3, ints caps) ∈ os) (hfn : q = f.length) (hfl : f.length ≤ 1000) (hfb : f.all bdB = true) (mf : (gf, 3, ints f) ∈ os) (h : SB w0 w os) (ms : (gs, 56, linkE.flat smallL) ∈ os) :
    Calls Try.prog 9 #[.agg #[.int .i64 3, .slice (some ⟨gs, 0, none⟩) 3 3], .slice (some ⟨gc, 0, none⟩) p p, .slice (some ⟨gf, 0, none⟩) q q, .int .i64 s, .int .i64 t, .int .i64 most] w (BlockPost w 3 smallL caps f s t most) :=
  Block_any 3 s t most _ 3 3 smallL _ p p caps _ q q f w (h.lks ms) (Nat.le_refl _) (h.row caps mcaps hcapsn hcapsl hcapsb) (Nat.le_refl _) (h.row f mf hfn hfl hfb) (Nat.le_refl _)

theorem lv_small0 : IsLv 3 (Leads smallL [5, 4, 3] [0, 0, 0] (2 * smallL.length)) 0 [0, 1, 1] := by
  refine ⟨rfl, by decide, fun v hv => ?_, fun v hv => ?_, fun u v h => ?_, fun v hv => ?_⟩
  · rcases small_v hv with rfl | rfl | rfl <;> decide
  · rcases small_v hv with rfl | rfl | rfl <;> decide
  · obtain ⟨a, ha, rfl, rfl, hr⟩ := h
    have ha : a < 6 := ha
    rcases (show a = 0 ∨ a = 1 ∨ a = 2 ∨ a = 3 ∨ a = 4 ∨ a = 5 by omega) with rfl | rfl | rfl | rfl | rfl | rfl <;> revert hr <;> decide
  · rcases small_v hv with rfl | rfl | rfl
    · exact fun h => absurd h (by decide)
    · exact fun _ => ⟨0, ⟨0, by decide, by decide, by decide, by decide⟩, by decide⟩
    · exact fun _ => ⟨0, ⟨4, by decide, by decide, by decide, by decide⟩, by decide⟩

theorem small_may : mayG (3 : Nat) smallL = true := by decide

/-- Three numbers that are a flow in the small graph. -/
theorem small_flow {b : List Int} {caps : List Int} (h : flowB (3 : Nat) smallL caps b 0 2 = true) : ∃ x y : Int, b = [x, x, y] ∧ 0 ≤ x ∧ 0 ≤ y ∧ gainOf smallL b 0 = x + y ∧ (∀ i : Nat, i < 3 → b[i]?.getD 0 ≤ caps[i]?.getD 0) := by
  obtain ⟨h1, _, _, _, _, h6⟩ := flow_parts h
  obtain ⟨_, f2, f3, _⟩ := fits_parts h1
  have hl := flow_len h
  have hc := (capsB_parts f2).1
  match b, hl with
  | [x, y, z], _ =>
    have g1 := h6 1 (by omega) (by decide) (by decide)
    have e1 : gainOf smallL [x, y, z] ((1 : Nat) : Int) = y - x := by simp [gainOf, gk, outP, inP, at3, smallL]; omega
    have e0 : gainOf smallL [x, y, z] 0 = x + z := by simp [gainOf, gk, outP, inP, at3, smallL]
    rw [e1] at g1
    obtain rfl : y = x := by omega
    have hr : ∀ i : Nat, i < 3 → 0 ≤ [y, y, z][i]?.getD 0 ∧ [y, y, z][i]?.getD 0 ≤ caps[i]?.getD 0 := fun i hi => rates_at f3 (by rw [hc]; exact hi)
    exact ⟨y, z, rfl, (hr 0 (by omega)).1, (hr 2 (by omega)).1, e0, fun i hi => (hr i hi).2⟩

theorem blk_small1 {b : List Int} {k z : Int} (h : BlockIs 3 smallL [5, 4, 3] [0, 0, 0] 0 2 9 b k z) : b = [0, 0, 3] ∧ k = 3 ∧ z = 0 := by
  rcases h with ⟨_, hz, M, hM, hb⟩ | ⟨h1, _⟩
  · obtain rfl := lev_one (leads_in small_may rfl) (fun _ _ => Iff.rfl) lv_small0 hM
    obtain ⟨x, y, rfl, x0, y0, hg, hc⟩ := small_flow hb.flow
    have hv := hb.val
    rw [hg, show gainOf smallL [0, 0, 0] 0 = 0 by decide] at hv
    have hx : ¬ 0 < x := fun hx => absurd (hb.over.up 1 (by decide) hx) (by decide)
    obtain rfl : x = 0 := by omega
    have h2 : y ≤ 3 := hc 2 (by omega)
    rcases hb.shut with e | e
    · omega
    · by_cases hy : y = 3
      · subst hy
        exact ⟨rfl, by omega, hz⟩
      · refine absurd ?_ e
        refine Way.on 4 (by decide) ⟨by decide, ?_⟩ .here
        show 0 < (3 : Int) - y
        omega
  · exact absurd h1 (by decide)

theorem blk_small2 {b : List Int} {k z : Int} (h : BlockIs 3 smallL [5, 4, 3] [0, 0, 3] 0 2 1 b k z) : b = [1, 1, 3] ∧ k = 1 ∧ z = 0 := by
  rcases h with ⟨_, hz, M, hM, hb⟩ | ⟨h1, _⟩
  · have hM2 : LvIs 3 smallL [5, 4, 3] [0, 0, 3] 0 M 0 := .inl ⟨by decide, rfl, hM⟩
    obtain ⟨rfl, _⟩ := lvIs_one lv_small1 hM2
    obtain ⟨x, y, rfl, x0, y0, hg, hc⟩ := small_flow hb.flow
    have hv := hb.val
    rw [hg, show gainOf smallL [0, 0, 3] 0 = 3 by decide] at hv
    have hy1 : ¬ 3 < y := fun hx => absurd (hb.over.up 2 (by decide) hx) (by decide)
    have hy2 : ¬ y < 3 := fun hx => absurd (hb.over.down 2 (by decide) hx) (by decide)
    obtain rfl : y = 3 := by omega
    have hl := hb.low
    have hh := hb.high
    rcases hb.shut with e | e
    · obtain rfl : x = 1 := by omega
      exact ⟨rfl, e, hz⟩
    · refine absurd ?_ e
      refine Way.on 2 (by decide) ⟨by decide, ?_⟩ (Way.on 0 (by decide) ⟨by decide, ?_⟩ .here)
      · show 0 < (4 : Int) - x
        omega
      · show 0 < (5 : Int) - x
        omega
  · exact absurd h1 (by decide)

theorem blk_small3 {b : List Int} {k z : Int} (h : BlockIs 3 smallL [5, 4, 3] [1, 0, 0] 0 2 1 b k z) : z = 1100 := by
  rcases h with ⟨h1, _⟩ | ⟨_, h2, _⟩
  · exact absurd h1 (by decide)
  · exact h2

set_option maxHeartbeats 4000000 in
theorem awake11_any (w : World) : Calls Try.prog 11 #[] w (Says w (.bool true)) := by
  have HS : Hid (SB w w []) := ⟨World.grownBy.refl w none, StS.nil _⟩
  go_enter Try.func11, Try.ntmps11
  go_wp2_with fail
  refine (small11_any _).mono ?_
  rintro e w1 ⟨gs1, rfl, os, _, k⟩
  have HS := Lib.hid ((HS.out.kept k).cons os)
  clear os k
  go_wp2_with fail
  refine (BlockS [5, 4, 3] [0, 0, 0] rfl (by decide) (by decide) (by simp [ints]) rfl (by decide) (by decide) (by simp [ints]) HS.out.lit.lit (by simp)).mono ?_
  rintro e w2 ⟨b, k1, z1, hb, va, rfl, ha, k⟩
  obtain ⟨rfl, rfl, rfl⟩ := blk_small1 hb
  obtain ⟨Aa, ca, rfl, _, ra⟩ := ha.row (ok_of (xs := [0, 0, 3]) (by decide))
  have RA := Lib.hid ra
  have HG2 := Lib.hid (World.grownBy.refl w2 none)
  have HS := Lib.hid (HS.out.lit.lit.kept k).less
  clear k ra ha hb
  unfold blkV
  go_wp2_with fail
  refine (small11_any _).mono ?_
  rintro e w3 ⟨gs3, rfl, os, _, k⟩
  have HS := Lib.hid ((HS.out.kept k).cons os)
  have HG2 := Lib.hid (grown_trans HG2.out k)
  clear os k
  go_wp2_with fail
  refine (BlockS [5, 4, 3] [0, 0, 3] rfl (by decide) (by decide) (by simp [ints]) rfl (by decide) (by decide) (by simp [ints]) HS.out.lit.lit (by simp)).mono ?_
  rintro e w4 ⟨b, k2, z2, hb, vb, rfl, ha, k⟩
  obtain ⟨rfl, rfl, rfl⟩ := blk_small2 hb
  obtain ⟨Ab, cb, rfl, _, rb⟩ := ha.row (ok_of (xs := [1, 1, 3]) (by decide))
  have RB := Lib.hid rb
  have HG2 := Lib.hid (grown_trans (grown_alloc (grown_alloc HG2.out _) _) k)
  have HG4 := Lib.hid (World.grownBy.refl w4 none)
  have HS := Lib.hid (HS.out.lit.lit.kept k).less
  clear k rb ha hb
  unfold blkV
  go_wp2_with fail
  refine (small11_any _).mono ?_
  rintro e w5 ⟨gs5, rfl, os, _, k⟩
  have HS := Lib.hid ((HS.out.kept k).cons os)
  have HG2 := Lib.hid (grown_trans HG2.out k)
  have HG4 := Lib.hid (grown_trans HG4.out k)
  clear os k
  go_wp2_with fail
  refine (BlockS [5, 4, 3] [1, 0, 0] rfl (by decide) (by decide) (by simp [ints]) rfl (by decide) (by decide) (by simp [ints]) HS.out.lit.lit (by simp)).mono ?_
  rintro e w6 ⟨b, k3, z3, hb, vc, rfl, ha, k⟩
  obtain rfl := blk_small3 hb
  have HG2 := Lib.hid (grown_trans (grown_alloc (grown_alloc HG2.out _) _) k)
  have HG4 := Lib.hid (grown_trans (grown_alloc (grown_alloc HG4.out _) _) k)
  have HS := Lib.hid (HS.out.lit.lit.kept k).less
  clear k ha hb
  unfold blkV
  go_wp2_with fail
  refine (SameS RA.out HS.out.lit (Nat.le_refl _) (grown_alloc HG2.out _) (by simp [ints]) rfl (by decide) (by decide)).mono ?_
  rintro e w7 ⟨rfl, k⟩
  have HS := Lib.hid (HS.out.lit.kept k).less
  have HG4 := Lib.hid (grown_trans (grown_alloc HG4.out _) k)
  clear k HG2 RA
  go_wp2_with fail
  refine (num_says _ _).mono ?_
  rintro e w8 ⟨rfl, k⟩
  have HS := Lib.hid (HS.out.kept k)
  have HG4 := Lib.hid (grown_trans HG4.out k)
  clear k
  go_wp2_with fail
  refine (SameS RB.out HS.out.lit (Nat.le_refl _) (grown_alloc HG4.out _) (by simp [ints]) rfl (by decide) (by decide)).mono ?_
  rintro e w9 ⟨rfl, k⟩
  have HS := Lib.hid (HS.out.lit.kept k).less
  clear k HG4 RB
  go_wp2_with fail
  refine (num_says _ _).mono ?_
  rintro e w10 ⟨rfl, k⟩
  have HS := Lib.hid (HS.out.kept k)
  clear k
  go_wp2_with fail
  refine (num_says _ _).mono ?_
  rintro e w11 ⟨rfl, k⟩
  have HS := Lib.hid (HS.out.kept k)
  clear k
  go_wp2
  go_ret
  exact ⟨rfl, HS.out.g⟩

end Go.Proofs.Ytcilhidoiomfkaa

namespace Go.Proofs.Ytcilhidoiomfkaa
open Go.RowKit

def BFormMid (w : World) (b : Nat) (u v x y : Value) (wx : World) : Prop :=
  ∃ (caps f : List Int) (Af : Option Addr) (q cf : Nat) (s t most : Int), u = .slice Af q cf ∧ v = .int .i64 s ∧ x = .int .i64 t ∧ y = .int .i64 most ∧ Row wx wx.heap.size (some ⟨b, 0, none⟩) 3 caps ∧ Row wx wx.heap.size Af q f ∧ blkB 3 smallL caps f s t most = false ∧ w.grownBy wx none

theorem bform_t {y : Nat} : blkB 3 smallL [5, 4, 3] [1, 1, 1] 0 (3 + (y : Int)) 4 = false := by
  have : isV 3 (3 + (y : Int)) = false := isV_no1 (by omega)
  simp [blkB, flowB, this]

theorem bform_m {y : Nat} : blkB 3 smallL [5, 4, 3] [1, 1, 1] 0 2 (-1 - (y : Int)) = false := by
  have : decide (0 ≤ -1 - (y : Int)) = false := decide_eq_false (by omega)
  rw [blkB, this]
  simp

theorem Block_none {V s t most : Int} {ls : List Lk} {caps f b : List Int} {k z : Int} (h : blkB V ls caps f s t most = false) (hb : BlockIs V ls caps f s t most b k z) : z = 1100 ∧ b = [] ∧ k = 0 := by
  rcases hb with ⟨h1, _⟩ | ⟨_, h2⟩
  · rw [h] at h1; cases h1
  · exact h2

theorem and_7 (x : Int) : ∃ k : Nat, k ≤ 7 ∧ bits .and .i64 x 7 = (k : Int) := by
  refine ⟨(BitVec.ofInt 64 x &&& BitVec.ofInt 64 7).toNat, ?_, ?_⟩
  · rw [BitVec.toNat_and]
    exact Nat.and_le_right
  · show IntKind.i64.wrap ((BitVec.ofInt 64 x &&& BitVec.ofInt 64 7).toNat : Int) = _
    have : (BitVec.ofInt 64 x &&& BitVec.ofInt 64 7).toNat ≤ 7 := by
      rw [BitVec.toNat_and]
      exact Nat.and_le_right
    exact IntWalk.i64_in _ (by omega)

set_option maxRecDepth 20000 in
set_option maxHeartbeats 8000000 in
theorem BlockForms_walk (a x : Int) (w : World) : Calls Try.prog 7 #[.int .i64 a, .int .i64 x] w (LawPost w) := by
  obtain ⟨g0, o1, o2⟩ := box2 (w := w) (T := 3) (U := 3) (ints [5, 4, 3]) (ints [1, 1, 1]) (World.grownBy.refl _ none)
  have hsz : ((w.alloc (.cells (ints [5, 4, 3]).toArray 3)).alloc (.cells (ints [1, 1, 1]).toArray 3)).heap.size = w.heap.size + 2 := by simp
  obtain ⟨y, hy, hyb⟩ := and_1023 x
  have HY := Lib.hid hyb
  clear hyb
  have G := Lib.hid g0
  have O1 := Lib.hid o1
  have O2 := Lib.hid o2
  clear g0 o1 o2
  go_enter Try.func7, Try.ntmps7
  go_upto_block 0 with fail
  rw [show (w.alloc (.cells (ints [5, 4, 3]).toArray 3)).alloc (.cells (ints [1, 1, 1]).toArray 3) = (w.alloc (.cells #[.int .i64 5, .int .i64 4, .int .i64 3] 3)).alloc (.cells #[.int .i64 1, .int .i64 1, .int .i64 1] 3) from rfl] at G O1 O2 hsz
  generalize bits BinOp.and IntKind.i64 a 7 = m
  generalize (w.alloc (.cells #[.int .i64 5, .int .i64 4, .int .i64 3] 3)).alloc (.cells #[.int .i64 1, .int .i64 1, .int .i64 1] 3) = w2 at *
  have hw2 := G.out.size
  generalize hb : w.heap.size = b at *
  have d1 : w2.cell? ⟨b, 0, none⟩ = some (.int .i64 5) := O1.out.cell 0
  have d2 : w2.cell? ⟨b + 1, 0, none⟩ = some (.int .i64 1) := O2.out.cell 0
  have d3 : w2.cell? ⟨b + 1, 1, none⟩ = some (.int .i64 1) := O2.out.cell 1
  have f1 := O1.out.frozen 0
  have f2 := O2.out.frozen 0
  have f3 := O2.out.frozen 1
  have hyw : bits BinOp.and IntKind.i64 x 1023 = (y : Int) := HY.out
  have RC := Lib.hid (Own.rowW (n := 3) [5, 4, 3] O1.out rfl (by decide) (okI_of (by decide)))
  have RF := Lib.hid (Own.rowW (n := 3) [1, 1, 1] O2.out rfl (by decide) (okI_of (by decide)))
  go_cut [6, 7, 8, 9] (fun u v x y wx => BFormMid w b u v x y wx)
  case first =>
    by_cases m0 : m = 0
    · subst m0
      have HF : Hid (BFormMid w b (.slice (some ⟨b + 1, 0, none⟩) 3 3) (.int .i64 0) (.int .i64 2) (.int .i64 4) (w2.setCell ⟨b + 1, 0, none⟩ (.int .i64 2))) :=
        ⟨[5, 4, 3], [2, 1, 1], _, 3, 3, 0, 2, 4, rfl, rfl, rfl, rfl, Own.rowW [5, 4, 3] (O1.out.setOther (by omega) _) rfl (by decide) (okI_of (by decide)), Own.rowW [2, 1, 1] (O2.out.put _) rfl (by decide) (okI_of (by decide)), by decide, grown_new G.out (by omega) _⟩
      go_wp2
      go_meet
      exact HF.out
    have m0b : (m == 0) = false := by simp [m0]
    by_cases m1 : m = 1
    · subst m1
      have HF : Hid (BFormMid w b (.slice (some ⟨b + 1, 0, none⟩) 3 3) (.int .i64 0) (.int .i64 2) (.int .i64 4) (w2.setCell ⟨b + 1, 1, none⟩ (.int .i64 5))) :=
        ⟨[5, 4, 3], [1, 5, 1], _, 3, 3, 0, 2, 4, rfl, rfl, rfl, rfl, Own.rowW [5, 4, 3] (O1.out.setOther (by omega) _) rfl (by decide) (okI_of (by decide)), Own.rowW [1, 5, 1] (O2.out.put _) rfl (by decide) (okI_of (by decide)), by decide, grown_new G.out (by omega) _⟩
      go_wp2
      go_meet
      exact HF.out
    have m1b : (m == 1) = false := by simp [m1]
    by_cases m2 : m = 2
    · subst m2
      have HF : Hid (BFormMid w b (.slice (some ⟨b + 1, 0, none⟩) 3 3) (.int .i64 0) (.int .i64 2) (.int .i64 4) (w2.setCell ⟨b, 0, none⟩ (.int .i64 6))) :=
        ⟨[6, 4, 3], [1, 1, 1], _, 3, 3, 0, 2, 4, rfl, rfl, rfl, rfl, Own.rowW [6, 4, 3] (O1.out.put _) rfl (by decide) (okI_of (by decide)), Own.rowW [1, 1, 1] (O2.out.setOther (by omega) _) rfl (by decide) (okI_of (by decide)), by decide, grown_new G.out (by omega) _⟩
      go_wp2
      go_meet
      exact HF.out
    have m2b : (m == 2) = false := by simp [m2]
    by_cases m3 : m = 3
    · subst m3
      have HF : Hid (BFormMid w b (.slice (some ⟨b + 1, 0, none⟩) 3 3) (.int .i64 2) (.int .i64 2) (.int .i64 4) w2) :=
        ⟨[5, 4, 3], [1, 1, 1], _, 3, 3, 2, 2, 4, rfl, rfl, rfl, rfl, RC.out, RF.out, by decide, G.out⟩
      go_wp2
      go_meet
      exact HF.out
    have m3b : (m == 3) = false := by simp [m3]
    by_cases m4 : m = 4
    · subst m4
      have HF : Hid (BFormMid w b (.slice (some ⟨b + 1, 0, none⟩) 3 3) (.int .i64 0) (.int .i64 (3 + (y : Int))) (.int .i64 4) w2) :=
        ⟨[5, 4, 3], [1, 1, 1], _, 3, 3, 0, 3 + (y : Int), 4, rfl, rfl, rfl, rfl, RC.out, RF.out, bform_t, G.out⟩
      go_wp2
      go_meet
      exact HF.out
    have m4b : (m == 4) = false := by simp [m4]
    by_cases m5 : m = 5
    · subst m5
      have HF : Hid (BFormMid w b (.slice (some ⟨b + 1, 0, none⟩) 3 3) (.int .i64 0) (.int .i64 2) (.int .i64 (-1 - (y : Int))) w2) :=
        ⟨[5, 4, 3], [1, 1, 1], _, 3, 3, 0, 2, -1 - (y : Int), rfl, rfl, rfl, rfl, RC.out, RF.out, bform_m, G.out⟩
      go_wp2
      go_meet
      exact HF.out
    have m5b : (m == 5) = false := by simp [m5]
    by_cases m6 : m = 6
    · subst m6
      have HF : Hid (BFormMid w b (.slice (some ⟨b + 1, 0, none⟩) 3 3) (.int .i64 0) (.int .i64 2) (.int .i64 4611686018427387905) w2) :=
        ⟨[5, 4, 3], [1, 1, 1], _, 3, 3, 0, 2, 4611686018427387905, rfl, rfl, rfl, rfl, RC.out, RF.out, by decide, G.out⟩
      go_wp2
      go_meet
      exact HF.out
    have m6b : (m == 6) = false := by simp [m6]
    have kl := grow0 w2 (.cells #[.int .i64 0] 3)
    have M1 : Hid (Mine (w2.alloc (.cells #[.int .i64 0] 3)) (b + 1) (.slice (some ⟨b + 1, 0, none⟩) 3 3) 3 [1, 1, 1]) := (Own.mine O2.out (Nat.le_refl _) rfl (by decide)).kept kl
    have hge := Lib.hid M1.out.own_ge
    have HROW := Lib.hid (Row.newAt (w := w2) (g := w2.heap.size) (n := 1) (vs := #[.int .i64 0]) [0] (by simp) rfl rfl (by simp) (by simp))
    have GE := Lib.hid (grown_trans G.out kl)
    have OE := Lib.hid (O1.out.kept kl)
    clear kl G RC RF O1 O2 d1 d2 d3 f1 f2 f3
    have HBS : Hid (b + 1 ≤ (w2.alloc (.cells #[.int .i64 0] 3)).heap.size) := by rw [Hid]; simp; omega
    clear hsz
    go_upto_region 3 with fail
    generalize Value.slice (some ⟨b + 1, 0, none⟩) 3 3 = v0 at *
    go_wp2_with (first | (at_builtin; refine wpList_app _ rfl _ _ rfl (b + 1) _ _ _ rfl M1.out _ 1 1 [0] rfl HROW.out (by simp) (by decide) HBS.out ?_))
    intro v1 w3 hm1 hg3 _
    have G3 := Lib.hid (grown_none GE.out hg3 (fun g hg => by have := hge.out g hg; omega))
    have O3 := Lib.hid (OE.out.kept' hg3 (fun e => by have := hge.out _ e; omega))
    obtain ⟨Af, cf, rfl, _, _, rf⟩ := hm1.rowN (xs := [1, 1, 1, 0]) (okI_of (by decide))
    have RF := Lib.hid rf
    clear hm1 hg3 rf
    go_wp2
    go_meet
    exact ⟨[5, 4, 3], [1, 1, 1, 0], Af, 4, cf, 0, 2, 4, rfl, rfl, rfl, rfl, Own.rowW [5, 4, 3] O3.out rfl (by decide) (okI_of (by decide)), RF.out, by decide, G3.out⟩
  case rest =>
    clear RC RF G O1 O2 d1 d2 d3 f1 f2 f3
    obtain ⟨caps, f, Af, q, cf, s, t, most, rfl, rfl, rfl, rfl, rc, rf, hl, gx⟩ := hcut
    have RC := Lib.hid rc
    have RF := Lib.hid rf
    have HLB := Lib.hid hl
    have GX := Lib.hid gx
    clear rc rf hl gx
    go_wp2_with fail
    refine (small11_any _).mono ?_
    rintro e w4 ⟨gs, rfl, ol, _, k⟩
    have HLK := Lib.hid (Own.lks' smallL 3 rfl (by decide) (by decide) ol)
    have RC := Lib.hid ((RC.out.grown (Nat.le_refl _) k).wide k.size)
    have RF := Lib.hid ((RF.out.grown (Nat.le_refl _) k).wide k.size)
    have GX := Lib.hid (grown_trans GX.out k)
    clear k ol
    go_wp2_with fail
    refine (Block_any 3 s t most (some ⟨gs, 0, none⟩) 3 3 smallL (some ⟨b, 0, none⟩) 3 3 caps Af q cf f _ HLK.out (Nat.le_refl _) RC.out (Nat.le_refl _) RF.out (Nat.le_refl _)).mono ?_
    rintro e w5 ⟨bb, kk, z, hbk, va, rfl, ha, k⟩
    obtain ⟨rfl, rfl, rfl⟩ := Block_none HLB.out hbk
    obtain ⟨Aa, ca, rfl, _⟩ := ha.sl
    have GX := Lib.hid (grown_trans GX.out k)
    clear k ha hbk
    unfold blkV
    go_wp2_with fail
    refine (awake11_any _).mono ?_
    rintro e w6 ⟨rfl, k⟩
    have GX := Lib.hid (grown_trans GX.out k)
    clear k
    go_wp2_with fail
    refine (num_says _ _).mono ?_
    rintro e w7 ⟨rfl, k⟩
    have GX := Lib.hid (grown_trans GX.out k)
    clear k
    go_wp2
    go_ret
    exact ⟨rfl, below_of GX.out⟩

end Go.Proofs.Ytcilhidoiomfkaa

namespace Go.Proofs.Ytcilhidoiomfkaa
open Go.ChangeShapes Go.WideShapes Go.ChangeAt Go.RowKit
set_option linter.unusedVariables false

set_option maxRecDepth 100000 in
theorem BlockForms_lifted (os : Os) (started : os.Started) (H : Type) (enc : TypeId × Value → H) :
    ReturnsInHanded {} Try.checked os 7 .any (Rows.blockFormsSpec.pre6 enc Try.prog Try.f7 Rows.blockFormsRow.domain false) (Rows.blockFormsSpec.post enc Try.prog Try.f7 false true false false) := by
  refine returnsInHanded_of_change_sized (C := Try.checked) ownKnobNone started (by kernel_rfl) Try.func7
    (ChangeSpec.witness6 (enc := enc) (C := Try.checked) false ⟨#[], #[.int .i64 0, .int .i64 0], []⟩ 8 (by kernel_rfl) (by kernel_rfl) (by kernel_rfl) (by kernel_rfl)) ?_
  intro W base args ds gs before hval0 hW hcnd hsz0 _
  have hsz : (DataW.weightsEach Try.prog (Try.f7.params.toList ++ Rows.blockFormsSpec.plain.varTypes Try.prog) (ds ++ gs)).all (· ≤ reachBytes) = true := hsz0
  have hval : ∀ (j : Nat) t v, Try.f7.params[j]? = some t → args[j]? = some v → Value.okWide Try.prog W .any base t v := hval0
  have hW' := hW
  obtain ⟨p, q, hA0, hV, rfl, hfz, hnd⟩ := hW
  have hA : DataW.TrodAll enc Try.prog W 0 (fun _ => true) true Try.f7.params.toList args.toList ds p := hA0
  rw [Try.params7] at hA hval hsz
  obtain ⟨v0, vs0, d0, ds0, p0, q0, hargs, rfl, rfl, h0, r0⟩ := trodAll_cons hA
  obtain ⟨v1, vs1, d1, ds1, p1, q1, rfl, rfl, rfl, h1, r1⟩ := trodAll_cons r0
  obtain ⟨rfl, rfl, rfl⟩ := trodAll_nil r1
  obtain rfl : args = #[v0, v1] := by cases args; simp_all
  obtain ⟨rfl, rfl⟩ := trodVars_none hV
  obtain ⟨a0, rfl, rfl, rfl, w0⟩ := open_int Try.underlying3 (hval 0 3 v0 rfl rfl) h0
  obtain ⟨a1, rfl, rfl, rfl, w1⟩ := open_int Try.underlying3 (hval 1 3 v1 rfl rfl) h1
  clear hA0 hval0 hsz0
  refine (BlockForms_walk a0 a1 W ).mono fun e W' ⟨he, bel⟩ => ?_
  subst he
  exact ⟨_, rfl, _, _, _, [], _, [], hW', trodAll_mk1 (shut_bool Try.underlying4 _), (trodAll_cons_mk (shut_int Try.underlying3 w0) (trodAll_cons_mk (shut_int Try.underlying3 w1) trodAll_mk0)), rfl, bel.frame _, fun h => by cases h⟩

theorem BlockForms_proved : Rows.BlockFormsSaid :=
  OpenClaim.holds_of_wide 7 Try.f7 rfl rfl rfl rfl rfl rfl rfl ⟨rfl, rfl, rfl, rfl, rfl⟩ rfl rfl rfl rfl rfl (by kernel_rfl) Try.func7 (by kernel_rfl)
    (of_decide_eq_true (by kernel_rfl)) (by unfold Func.isWrapper; first | (rw [if_pos (by decide +kernel)]; kernel_rfl) | (rw [if_neg (by decide +kernel)]; exact ⟨rfl, rfl⟩))
    (fun os started H enc _ => BlockForms_lifted os started H enc)
#print axioms BlockForms_proved
end Go.Proofs.Ytcilhidoiomfkaa
