/-
  block.begin, walked.
-/
import Derived.Test.YtlpohlcmjnlbhaaPushD
import Derived.Test.YtlpohlcmjnlbhaaPushB
import Derived.Test.YtlpohlcmjnlbhaaJI
set_option maxRecDepth 20000
namespace Go.Proofs.Ytlpohlcmjnlbhaa
open Go.RowKit

def MadeAt (vn : Nat) (w w' : World) : Prop := (Instr.makeSlice 95 (.int .i64 (vn : Nat)) (.int .i64 (vn : Nat))).run Try.prog w = .ok (.slice (some ⟨w.heap.size, 0, none⟩) vn vn) w' ∧ Own w' w.heap.size 25 (List.replicate vn nilS) ∧ w.grownBy w' none

theorem SemMake (vn : Nat) (hv : vn ≤ 8) : ∃ mk : World → World, ∀ w : World, MadeAt vn w (mk w) := by
  refine (Classical.skolem (p := MadeAt vn)).1 fun w => ?_
  obtain ⟨i0, hi, hz0, hz1, hz2⟩ := info_parts info25
  obtain ⟨w6, hrun, hmk, k6⟩ := run_make_full (P := Try.prog) w w.heap.size 95 25 i0 (.slice none 0 0) 1 Try.underlying95 hi hz0 hz1 .i64 .i64 vn (by rw [hz2]; omega) (by unfold maxLen; omega) (Nat.le_refl _)
  rw [show (Value.slice none 0 0).cells = #[Value.slice none 0 0] from rfl, Nat.mul_one, toList_madeCells_one] at hmk
  exact ⟨w6, hrun, Own.of_made hmk, k6⟩

theorem Own.put4 {w : World} {g : Nat} {T : TypeId} {x y z u : Value} (h : Own w g T [x, y, z, u]) (a b c d : Value) :
    Own ((((w.setCell ⟨g, 0, none⟩ a).setCell ⟨g, 1, none⟩ b).setCell ⟨g, 2, none⟩ c).setCell ⟨g, 3, none⟩ d) g T [a, b, c, d] :=
  (((h.put (i := 0) a).put (i := 1) b).put (i := 2) c).put (i := 3) d

/-- What a round reads of what stays. -/
theorem BgK.cells {w : World} {N : Net} {qa gp gO B base : Nat} {A : Option Addr} {c : Nat} {Ax Ay : Option Addr} {ns no cx cy cz : Nat} {bh offh bm offm : Nat} {wr : World} (h : BgK w N qa gp gO B base A c Ax Ay (some ⟨bh, offh, none⟩) ns no cx cy cz (some ⟨bm, offm, none⟩) wr) {k tl hd : Nat} (hk : k < 2 * N.n) (ht : N.tl k = (tl : Int)) (hh : N.hd k = (hd : Int)) (h1 : tl < N.V) (h2 : hd < N.V) :
    (wr.cell? ⟨bh, offh + k, none⟩ = some (.int .i64 (hd : Nat)) ∧ wr.cell? ⟨bh, offh + flipN k, none⟩ = some (.int .i64 (tl : Nat))) ∧ (wr.cell? ⟨bm, offm + tl, none⟩ = some (.int .i64 (N.lev (tl : Int))) ∧ wr.cell? ⟨bm, offm + hd, none⟩ = some (.int .i64 (N.lev (hd : Int)))) ∧
      wr.cell? ⟨w.heap.size, 0, none⟩ = some (.int .i64 (N.V : Nat)) ∧ wr.cell? ⟨w.heap.size, 1, none⟩ = some (.slice A N.n c) ∧ wr.cell? ⟨qa, 2, none⟩ = some (.slice (some ⟨bh, offh, none⟩) (2 * N.n) cz) := by
  have d1 := h.hh.cellAt hk
  have d2 := h.hh.cellAt (flip_lt hk)
  rw [heads_at N.ls _ k hk, show headOf N.ls k = (hd : Int) from hh] at d1
  rw [heads_at N.ls _ _ (flip_lt hk), flip_head, show tailOf N.ls k = (tl : Int) from ht] at d2
  exact ⟨⟨d1, d2⟩, ⟨h.lm.cellAt h1, h.lm.cellAt h2⟩, h.ob.two.1, h.ob.two.2, h.oa.three.2.2⟩

theorem results_push {fn : Func} {t : Tmp} (h : fn.results = #[.cell t 97]) (tmps : Array Value) (w : World) {g : Nat} {x y z u : Value} (hp : tmps[t]?.getD undef = .pointer (some ⟨g, 0, none⟩))
   (c0 : w.cell? ⟨g, 0, none⟩ = some x) (c1 : w.cell? ⟨g, 1, none⟩ = some y) (c2 : w.cell? ⟨g, 2, none⟩ = some z) (c3 : w.cell? ⟨g, 3, none⟩ = some u) :
    (results fn tmps).run Try.prog w = .ok (.agg #[x, y, z, u]) w := by
  simp [results, h, hp, c0, c1, c2, c3, go_sem]

theorem post_push {fn : Func} {t : Tmp} {R : Ending → World → Prop} {a : Act} {w : World} (h : fn.results = #[.cell t 97]) {g : Nat} {x y z u : Value} (hp : a.tmps[t]?.getD undef = .pointer (some ⟨g, 0, none⟩))
   (o : Own w g 97 [x, y, z, u]) (hd : a.defers = []) (hR : R (.returned (.agg #[x, y, z, u])) w) : bodyPost Try.prog fn R .ret a w :=
  bodyPost_ret (results_push h a.tmps w hp o.four.1 o.four.2.1 o.four.2.2.1 o.four.2.2.2) hd hR

theorem bg_end {w : World} {N : Net} {qa gp gO B base : Nat} {A : Option Addr} {c : Nat} {Ax Ay Az : Option Addr} {ns no cx cy cz : Nat} {Am : Option Addr} {wr : World} (h : BgK w N qa gp gO B base A c Ax Ay Az ns no cx cy cz Am wr) {rA : Option Addr} {rc : Nat} {vs : List Value} (oo : Own wr gO 25 vs) (hv : vs.length = N.V) (fa : Fam wr base (.slice rA (2 * N.n) rc :: vs) (roomsA N.caps N.f (2 * N.n) :: opnsA N (2 * N.n))) (hz : OffR Az (2 * N.n) (some (w.heap.size + 1))) (x y z u : Value) :
    BgPost w N (.returned (.agg #[.int .i64 N.t, .slice Az (2 * N.n) cz, .slice rA (2 * N.n) rc, .slice (some ⟨gO, 0, none⟩) N.V N.V])) ((((wr.setCell ⟨w.heap.size + 1, 0, none⟩ x).setCell ⟨w.heap.size + 1, 1, none⟩ y).setCell ⟨w.heap.size + 1, 2, none⟩ z).setCell ⟨w.heap.size + 1, 3, none⟩ u) := by
  obtain ⟨l1, l2, l3, l4, l5, l6, l7⟩ := h.lt
  have hs := h.sz
  have hl : w.heap.size ≤ w.heap.size + 1 := by omega
  have hlb : w.heap.size + 1 < base := by omega
  have hne : ¬ w.heap.size + 1 = gO := by omega
  refine ⟨Az, cz, rA, rc, gO, B, base, vs, rfl, grown_new (grown_new (grown_new (grown_new h.g hl _) hl _) hl _) hl _, by omega, by omega, by omega, by omega, by simpa [World.setCell] using hs, (((oo.setOther hne _).setOther hne _).setOther hne _).setOther hne _, hv, (((h.hh.setOther hz _).setOther hz _).setOther hz _).setOther hz _, (((fa.putLow hlb).putLow hlb).putLow hlb).putLow hlb⟩

def BgIf (w8 : World) (k : Nat) (p : Bool) (i b : Value) (wx : World) : Prop := i = .int .i64 (k : Nat) ∧ b = .bool p ∧ w8.grownBy wx none

theorem bg_mid1 {w4 : World} {mk : World → World} {vn : Nat} {t : Int} {hs : Value} (h : ∀ w, MadeAt vn w (mk w)) :
    BgMid w4 t hs vn (.pointer (some ⟨(mk w4.drew).heap.size, 0, none⟩)) ((mk w4.drew).alloc (.cells #[.int .i64 t, hs, .slice none 0 0, .slice (some ⟨w4.heap.size, 0, none⟩) vn vn] 97)) := by
  obtain ⟨_, h2, h3⟩ := h w4.drew
  have hl := h2.lt
  have hl2 : w4.heap.size < (mk w4.drew).heap.size := hl
  exact ⟨_, w4.heap.size, rfl, grown_trans (grown_undrew h3) (grow0 _ _), Own.new _ _ [_, _, _, _], h2.alloc _, by omega, by omega, Nat.le_refl _⟩

theorem bg_mid2 {w4 : World} {mk : World → World} {vn : Nat} {t : Int} {hs : Value} {o : List Value} (h : ∀ w, MadeAt vn w (mk w)) (ho : o = [.int .i64 0, .slice none 0 0, .slice none 0 0, .slice none 0 0]) :
    BgMid w4 t hs vn (.pointer (some ⟨w4.heap.size, 0, none⟩)) (((((mk (w4.alloc (.cells o.toArray 97)).drew).setCell ⟨w4.heap.size, 0, none⟩ (.int .i64 t)).setCell ⟨w4.heap.size, 1, none⟩ hs).setCell ⟨w4.heap.size, 2, none⟩ (.slice none 0 0)).setCell ⟨w4.heap.size, 3, none⟩ (.slice (some ⟨w4.heap.size + 1, 0, none⟩) vn vn)) := by
  subst ho
  obtain ⟨_, h2, h3⟩ := h (w4.alloc (.cells [.int .i64 0, .slice none 0 0, .slice none 0 0, .slice none 0 0].toArray 97)).drew
  have e : (w4.alloc (.cells [.int .i64 0, .slice none 0 0, .slice none 0 0, .slice none 0 0].toArray 97)).drew.heap.size = w4.heap.size + 1 := by
    show (w4.alloc _).heap.size = _
    simp
  rw [e] at h2
  have o1 := (Own.new w4 97 [.int .i64 0, .slice none 0 0, .slice none 0 0, .slice none 0 0]).kept (grown_trans (grown_drew (World.grownBy.refl _ none)) h3)
  refine ⟨w4.heap.size, w4.heap.size + 1, rfl, grown_new (grown_new (grown_new (grown_new (grown_trans (grow0 _ _) (grown_trans (grown_drew (World.grownBy.refl _ none)) h3)) (Nat.le_refl _) _) (Nat.le_refl _) _) (Nat.le_refl _) _) (Nat.le_refl _) _, o1.put4 _ _ _ _, ?_, by omega, Nat.le_refl _, by omega⟩
  exact (((h2.setOther (by omega) _).setOther (by omega) _).setOther (by omega) _).setOther (by omega) _

set_option maxRecDepth 20000 in
set_option maxHeartbeats 4000000 in
theorem bbegin_any (N : Net) (ok : N.Ok) (A : Option Addr) (c : Nat) (X : Option Addr) (m d : Nat) (Y : Option Addr) (r e0 : Nat) (w : World) {B B' B'' : Nat} (h : Lks w B A N.n N.ls) (hB : B ≤ w.heap.size) (hx : Row w B' X m N.caps) (hB' : B' ≤ w.heap.size) (hy : Row w B'' Y r N.f) (hB'' : B'' ≤ w.heap.size) :
    Calls Try.prog 68 #[.agg #[.int .i64 (N.V : Nat), .slice A N.n c], .slice X m d, .slice Y r e0, .int .i64 N.s, .int .i64 N.t] w (BgPost w N) := by
  have OK := Lib.hid ok
  have h8 := may_small ok.may
  rw [ok.hl] at h8
  have HR := Lib.hid h
  have HX := Lib.hid hx
  have HY := Lib.hid hy
  have HLV : Hid (LvIs (N.V : Nat) N.ls N.caps N.f N.s N.M 0) := lev_yes (by obtain ⟨h1, h2, _⟩ := flow_parts ok.flow; rw [lvB, h1, Bool.true_and]; exact isV_yes h2.1 h2.2) ok.hl ok.lv
  have OKM := Lib.hid (lvIs_okI HLV.out).1
  obtain ⟨okS', okO', okH'⟩ := may_ok ok.may ok.hl
  have okS := Lib.hid okS'
  have okO := Lib.hid okO'
  have okH := Lib.hid okH'
  have hls := starts_len N.ls N.n (N.V + 1)
  have hlh := heads_len N.ls (2 * N.n)
  have HML := Lib.hid ok.lv.len
  obtain ⟨mk, hmk⟩ := SemMake N.V (by omega)
  have MK := Lib.hid hmk
  have mkr : ∀ w : World, (Instr.makeSlice 95 (.int .i64 (N.V : Nat)) (.int .i64 (N.V : Nat))).run Try.prog w = .ok (.slice (some ⟨w.heap.size, 0, none⟩) N.V N.V) (mk w) := fun w => (hmk w).1
  clear h hx hy ok okS' okO' okH' hmk
  go_enter Try.func68, Try.ntmps68
  go_upto_region 1 with fail
  have OB := Lib.hid ((Own.new w 24 [.int .i64 (N.V : Nat), .slice A N.n c]).alloc (.cells #[.int .i64 0, .slice none 0 0, .slice none 0 0, .slice none 0 0] 97))
  have OR := Lib.hid (Own.new (w.alloc (.cells #[.int .i64 (N.V : Nat), .slice A N.n c] 24)) 97 [.int .i64 0, .slice none 0 0, .slice none 0 0, .slice none 0 0])
  have G := Lib.hid (grown_trans (grow0 w (.cells #[.int .i64 (N.V : Nat), .slice A N.n c] 24)) (grow0 _ (.cells #[.int .i64 0, .slice none 0 0, .slice none 0 0, .slice none 0 0] 97)))
  have hs0 : (w.alloc (.cells #[.int .i64 (N.V : Nat), .slice A N.n c] 24)).heap.size = w.heap.size + 1 := by simp
  rw [hs0] at OR
  have hs1 : ((w.alloc (.cells #[.int .i64 (N.V : Nat), .slice A N.n c] 24)).alloc (.cells #[.int .i64 0, .slice none 0 0, .slice none 0 0, .slice none 0 0] 97)).heap.size = w.heap.size + 2 := by simp
  clear hs0
  generalize (w.alloc (.cells #[.int .i64 (N.V : Nat), .slice A N.n c] 24)).alloc (.cells #[.int .i64 0, .slice none 0 0, .slice none 0 0, .slice none 0 0] 97) = w0 at *
  obtain ⟨p0, p1⟩ := OB.out.two
  go_wp2_with fail
  refine (Build_may N.V A N.n c N.ls _ (HR.out.grown hB G.out) (by have := G.out.size; omega) OK.out.may).mono ?_
  rintro e w2 ⟨x, y, z, rfl, ta, k⟩
  obtain ⟨Ax, cx, rfl, _, _, _⟩ := ta.S.rowN okS.out
  obtain ⟨Ay, cy, rfl, _, _, _⟩ := ta.O.rowN okO.out
  obtain ⟨Az, cz, rfl, _, _, rH⟩ := ta.H.rowN okH.out
  have HOZ : Hid (OffR Az (2 * N.n) (some (w.heap.size + 1))) := by
    intro hn a ha e
    have hH := ta.H
    rw [hlh] at hH
    obtain ⟨g, hg, hb⟩ := hH.at0 hn
    rw [ha] at hg
    have hg := Option.some.inj hg
    subst hg
    injection e with e
    simp at e
    omega
  rw [hls, hlh]
  rw [hlh] at rH
  clear ta
  generalize (ordA N.ls N.n N.V).length = no at *
  have s2 := k.size
  have k2 := grown_trans k (grow0 w2 (.cells #[.slice Ax (N.V + 1) cx, .slice Ay no cy, .slice Az (2 * N.n) cz] 111))
  have G := Lib.hid (grown_trans G.out k2)
  have OB := Lib.hid (OB.out.kept k2)
  have OR := Lib.hid (OR.out.kept k2)
  have OA := Lib.hid (Own.new w2 111 [.slice Ax (N.V + 1) cx, .slice Ay no cy, .slice Az (2 * N.n) cz])
  have RH := Lib.hid (rH.grown (Nat.le_refl _) (grow0 w2 (.cells #[.slice Ax (N.V + 1) cx, .slice Ay no cy, .slice Az (2 * N.n) cz] 111)))
  clear k k2 rH p0 p1
  go_upto_region 2 with fail
  have hs2 : (w2.alloc (.cells #[.slice Ax (N.V + 1) cx, .slice Ay no cy, .slice Az (2 * N.n) cz] 111)).heap.size = w2.heap.size + 1 := by simp
  obtain ⟨qa, hqa⟩ : ∃ qa, w2.heap.size = qa := ⟨_, rfl⟩
  rw [hqa] at OA hs2 s2
  generalize w2.alloc (.cells #[.slice Ax (N.V + 1) cx, .slice Ay no cy, .slice Az (2 * N.n) cz] 111) = w3 at *
  obtain ⟨p0, p1⟩ := OB.out.two
  go_wp2_with fail
  refine (Levels_is (N.V : Nat) N.s A N.n c N.ls X m d N.caps Y r e0 N.f _ (HR.out.grown hB G.out) (by have := G.out.size; omega) (HX.out.grown hB' G.out) (by have := G.out.size; omega) (HY.out.grown hB'' G.out) (by have := G.out.size; omega) N.M 0 HLV.out).mono ?_
  rintro e w4 ⟨v4, rfl, m4, k4⟩
  obtain ⟨Am, cm, rfl, _, _, rM⟩ := m4.rowN OKM.out
  rw [HML.out]
  have s4 := k4.size
  have G := Lib.hid (grown_trans G.out k4)
  have OB := Lib.hid (OB.out.kept k4)
  have OR := Lib.hid (OR.out.kept k4)
  have OA := Lib.hid (OA.out.kept k4)
  have RH := Lib.hid (RH.out.grown (by omega) k4)
  have RM := Lib.hid rM
  rw [HML.out] at RM
  clear k4 m4 rM p0 p1
  go_upto_region 3 with fail
  have HS : Hid (w4.cell? ⟨qa, 2, none⟩ = some (.slice Az (2 * N.n) cz) ∧ w4.cell? ⟨w.heap.size, 0, none⟩ = some (.int .i64 (N.V : Nat))) := ⟨OA.out.three.2.2, OB.out.two.1⟩
  obtain ⟨a2, p0⟩ := HS.out
  have HSa : Hid (∀ (wx : World) (o : Obj), wx.cell? ⟨qa, 2, none⟩ = some (.slice Az (2 * N.n) cz) ∧ wx.cell? ⟨w.heap.size, 0, none⟩ = some (.int .i64 (N.V : Nat)) → (wx.alloc o).cell? ⟨qa, 2, none⟩ = some (.slice Az (2 * N.n) cz) ∧ (wx.alloc o).cell? ⟨w.heap.size, 0, none⟩ = some (.int .i64 (N.V : Nat))) := fun wx o h => ⟨kept (grow0 _ _) h.1, kept (grow0 _ _) h.2⟩
  have HSm : Hid (∀ (wx : World), wx.cell? ⟨qa, 2, none⟩ = some (.slice Az (2 * N.n) cz) ∧ wx.cell? ⟨w.heap.size, 0, none⟩ = some (.int .i64 (N.V : Nat)) → (mk wx).cell? ⟨qa, 2, none⟩ = some (.slice Az (2 * N.n) cz) ∧ (mk wx).cell? ⟨w.heap.size, 0, none⟩ = some (.int .i64 (N.V : Nat))) := fun wx h => ⟨kept (MK.out wx).2.2 h.1, kept (MK.out wx).2.2 h.2⟩
  go_cut [15] (fun p wx => BgMid w4 N.t (.slice Az (2 * N.n) cz) N.V p wx)
  case first =>
    have OQ := Lib.hid ((Own.new w4 97 [.int .i64 0, .slice none 0 0, .slice none 0 0, .slice none 0 0]).kept (grown_trans (grown_drew (World.grownBy.refl _ none)) (MK.out (w4.alloc (.cells #[.int .i64 0, .slice none 0 0, .slice none 0 0, .slice none 0 0] 97)).drew).2.2))
    obtain ⟨b0, b1, b2, b3⟩ := OQ.out.four
    have f0 := OQ.out.frozen 0
    have f1 := OQ.out.frozen 1
    have f2 := OQ.out.frozen 2
    have f3 := OQ.out.frozen 3
    obtain ⟨x0, x1⟩ := HSa.out w4 (.cells #[.int .i64 0, .slice none 0 0, .slice none 0 0, .slice none 0 0] 97) HS.out
    obtain ⟨x2, x3⟩ := HSm.out w4.drew HS.out
    obtain ⟨x4, x5⟩ := HSm.out (w4.alloc (.cells #[.int .i64 0, .slice none 0 0, .slice none 0 0, .slice none 0 0] 97)).drew (HSa.out w4 _ HS.out)
    obtain ⟨x6, x7⟩ := HSa.out (mk w4.drew) (.cells #[.int .i64 0, .slice none 0 0, .slice none 0 0, .slice none 0 0] 97) (HSm.out w4.drew HS.out)
    go_region_law (first | fail)
    all_goals go_wp2_with fail
    all_goals go_meet
    all_goals first
      | exact bg_mid1 MK.out
      | exact bg_mid2 (o := [.int .i64 0, .slice none 0 0, .slice none 0 0, .slice none 0 0]) MK.out rfl
  case rest =>
    obtain ⟨gp, gO, rfl, kx, op, oo, hne, g1, g2⟩ := hcut
    have G := Lib.hid (grown_trans G.out kx)
    have OB := Lib.hid (OB.out.kept kx)
    have OR := Lib.hid (OR.out.kept kx)
    have OA := Lib.hid (OA.out.kept kx)
    have RH := Lib.hid (RH.out.grown (B := w2.heap.size) (by omega) kx)
    have RM := Lib.hid (RM.out.grown (Nat.le_refl _) kx)
    have l1 := op.lt
    have l2 := oo.lt
    have HS2 : Hid (BgRel w N qa gp gO w4.heap.size wc.heap.size A c Ax Ay Az (N.V + 1) no cx cy cz Am (.int .i64 0) wc) := by
      refine ⟨0, none, 0, _, Nat.zero_le _, rfl, ⟨G.out, OB.out, OR.out, OA.out, RH.out.wide (by omega), RM.out, ⟨by omega, by omega, g1, g2, l1, l2, hne⟩, Nat.le_refl _⟩, op, oo, by simp, ?_⟩
      rw [rooms_zero, opns_zero]
      exact Fam.none (n := N.V + 1)
    obtain ⟨m2, hm2⟩ : ∃ m2, 2 * N.n = m2 := ⟨_, rfl⟩
    have HM2 := Lib.hid hm2
    have a2 := OA.out.three.2.2
    rw [hm2] at a2
    have hm32 : m2 ≤ 32 := by omega
    clear hm2 kx op oo G OB OR OA RH RM HS HSa HSm p0
    go_upto_region 4 with fail
    go_wp2
    go_loopw [44] (fun i wr => BgRel w N qa gp gO w4.heap.size wc.heap.size A c Ax Ay Az (N.V + 1) no cx cy cz Am i wr) (fun i _ => m2 - (intOf i).toNat)
    case atStart => exact HS2.out
    case round =>
      clear HS2 a2
      obtain ⟨B0, hB0⟩ : ∃ B0, w4.heap.size = B0 := ⟨_, rfl⟩
      obtain ⟨base, hbase⟩ : ∃ base, wc.heap.size = base := ⟨_, rfl⟩
      rw [hB0, hbase] at hrel
      obtain ⟨k, rA, rc, vs, hk, rfl, keep, op, oo, hvl, fam⟩ := hrel
      have KEEP := Lib.hid keep
      have OP := Lib.hid op
      have OO := Lib.hid oo
      have FAM := Lib.hid fam
      rw [HM2.out] at hk
      obtain ⟨r1, r2, r3, r4, r5, r6, r7⟩ := keep.lt
      have hsz := keep.sz
      obtain ⟨p0, p1⟩ := keep.ob.two
      have a2 := keep.oa.three.2.2
      obtain ⟨q0, q1, q2, q3⟩ := op.four
      rw [HM2.out] at a2 q1
      clear keep op oo fam
      by_cases hlt : k < m2
      · obtain ⟨bh, offh, hAz, _, _⟩ := KEEP.out.hh.at_ (by rw [HM2.out]; omega)
        subst hAz
        obtain ⟨bm, offm, hAm, _, _⟩ := KEEP.out.lm.at_ (by omega)
        subst hAm
        have HK2 : Hid (k < 2 * N.n) := by rw [Hid, HM2.out]; exact hlt
        obtain ⟨t0, t1⟩ := OK.out.tl_in HK2.out
        obtain ⟨u0, u1⟩ := OK.out.hd_in HK2.out
        have bt := OK.out.lv.bd (N.tl k) ⟨t0, t1⟩
        have bu := OK.out.lv.bd (N.hd k) ⟨u0, u1⟩
        obtain ⟨tl, htl⟩ : ∃ tl : Nat, N.tl k = (tl : Int) := ⟨(N.tl k).toNat, by omega⟩
        obtain ⟨hd, hhd⟩ : ∃ hd : Nat, N.hd k = (hd : Int) := ⟨(N.hd k).toNat, by omega⟩
        rw [htl] at t1 bt
        rw [hhd] at u1 bu
        have htv : tl < N.V := by omega
        have hhv : hd < N.V := by omega
        have HTL := Lib.hid htl
        have HHD := Lib.hid hhd
        have CELLS : Hid (∀ wr', BgK w N qa gp gO B0 base A c Ax Ay (some ⟨bh, offh, none⟩) (N.V + 1) no cx cy cz (some ⟨bm, offm, none⟩) wr' → _) := fun wr' h => BgK.cells h HK2.out htl hhd htv hhv
        have rbd := (pi_first OK.out).1.bd OK.out HK2.out
        rw [rooms_at HK2.out] at rbd
        have HST : Hid (N.stp k ↔ 0 < roomI N.caps N.f (k : Int) ∧ 0 ≤ N.lev (tl : Int) ∧ N.lev (hd : Int) = N.lev (tl : Int) + 1) := by
          rw [Hid, ← htl, ← hhd]
          exact Iff.rfl
        have HRN : Hid (roomsA N.caps N.f k ++ [roomI N.caps N.f (k : Int)] = roomsA N.caps N.f (k + 1)) := (rooms_next N.caps N.f k).symm
        have hfl := flip_lt HK2.out
        rw [HM2.out] at hfl
        have CP := Lib.hid (pair_any k)
        obtain ⟨⟨d1, d2⟩, _, _, _, _⟩ := CELLS.out wr KEEP.out
        have hr0 := rbd.1
        have hr1 : roomI N.caps N.f (k : Int) ≤ 4611686018427387904 := by omega
        clear htl hhd rbd t0 u0
        go_wp2_with fail
        refine (SRoom_yes N.V (k : Nat) A N.n c N.ls X m d N.caps Y r e0 N.f _ (HR.out.grown hB KEEP.out.g) (by have := KEEP.out.g.size; omega) (HX.out.grown hB' KEEP.out.g) (by have := KEEP.out.g.size; omega) (HY.out.grown hB'' KEEP.out.g) (by have := KEEP.out.g.size; omega) (flow_parts OK.out.flow).1 ⟨by omega, by have := HK2.out; omega⟩).mono ?_
        rintro e w5 ⟨rfl, g5⟩
        have KEEP := Lib.hid (KEEP.out.grown g5 (by simp))
        have OP := Lib.hid (OP.out.kept g5)
        have OO := Lib.hid (OO.out.kept g5)
        have FAM := Lib.hid (FAM.out.kept g5)
        have s5 := KEEP.out.sz
        clear g5 d1 d2 p0 p1 a2 q0 q1 q2 q3
        generalize roomI N.caps N.f (k : Int) = rm at *
        obtain ⟨q0, q1, q2, q3⟩ := OP.out.four
        have kl := grow0 w5 (.cells #[.int .i64 rm] 3)
        have M0 := FAM.out.head
        rw [rooms_len] at M0
        have hge := Lib.hid M0.own_ge
        have HM1 := Lib.hid (M0.kept kl)
        have KE := Lib.hid (KEEP.out.grown kl (by simp))
        have OPE := Lib.hid (OP.out.kept kl)
        have OOE := Lib.hid (OO.out.kept kl)
        have FE := Lib.hid (FAM.out.kept kl)
        have HROW := Lib.hid (Row.newAt (w := w5) (g := w5.heap.size) (n := 1) (vs := #[.int .i64 rm]) [rm] (by simp) rfl rfl (by simp) (by simp; omega))
        clear kl M0 KEEP OP OO FAM
        go_wp2_with (first | (at_builtin; refine wpList_app _ rfl _ _ rfl base _ _ _ rfl HM1.out _ 1 1 [rm] rfl HROW.out (by simp) (by omega) (by simp; omega) ?_))
        intro v6 w6 hm6 hg6 hc6
        have KEEP := Lib.hid (KE.out.grown hg6 hge.out)
        have OP := Lib.hid (OPE.out.kept' hg6 (fun e => by have := hge.out _ e; omega))
        have OO := Lib.hid (OOE.out.kept' hg6 (fun e => by have := hge.out _ e; omega))
        have FAM := Lib.hid (FE.out.step0 hm6 hg6 (by simpa using hc6))
        rw [HRN.out] at FAM
        obtain ⟨rA6, rc6, rfl, _⟩ := hm6.sl
        clear hm6 hg6 hc6 KE OPE OOE FE HM1 HROW hge q0 q1 q2 q3
        obtain ⟨q0, q1, q2, q3⟩ := OP.out.four
        have f2 := OP.out.frozen 2
        have KEEP := Lib.hid (KEEP.out.put (i := 2) r3 (.slice rA6 (k + 1) rc6))
        have OP : Hid (Own (w6.setCell ⟨gp, 2, none⟩ (.slice rA6 (k + 1) rc6)) gp 97 [.int .i64 N.t, .slice (some ⟨bh, offh, none⟩) (2 * N.n) cz, .slice rA6 (k + 1) rc6, .slice (some ⟨gO, 0, none⟩) N.V N.V]) := OP.out.put (i := 2) _
        have OO := Lib.hid (OO.out.setOther (k := gp) (j := 2) r7 (.slice rA6 (k + 1) rc6))
        have FAM := Lib.hid (FAM.out.putLow (q := gp) (i := 2) (u := .slice rA6 (k + 1) rc6) r5)
        have s6 := KEEP.out.sz
        go_upto_region 9 with fail
        clear f2 q0 q1 q2 q3
        generalize w6.setCell ⟨gp, 2, none⟩ (.slice rA6 (k + 1) rc6) = w7 at *
        obtain ⟨⟨d1, d2⟩, ⟨e1, e2⟩, p0, p1, a2⟩ := CELLS.out w7 KEEP.out
        obtain ⟨q0, q1, q2, q3⟩ := OP.out.four
        have hfi0 : (0 : Int) ≤ (flipN k : Nat) := by omega
        have hfi1 : ((flipN k : Nat) : Int) < (m2 : Int) := by omega
        rw [HM2.out] at a2 q1
        generalize flipN k = fk at *
        go_quiet ((go_at_call 85; exact quiet_left (CP.out _ (by omega))))
        go_upto_region 10 with fail
        have KEEP : Hid (BgK w N qa gp gO B0 base A c Ax Ay (some ⟨bh, offh, none⟩) (N.V + 1) no cx cy cz (some ⟨bm, offm, none⟩) (w7.drewN nq)) := KEEP.out.grown (grown_drewN (World.grownBy.refl _ none) _) (by simp)
        have OP : Hid (Own (w7.drewN nq) gp 97 _) := OP.out
        have OO : Hid (Own (w7.drewN nq) gO 25 vs) := OO.out
        have FAM : Hid (Fam (w7.drewN nq) base _ _) := FAM.out.kept (grown_drewN (World.grownBy.refl _ none) nq)
        have HVL := Lib.hid hvl
        clear d1 d2 e1 e2 p0 p1 a2 q0 q1 q2 q3 hvl CP
        generalize w7.drewN nq = w8 at *
        obtain ⟨_, ⟨e1, e2⟩, _, _, _⟩ := CELLS.out w8 KEEP.out
        have s8 := KEEP.out.sz
        have ht1 : (tl : Int) < (N.V : Int) := t1
        have hu1 : (hd : Int) < (N.V : Int) := u1
        have ht0 : (0 : Int) ≤ (tl : Int) := by omega
        have hu0 : (0 : Int) ≤ (hd : Int) := by omega
        have bt1 : -1 ≤ N.lev (tl : Int) ∧ N.lev (tl : Int) < 100 := by unfold Net.lev; omega
        have bu1 : -1 ≤ N.lev (hd : Int) ∧ N.lev (hd : Int) < 100 := by unfold Net.lev; omega
        clear bt bu t1 u1
        generalize N.lev (tl : Int) = lt at *
        generalize N.lev (hd : Int) = lh at *
        have hwl : IntKind.i64.wrap (lt + 1) = lt + 1 := IntWalk.i64_in _ (by omega)
        go_cut [44, 89] from 44 to 102 (fun i b wx => BgIf w8 k (decide (0 < rm) && decide (0 ≤ lt) && decide (lh = lt + 1)) i b wx)
        case first =>
          by_cases z0 : 0 < rm
          · have z0b : decide (0 < rm) = true := decide_eq_true z0
            by_cases z1 : 0 ≤ lt
            · have z1b : decide (0 ≤ lt) = true := decide_eq_true z1
              by_cases z2 : lh = lt + 1
              · have z2b : (lh == lt + 1) = true := by simp [z2]
                go_quiet (fail)
                go_wp2
                go_meet
                case rel => exact ⟨rfl, by simp [z0, z1, z2], grown_drewN (World.grownBy.refl _ none) _⟩
              · have z2b : (lh == lt + 1) = false := by simp [z2]
                go_quiet (fail)
                go_wp2
                go_meet
                case rel => exact ⟨rfl, by simp [z0, z1, z2], grown_drewN (World.grownBy.refl _ none) _⟩
            · obtain rfl : lt = -1 := by omega
              have HV : Hid (Value.bool false = .bool (decide (0 < rm) && decide ((0 : Int) ≤ -1) && decide (lh = -1 + 1))) := by rw [Hid]; simp
              clear z1 hwl
              go_quiet (fail)
              go_wp2
              go_meet
              case rel => exact ⟨rfl, HV.out, grown_drewN (World.grownBy.refl _ none) _⟩
          · obtain rfl : rm = 0 := by omega
            have HV : Hid (Value.bool false = .bool (decide ((0 : Int) < 0) && decide (0 ≤ lt) && decide (lh = lt + 1))) := by rw [Hid]; simp
            clear z0
            go_quiet (fail)
            go_wp2
            go_meet
            case rel => exact ⟨rfl, HV.out, grown_drewN (World.grownBy.refl _ none) _⟩
        case rest =>
          obtain ⟨rfl, rfl, gx⟩ := hcut
          have KEEP := Lib.hid (KEEP.out.grown gx (by simp))
          have OP := Lib.hid (OP.out.kept gx)
          have OO := Lib.hid (OO.out.kept gx)
          have FAM := Lib.hid (FAM.out.kept gx)
          have s9 := KEEP.out.sz
          clear gx e1 e2 hwl
          cases hb : (decide (0 < rm) && decide (0 ≤ lt) && decide (lh = lt + 1))
          · have HN : Hid (opnsA N (k + 1) = opnsA N k) := opns_no (fun q => by
              have := HST.out.1 q
              simp [this] at hb)
            clear hb
            go_wp2
            go_roundw
            case rel => rw [hB0, hbase]; exact ⟨k + 1, rA6, rc6, vs, by rw [HM2.out]; omega, by go_num, KEEP.out, OP.out, OO.out, HVL.out, by rw [HN.out]; exact FAM.out⟩
            case measure => simp [intOf]; omega
          · simp only [Bool.and_eq_true, decide_eq_true_eq] at hb
            have HSTP := Lib.hid (HST.out.2 ⟨hb.1.1, hb.1.2, hb.2⟩)
            have HY : Hid (opnsA N (k + 1) = (opnsA N k).set tl ((opnsA N k)[tl]?.getD [] ++ [(k : Int)])) := by
              have h1 := opns_yes (N := N) (m := k) (by rw [HTL.out]; exact ⟨ht0, ht1⟩) HSTP.out
              rw [HTL.out, Int.toNat_natCast] at h1
              rw [Hid, opns_at htv]
              exact h1
            obtain ⟨m0, _⟩ := FAM.out.row (u := tl) (by rw [HVL.out]; exact htv)
            obtain ⟨Ag, cg, hv, _⟩ := m0.sl
            have hgt : vs[tl]? = some (.slice Ag ((opnsA N k)[tl]?.getD []).length cg) := by
              rw [List.getElem?_eq_getElem (by rw [HVL.out]; exact htv)] at hv ⊢
              exact congrArg some hv
            have hlen : ((opnsA N k)[tl]?.getD []).length ≤ 32 := by
              rw [opns_at htv]
              have := opn_len N k (tl : Int)
              omega
            have c0 := OO.out.cell tl
            rw [hgt] at c0
            rw [hv] at m0
            have HV := Lib.hid hv
            generalize (opnsA N k)[tl]?.getD [] = hs at *
            have kl : wc.grownBy (wc.alloc (.cells #[.int .i64 (k : Nat)] 3)).drew none := grown_drew (grow0 _ _)
            have c0' : (wc.alloc (.cells #[.int .i64 (k : Nat)] 3)).cell? ⟨gO, tl, none⟩ = some (.slice Ag hs.length cg) := kept (grow0 _ _) c0
            have q3 := OP.out.four.2.2.2
            have q3' : (wc.alloc (.cells #[.int .i64 (k : Nat)] 3)).cell? ⟨gp, 3, none⟩ = some (.slice (some ⟨gO, 0, none⟩) N.V N.V) := kept (grow0 _ _) q3
            have HM1 : Hid (Mine (wc.alloc (.cells #[.int .i64 (k : Nat)] 3)).drew base (.slice Ag hs.length cg) hs.length hs) := m0.kept kl
            have HROW : Hid (Row (wc.alloc (.cells #[.int .i64 (k : Nat)] 3)).drew (wc.heap.size + 1) (some ⟨wc.heap.size, 0, none⟩) 1 [(k : Int)]) := (Row.newAt (w := wc) (g := wc.heap.size) (n := 1) (vs := #[.int .i64 (k : Nat)]) [(k : Int)] rfl rfl rfl (by simp) (by simp; omega)).drewN 1
            have KE := Lib.hid (KEEP.out.grown kl (by simp))
            have OPE := Lib.hid (OP.out.kept kl)
            have OOE := Lib.hid (OO.out.kept kl)
            have FE := Lib.hid (FAM.out.kept kl)
            have FS : Hid (∀ v6 w6, Mine w6 base v6 (hs.length + 1) (hs ++ [(k : Int)]) → (wc.alloc (.cells #[.int .i64 (k : Nat)] 3)).drew.grownBy w6 (Value.slice Ag hs.length cg).ownBlock → (v6.ownBlock = (Value.slice Ag hs.length cg).ownBlock ∨ v6.ownBlock = some (wc.heap.size + 1)) → Fam w6 base (.slice rA6 (k + 1) rc6 :: vs.set tl v6) (roomsA N.caps N.f (k + 1) :: (opnsA N k).set tl (hs ++ [(k : Int)]))) := fun v6 w6 h1 h2 h3 =>
              FE.out.stepU (by rw [HVL.out]; exact htv) h1 (by rw [HV.out]; exact h2) (by rw [HV.out]; exact h3.imp id (fun h => h.trans (by show _ = some (wc.alloc _).heap.size; simp)))
            clear hb kl m0 hgt hv KEEP OP OO FAM
            go_upto_region 11 with fail
            refine wp_region_held_drew (S := fun w' : World => w'.cell? ⟨gp, 3, none⟩ = some (.slice (some ⟨gO, 0, none⟩) N.V N.V)) (by kernel_rfl) q3 (fun hHeld => ?_)
            refine takeH (i := 0) (d := 90) (v := .pointer (some ⟨gp, 3, none⟩)) rfl rfl (by kernel_rfl) (by kernel_rfl) (by kernel_rfl) (fun _ _ _ h => h) (Or.inl ⟨by rfl, ?_⟩) (by assumption) ?_
            · intro w hSw; go_simp
            simp only [Act.put, List.setIfInBounds_toArray, List.set_cons_zero, List.set_cons_succ]
            refine takeH (i := 1) (d := 91) (v := .slice (some ⟨gO, 0, none⟩) N.V N.V) rfl rfl (by kernel_rfl) (by kernel_rfl) (by kernel_rfl) (fun _ _ _ h => h) (Or.inl ⟨by rfl, ?_⟩) (by assumption) ?_
            · intro w hSw; go_simp
            simp only [Act.put, List.setIfInBounds_toArray, List.set_cons_zero, List.set_cons_succ]
            refine takeH (i := 2) (d := 92) (v := .int .i64 (tl : Nat)) rfl rfl (by kernel_rfl) (by kernel_rfl) (by kernel_rfl) (fun _ _ _ h => h) (Or.inl ⟨by rfl, ?_⟩) (by assumption) ?_
            · intro w hSw; go_simp
            simp only [Act.put, List.setIfInBounds_toArray, List.set_cons_zero, List.set_cons_succ]
            refine takeH (i := 3) (d := 93) (v := .pointer (some ⟨gp, 3, none⟩)) rfl rfl (by kernel_rfl) (by kernel_rfl) (by kernel_rfl) (fun _ _ _ h => h) (Or.inl ⟨by rfl, ?_⟩) (by assumption) ?_
            · intro w hSw; go_simp
            simp only [Act.put, List.setIfInBounds_toArray, List.set_cons_zero, List.set_cons_succ]
            refine takeH (i := 4) (d := 94) (v := .slice (some ⟨gO, 0, none⟩) N.V N.V) rfl rfl (by kernel_rfl) (by kernel_rfl) (by kernel_rfl) (fun _ _ _ h => h) (Or.inl ⟨by rfl, ?_⟩) (by assumption) ?_
            · intro w hSw; go_simp
            simp only [Act.put, List.setIfInBounds_toArray, List.set_cons_zero, List.set_cons_succ]
            refine takeH (i := 5) (d := 95) (v := .int .i64 (tl : Nat)) rfl rfl (by kernel_rfl) (by kernel_rfl) (by kernel_rfl) (fun _ _ _ h => h) (Or.inl ⟨by rfl, ?_⟩) (by assumption) ?_
            · intro w hSw; go_simp
            simp only [Act.put, List.setIfInBounds_toArray, List.set_cons_zero, List.set_cons_succ]
            refine takeH (i := 6) (d := 96) (v := .pointer (some ⟨gO, tl, none⟩)) rfl rfl (by kernel_rfl) (by kernel_rfl) (by kernel_rfl) (fun _ _ _ h => h) (Or.inl ⟨by rfl, ?_⟩) (by assumption) ?_
            · intro w hSw; go_simp
            simp only [Act.put, List.setIfInBounds_toArray, List.set_cons_zero, List.set_cons_succ]
            refine takeH (i := 8) (d := 98) (v := .int .i64 (k : Nat)) rfl rfl (by kernel_rfl) (by kernel_rfl) (by kernel_rfl) (fun _ _ _ h => h) (Or.inl ⟨by rfl, ?_⟩) (by assumption) ?_
            · intro w hSw; go_simp
            simp only [Act.put, List.setIfInBounds_toArray, List.set_cons_zero, List.set_cons_succ]
            refine wpAnyH_ready (rs := [7, 9]) (by kernel_rfl) (by simp) ?_
            refine AllReadyH.cons rfl (fun K hK => ?_) (AllReadyH.cons rfl (fun K hK => ?_) AllReadyH.nil)
            · go_simp
              refine hK.out _ _ q3 (fun hHeld => ?_)
              clear hK
              refine wpAnyH_ready (rs := [9]) (by kernel_rfl) (by simp) ?_
              refine AllReadyH.cons rfl (fun K hK => ?_) AllReadyH.nil
              go_simp
              refine hK.out _ _ q3' (fun hHeld => ?_)
              clear hK
              refine wpAnyH_ready (rs := [10]) (by kernel_rfl) (by simp) ?_
              refine AllReadyH.cons rfl (fun K hK => ?_) AllReadyH.nil
              refine step_app4 rfl _ _ (by rfl) base _ hs.length hs (by rfl) HM1.out (some ⟨wc.heap.size, 0, none⟩) 1 1 [(k : Int)] (by rfl) HROW.out (by simp) (by omega) (by simp; omega) ?_
              intro v6 w6 hm6 hg6 hc6
              have hge := HM1.out.own_ge
              have F6 := Lib.hid (FS.out v6 w6 hm6 hg6 (by simpa using hc6))
              obtain ⟨A9, c9, rfl, _⟩ := hm6.sl
              have K6 := Lib.hid (KE.out.grown hg6 hge)
              have P6 := Lib.hid (OPE.out.kept' hg6 (fun e => by have := hge _ e; omega))
              have O6 := Lib.hid (OOE.out.kept' hg6 (fun e => by have := hge _ e; omega))
              have k0 := O6.out.cell tl
              rw [List.getElem?_eq_getElem (show tl < vs.length by rw [HVL.out]; exact htv)] at k0
              have t0 := O6.out.frozen tl
              have q6 := P6.out.four.2.2.2
              clear hm6 hg6 hge hc6
              simp only [Act.put, List.setIfInBounds_toArray]
              refine hK.out _ _ q6 (fun hHeld => ?_)
              clear hK
              refine takeH (i := 11) (d := 101) (v := .pointer (some ⟨gO, tl, none⟩)) rfl rfl (by kernel_rfl) (by kernel_rfl) (by kernel_rfl) (fun _ _ _ h => h) (Or.inl ⟨by rfl, ?_⟩) (by assumption) ?_
              · intro w hSw; go_simp
              simp only [Act.put]
              refine wpAnyH_ready (rs := [12]) (by kernel_rfl) (by simp) ?_
              refine AllReadyH.cons rfl (fun K hK => ?_) AllReadyH.nil
              go_simp
              refine hK.out _ _ (other_get (fun e => r7 e.symm) q6) (fun hHeld => ?_)
              clear hK
              refine wpAnyH_done (by kernel_rfl) ?_ _
              go_wp2
              go_roundw
              case rel =>
                rw [hB0, hbase]
                exact ⟨k + 1, rA6, rc6, vs.set tl (.slice A9 (hs.length + 1) c9), by rw [HM2.out]; omega, by go_num, K6.out.put r4 _, P6.out.setOther (fun e => r7 e.symm) _, O6.out.put (i := tl) _, by rw [List.length_set]; exact HVL.out, by rw [HY.out]; exact F6.out.putLow r6⟩
              case measure => simp [intOf]; omega
            · go_simp
              refine hK.out _ _ q3' (fun hHeld => ?_)
              clear hK
              refine wpAnyH_ready (rs := [7]) (by kernel_rfl) (by simp) ?_
              refine AllReadyH.cons rfl (fun K hK => ?_) AllReadyH.nil
              go_simp
              refine hK.out _ _ q3' (fun hHeld => ?_)
              clear hK
              refine wpAnyH_ready (rs := [10]) (by kernel_rfl) (by simp) ?_
              refine AllReadyH.cons rfl (fun K hK => ?_) AllReadyH.nil
              refine step_app4 rfl _ _ (by rfl) base _ hs.length hs (by rfl) HM1.out (some ⟨wc.heap.size, 0, none⟩) 1 1 [(k : Int)] (by rfl) HROW.out (by simp) (by omega) (by simp; omega) ?_
              intro v6 w6 hm6 hg6 hc6
              have hge := HM1.out.own_ge
              have F6 := Lib.hid (FS.out v6 w6 hm6 hg6 (by simpa using hc6))
              obtain ⟨A9, c9, rfl, _⟩ := hm6.sl
              have K6 := Lib.hid (KE.out.grown hg6 hge)
              have P6 := Lib.hid (OPE.out.kept' hg6 (fun e => by have := hge _ e; omega))
              have O6 := Lib.hid (OOE.out.kept' hg6 (fun e => by have := hge _ e; omega))
              have k0 := O6.out.cell tl
              rw [List.getElem?_eq_getElem (show tl < vs.length by rw [HVL.out]; exact htv)] at k0
              have t0 := O6.out.frozen tl
              have q6 := P6.out.four.2.2.2
              clear hm6 hg6 hge hc6
              simp only [Act.put, List.setIfInBounds_toArray]
              refine hK.out _ _ q6 (fun hHeld => ?_)
              clear hK
              refine takeH (i := 11) (d := 101) (v := .pointer (some ⟨gO, tl, none⟩)) rfl rfl (by kernel_rfl) (by kernel_rfl) (by kernel_rfl) (fun _ _ _ h => h) (Or.inl ⟨by rfl, ?_⟩) (by assumption) ?_
              · intro w hSw; go_simp
              simp only [Act.put]
              refine wpAnyH_ready (rs := [12]) (by kernel_rfl) (by simp) ?_
              refine AllReadyH.cons rfl (fun K hK => ?_) AllReadyH.nil
              go_simp
              refine hK.out _ _ (other_get (fun e => r7 e.symm) q6) (fun hHeld => ?_)
              clear hK
              refine wpAnyH_done (by kernel_rfl) ?_ _
              go_wp2
              go_roundw
              case rel =>
                rw [hB0, hbase]
                exact ⟨k + 1, rA6, rc6, vs.set tl (.slice A9 (hs.length + 1) c9), by rw [HM2.out]; omega, by go_num, K6.out.put r4 _, P6.out.setOther (fun e => r7 e.symm) _, O6.out.put (i := tl) _, by rw [List.length_set]; exact HVL.out, by rw [HY.out]; exact F6.out.putLow r6⟩
              case measure => simp [intOf]; omega
      · obtain rfl : k = m2 := by omega
        obtain ⟨o0, o1, o2, o3⟩ := KEEP.out.or.four
        have f0 := KEEP.out.or.frozen 0
        have f1 := KEEP.out.or.frozen 1
        have f2 := KEEP.out.or.frozen 2
        have f3 := KEEP.out.or.frozen 3
        unfold nilS at o1 o2 o3
        have fam := FAM.out
        have oo := OO.out
        have OR := Lib.hid KEEP.out.or
        rw [← HM2.out] at fam
        have BE := Lib.hid (fun x y z u => bg_end KEEP.out oo hvl fam HOZ.out x y z u)
        rw [HM2.out] at BE
        clear fam oo KEEP OO FAM OP
        go_wp2
        exact post_push rfl rfl (OR.out.put4 _ _ _ _) rfl (BE.out _ _ _ _)

end Go.Proofs.Ytlpohlcmjnlbhaa
