/-
  strand's first, walked: a path link by link, or none.
-/
import Derived.Test.YtlpohlcmjnlbhaaStrandB
set_option maxRecDepth 20000
namespace Go.Proofs.Ytlpohlcmjnlbhaa
open Go.RowKit

theorem results_pth {fn : Func} {t u : Tmp} (h : fn.results = #[.cell t 66, .tmp u]) (tmps : Array Value) (w : World) {g : Nat} {x y : Value} (hp : tmps[t]?.getD undef = .pointer (some ⟨g, 0, none⟩))
   (c0 : w.cell? ⟨g, 0, none⟩ = some x) (c1 : w.cell? ⟨g, 1, none⟩ = some y) :
    (results fn tmps).run Try.prog w = .ok (.tuple #[.agg #[x, y], tmps[u]?.getD undef]) w := by
  simp [results, h, hp, c0, c1, go_sem]
theorem post_pth {fn : Func} {t u : Tmp} {R : Ending → World → Prop} {a : Act} {w : World} (h : fn.results = #[.cell t 66, .tmp u]) {g : Nat} {x y : Value} (hp : a.tmps[t]?.getD undef = .pointer (some ⟨g, 0, none⟩))
   (o : Own w g 66 [x, y]) (hd : a.defers = []) (hR : R (.returned (.tuple #[.agg #[x, y], a.tmps[u]?.getD undef])) w) : bodyPost Try.prog fn R .ret a w :=
  bodyPost_ret (results_pth h a.tmps w hp o.two.1 o.two.2) hd hR

/-- What first tells: a path from the source to the sink with the rate of its least link, or that nothing leaves the source. -/
def FpPost (w : World) (L : List Lk) (r : List Int) (s t : Int) (e : Ending) (w' : World) : Prop :=
  ∃ m lv ok, e = .returned (.tuple #[.agg #[.int .i64 m, lv], .bool ok]) ∧ w.grownBy w' none ∧ ((ok = true ∧ ∃ ls, WkIs L r s ls m ∧ endOf L s ls = t ∧ Mine w' w.heap.size lv ls.length ls) ∨ (ok = false ∧ m = 0 ∧ lv = .slice none 0 0 ∧ ∃ ls m', WkIs L r s ls m' ∧ endOf L s ls ≠ t ∧ ∀ i, i < L.length → (at3 L i).1 = endOf L s ls → ¬ 0 < nAt r i))

theorem Mine.setOther {w : World} {base : Nat} {v : Value} {n : Nat} {xs : List Int} (h : Mine w base v n xs) {g : Nat} (hg : g < base) (i : Nat) (u : Value) : Mine (w.setCell ⟨g, i, none⟩ u) base v n xs :=
  h.kept' (grown_set (World.grownBy.refl w _) _) (fun k hk e => by
    injection e with e
    have := h.own_ge k hk
    omega)

structure FpM (w : World) (V : Nat) (A : Option Addr) (n c : Nat) (gp : Nat) (lv : Value) (m : Int) (ls : List Int) (wr : World) : Prop where
  g : w.grownBy wr none
  ob : Own wr w.heap.size 24 [.int .i64 (V : Nat), .slice A n c]
  oz : Own wr (w.heap.size + 1) 66 [.int .i64 0, .slice none 0 0]
  op : Own wr gp 66 [.int .i64 m, lv]
  ml : Mine wr (gp + 1) lv ls.length ls

theorem FpM.kept {w : World} {V : Nat} {A : Option Addr} {n c gp : Nat} {lv : Value} {m : Int} {ls : List Int} {wr w' : World} (h : FpM w V A n c gp lv m ls wr) (k : wr.grownBy w' none) : FpM w V A n c gp lv m ls w' :=
  ⟨grown_trans h.g k, h.ob.kept k, h.oz.kept k, h.op.kept k, h.ml.kept k⟩

theorem FpM.rate {w : World} {V : Nat} {A : Option Addr} {n c gp : Nat} {lv : Value} {m : Int} {ls : List Int} {wr : World} (h : FpM w V A n c gp lv m ls wr) (hg : w.heap.size + 1 < gp) (y : Int) : FpM w V A n c gp lv y ls (wr.setCell ⟨gp, 0, none⟩ (.int .i64 y)) :=
  ⟨grown_new h.g (by omega) _, h.ob.setOther (by omega) _, h.oz.setOther (by omega) _, h.op.setAt0 _, h.ml.kept' (grown_set (World.grownBy.refl wr _) _) (fun k hk e => by
    injection e with e
    have := h.ml.own_ge k hk
    omega)⟩

theorem FpM.link {w : World} {V : Nat} {A : Option Addr} {n c gp : Nat} {lv lv' : Value} {m : Int} {ls ls' : List Int} {wr w' : World} (h : FpM w V A n c gp lv m ls wr) (hg : w.heap.size + 1 < gp) (k : wr.grownBy w' lv.ownBlock) (hm : Mine w' (gp + 1) lv' ls'.length ls') : FpM w V A n c gp lv' m ls' (w'.setCell ⟨gp, 1, none⟩ lv') := by
  have ne : ∀ g, lv.ownBlock = some g → gp < g := fun g e => h.ml.own_ge g e
  have hs := h.g.size
  refine ⟨grown_new (grown_none h.g k (fun g e => by have := ne g e; omega)) (by omega) _, (h.ob.kept' k (fun e => by have := ne _ e; omega)).setOther (by omega) _, (h.oz.kept' k (fun e => by have := ne _ e; omega)).setOther (by omega) _, (h.op.kept' k (fun e => by have := ne _ e; omega)).setAt1 _, hm.kept' (grown_set (World.grownBy.refl w' _) _) (fun q hq e => by
    injection e with e
    have := hm.own_ge q hq
    omega)⟩

def lenPb (w : World) (g : Nat) : Nat := match w.cell? ⟨g, 1, none⟩ with | some (.slice _ n _) => n | _ => 0

theorem FpM.len {w : World} {V : Nat} {A : Option Addr} {n c gp : Nat} {lv : Value} {m : Int} {ls : List Int} {wr : World} (h : FpM w V A n c gp lv m ls wr) : lenPb wr gp = ls.length := by
  obtain ⟨A', c', rfl, _⟩ := h.ml.sl
  rw [lenPb, h.op.two.2]

def FpRel (w : World) (V : Nat) (A : Option Addr) (n c : Nat) (L : List Lk) (r : List Int) (s : Int) (gp : Nat) (x : Value) (wr : World) : Prop :=
  ∃ ls m lv, x = .int .i64 (endOf L s ls) ∧ WkIs L r s ls m ∧ FpM w V A n c gp lv m ls wr

set_option maxHeartbeats 4000000 in
theorem sfirst_any (vn : Nat) (A : Option Addr) (n c : Nat) (L : List Lk) (Y : Option Addr) (e0 : Nat) (r : List Int) (s t : Int) (w : World) {B B' : Nat} (h : Lks w B A n L) (hB : B ≤ w.heap.size) (hy : Row w B' Y n r) (hB' : B' ≤ w.heap.size) (hm : mayG (vn : Nat) L = true) (hs : 0 ≤ s ∧ s < (vn : Int)) (hc : ¬ CycP L r) (hr : ∀ i, nAt r i ≤ 4611686018427387904) :
    Calls Try.prog 47 #[.agg #[.int .i64 (vn : Nat), .slice A n c], .slice Y n e0, .int .i64 s, .int .i64 t] w (FpPost w L r s t) := by
  have h16 := may_small hm
  have hLn := h.len
  rw [hLn] at h16
  have HLN := Lib.hid hLn
  have HMAY := Lib.hid hm
  have HSV := Lib.hid hs
  have HCY := Lib.hid hc
  have HRB := Lib.hid hr
  have HR := Lib.hid h
  have HY := Lib.hid hy
  have G0 := Lib.hid (grow0 w (.cells #[.int .i64 (vn : Nat), .slice A n c] 24))
  have OB0 := Lib.hid (Own.new w 24 [.int .i64 (vn : Nat), .slice A n c])
  clear h hm hy hLn hs hc hr
  go_enter Try.func47, Try.ntmps47
  go_upto_region 2 with fail
  have FM0 : Hid (FpM w vn A n c (w.heap.size + 1 + 1) (.slice none 0 0) 4611686018427387904 [] (((w.alloc (.cells #[.int .i64 (vn : Nat), .slice A n c] 24)).alloc (.cells #[.int .i64 0, .slice none 0 0] 66)).alloc (.cells #[.int .i64 4611686018427387904, .slice none 0 0] 66))) := by
    have o1 := Own.new (w.alloc (.cells #[.int .i64 (vn : Nat), .slice A n c] 24)) 66 [.int .i64 0, .slice none 0 0]
    have o2 := Own.new ((w.alloc (.cells #[.int .i64 (vn : Nat), .slice A n c] 24)).alloc (.cells #[.int .i64 0, .slice none 0 0] 66)) 66 [.int .i64 4611686018427387904, .slice none 0 0]
    have e1 : (w.alloc (.cells #[.int .i64 (vn : Nat), .slice A n c] 24)).heap.size = w.heap.size + 1 := by simp
    have e2 : ((w.alloc (.cells #[.int .i64 (vn : Nat), .slice A n c] 24)).alloc (.cells #[.int .i64 0, .slice none 0 0] 66)).heap.size = w.heap.size + 1 + 1 := by simp
    rw [e1] at o1
    rw [e2] at o2
    exact ⟨grown_alloc (grown_alloc G0.out _) _, (OB0.out.alloc _).alloc _, o1.alloc _, o2, Mine.nil _ _⟩
  have hgp : w.heap.size + 1 < w.heap.size + 1 + 1 := Nat.lt_succ_self _
  generalize ((w.alloc (.cells #[.int .i64 (vn : Nat), .slice A n c] 24)).alloc (.cells #[.int .i64 0, .slice none 0 0] 66)).alloc (.cells #[.int .i64 4611686018427387904, .slice none 0 0] 66) = w0 at *
  generalize w.heap.size + 1 + 1 = gp at *
  have HS : Hid (FpRel w vn A n c L r s gp (.int .i64 s) w0) := ⟨[], _, _, rfl, walk1_first L r s, FM0.out⟩
  clear FM0 G0 OB0
  go_wp2
  go_loopw [11] (fun x wr => FpRel w vn A n c L r s gp x wr) (fun _ wr => vn - lenPb wr gp)
  case atStart => exact HS.out
  case round =>
    clear HS
    obtain ⟨ls, m, lv, rfl, wk, fm⟩ := hrel
    have WK := Lib.hid wk
    have FM := Lib.hid fm
    have HLE := Lib.hid fm.len
    have HMOST := Lib.hid (walk1_most HMAY.out HSV.out wk)
    have HEI := Lib.hid (end_in HMAY.out ls s (walk1_all wk) HSV.out)
    obtain ⟨Al, cl, rfl, _⟩ := fm.ml.sl
    clear wk fm
    by_cases het : endOf L s ls = t
    · have q0 : (endOf L s ls != t) = false := by simp [het]
      obtain ⟨p0, p1⟩ := FM.out.op.two
      obtain ⟨z0, z1⟩ := FM.out.oz.two
      have f0 := FM.out.oz.frozen 0
      have f1 := FM.out.oz.frozen 1
      go_wp2
      refine post_pth rfl rfl ((FM.out.oz.setAt0 _).setAt1 _) rfl ⟨m, _, true, rfl, ?_, .inl ⟨rfl, ls, WK.out, het, ?_⟩⟩
      · exact grown_new (grown_new FM.out.g (by omega) _) (by omega) _
      · exact ((FM.out.ml.setOther (by omega) _ _).setOther (by omega) _ _).wide (by omega)
    · have q0 : (endOf L s ls != t) = true := by simp [het]
      obtain ⟨g0, g1⟩ := FM.out.ob.two
      go_wp2_with fail
      refine (sonward_any vn A n c L Y e0 r (endOf L s ls) _ (HR.out.grown hB FM.out.g) (HY.out.grown hB' FM.out.g)).mono ?_
      rintro e w2 ⟨l, ll, rfl, k⟩
      have FM2 := Lib.hid (FM.out.kept k)
      clear g0 g1 FM k
      rcases ll with ⟨i, rfl, hi, hf, hp⟩ | ⟨rfl, hno⟩
      case inr =>
        have HNO := Lib.hid hno
        obtain ⟨z0, z1⟩ := FM2.out.oz.two
        have f0 := FM2.out.oz.frozen 0
        have f1 := FM2.out.oz.frozen 1
        clear hno
        go_wp2
        refine post_pth rfl rfl ((FM2.out.oz.setAt0 _).setAt1 _) rfl ⟨0, _, false, rfl, ?_, .inr ⟨rfl, rfl, rfl, ls, m, WK.out, het, fun i a b => by have := HNO.out i a b; omega⟩⟩
        exact grown_new (grown_new FM2.out.g (by omega) _) (by omega) _
      have hi' : i < n := by rw [← HLN.out]; exact hi
      have hneg : ¬ (i : Int) < 0 := by omega
      obtain ⟨bf, off, rfl, _, hcf⟩ := (HY.out.grown hB' FM2.out.g).at_ (by omega)
      have y0 := hcf i hi'
      have HX : Hid (∀ y, ((y = m ∧ m ≤ nAt r i) ∨ (y = nAt r i ∧ nAt r i ≤ m)) → WkIs L r s (ls ++ [(i : Int)]) y ∧ endOf L s (ls ++ [(i : Int)]) = (at3 L i).2.1) := fun y hy => walk1_next WK.out HCY.out hi hf hp (HRB.out i) hy
      have HD : Hid (∀ wx, w.grownBy wx none → ∃ b2 off2, A = some ⟨b2, off2, none⟩ ∧ wx.cell? ⟨b2, off2 + i * 3 + 1, none⟩ = some (.int .i64 (at3 L i).2.1)) := fun wx gx => by
        obtain ⟨b2, off2, hA, _, hc⟩ := (HR.out.grown hB gx).cells (by omega)
        obtain ⟨_, d1, _⟩ := hc i hi'
        exact ⟨b2, off2, hA, d1⟩
      have hyx : r[i]?.getD 0 = nAt r i := rfl
      rw [hyx] at y0
      clear hcf hyx hf hp
      generalize nAt r i = y at *
      generalize (at3 L i).2.1 = td at *
      obtain ⟨p0, p1⟩ := FM2.out.op.two
      have f0 := FM2.out.op.frozen 0
      have PUT : ∀ mm : Int, Hid (FpM w vn A n c gp (.slice Al ls.length cl) mm ls (w2.setCell ⟨gp, 0, none⟩ (.int .i64 mm)).drew) := fun mm => (FM2.out.rate hgp mm).kept (grown_drewN (World.grownBy.refl _ none) 1)
      by_cases hmin : y < m
      · go_upto_region 7 with fail
        go_still_tail 8, (by kernel_rfl)
        go_upto_region 8 with fail
        have HX3 := Lib.hid (HX.out y (.inr ⟨rfl, by omega⟩))
        have FM3 := PUT y
        clear PUT HX p0 p1 y0 f0 hmin FM2
        generalize (w2.setCell ⟨gp, 0, none⟩ (.int .i64 y)).drew = w3 at *
        generalize y = mm at *
        obtain ⟨p0, p1⟩ := FM3.out.op.two
        have HM1 := Lib.hid (FM3.out.ml.kept (grow0 _ (.cells #[.int .i64 (i : Nat)] 3)))
        have HROW := Lib.hid (Row.newAt (w := w3) (g := w3.heap.size) (n := 1) (vs := #[.int .i64 (i : Nat)]) [(i : Int)] (by simp) rfl rfl (by simp) (by simp; omega))
        have hlt3 := FM3.out.op.lt
        have hmost := HMOST.out
        go_wp2_with (first | (at_builtin; refine wpList_app _ rfl _ _ rfl (gp + 1) _ _ _ rfl HM1.out _ 1 1 [(i : Int)] rfl HROW.out (by simp) (by omega) (by simp; omega) ?_))
        intro v1 w4 hm1 hg4 _
        obtain ⟨A1, c1, rfl, _⟩ := hm1.sl
        have hm2 : Mine w4 (gp + 1) (.slice A1 (ls.length + 1) c1) (ls ++ [(i : Int)]).length (ls ++ [(i : Int)]) := by
          rw [List.length_append, List.length_singleton]; exact hm1
        have OP4 := (FM3.out.op.kept (grow0 _ (.cells #[.int .i64 (i : Nat)] 3))).kept' hg4 (fun e => by have := HM1.out.own_ge _ e; omega)
        have FM5 := Lib.hid ((FM3.out.kept (grow0 _ (.cells #[.int .i64 (i : Nat)] 3))).link hgp hg4 hm2)
        obtain ⟨q0, q1⟩ := OP4.two
        have f1 := OP4.frozen 1
        clear p0 p1 HM1 HROW hm1 hm2 hg4 FM3 OP4
        go_upto_region 9 with fail
        clear q0 q1 f1
        generalize w4.setCell ⟨gp, 1, none⟩ (.slice A1 (ls.length + 1) c1) = w5 at *
        obtain ⟨b2, off2, rfl, d1⟩ := HD.out w5 FM5.out.g
        obtain ⟨g0, g1⟩ := FM5.out.ob.two
        obtain ⟨hw1, hw2⟩ := HX3.out
        have HW1 := Lib.hid hw1
        have HW2 := Lib.hid hw2
        have HLN5 := Lib.hid FM5.out.len
        clear hw1 hw2 HX3 HD
        go_wp2
        go_roundw
        case rel => exact ⟨_, _, _, by rw [HW2.out], HW1.out, FM5.out⟩
        case measure => rw [HLN5.out, HLE.out]; simp; omega
      · have hmd : decide (y < m) = false := by simp; omega
        have hmf : (y < m) = False := by simp; omega
        go_upto_region 7 with fail
        go_still_tail 8, (by kernel_rfl)
        go_upto_region 8 with fail
        have HX3 := Lib.hid (HX.out m (.inl ⟨rfl, by omega⟩))
        have FM3 := PUT m
        clear PUT HX p0 p1 y0 f0 hmin FM2
        generalize (w2.setCell ⟨gp, 0, none⟩ (.int .i64 m)).drew = w3 at *
        obtain ⟨p0, p1⟩ := FM3.out.op.two
        have HM1 := Lib.hid (FM3.out.ml.kept (grow0 _ (.cells #[.int .i64 (i : Nat)] 3)))
        have HROW := Lib.hid (Row.newAt (w := w3) (g := w3.heap.size) (n := 1) (vs := #[.int .i64 (i : Nat)]) [(i : Int)] (by simp) rfl rfl (by simp) (by simp; omega))
        have hlt3 := FM3.out.op.lt
        have hmost := HMOST.out
        go_wp2_with (first | (at_builtin; refine wpList_app _ rfl _ _ rfl (gp + 1) _ _ _ rfl HM1.out _ 1 1 [(i : Int)] rfl HROW.out (by simp) (by omega) (by simp; omega) ?_))
        intro v1 w4 hm1 hg4 _
        obtain ⟨A1, c1, rfl, _⟩ := hm1.sl
        have hm2 : Mine w4 (gp + 1) (.slice A1 (ls.length + 1) c1) (ls ++ [(i : Int)]).length (ls ++ [(i : Int)]) := by
          rw [List.length_append, List.length_singleton]; exact hm1
        have OP4 := (FM3.out.op.kept (grow0 _ (.cells #[.int .i64 (i : Nat)] 3))).kept' hg4 (fun e => by have := HM1.out.own_ge _ e; omega)
        have FM5 := Lib.hid ((FM3.out.kept (grow0 _ (.cells #[.int .i64 (i : Nat)] 3))).link hgp hg4 hm2)
        obtain ⟨q0, q1⟩ := OP4.two
        have f1 := OP4.frozen 1
        clear p0 p1 HM1 HROW hm1 hm2 hg4 FM3 OP4
        go_upto_region 9 with fail
        clear q0 q1 f1
        generalize w4.setCell ⟨gp, 1, none⟩ (.slice A1 (ls.length + 1) c1) = w5 at *
        obtain ⟨b2, off2, rfl, d1⟩ := HD.out w5 FM5.out.g
        obtain ⟨g0, g1⟩ := FM5.out.ob.two
        obtain ⟨hw1, hw2⟩ := HX3.out
        have HW1 := Lib.hid hw1
        have HW2 := Lib.hid hw2
        have HLN5 := Lib.hid FM5.out.len
        clear hw1 hw2 HX3 HD
        go_wp2
        go_roundw
        case rel => exact ⟨_, _, _, by rw [HW2.out], HW1.out, FM5.out⟩
        case measure => rw [HLN5.out, HLE.out]; simp; omega

end Go.Proofs.Ytlpohlcmjnlbhaa
