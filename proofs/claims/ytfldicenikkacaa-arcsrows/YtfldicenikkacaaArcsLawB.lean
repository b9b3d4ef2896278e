/-
  The law ArcsBuilds, walked.
-/
import Derived.Test.YtfldicenikkacaaArcsF
namespace Go.Proofs.Ytfldicenikkacaa
open Go.RowKit

def OwnOf (x y z : Value) (u : Nat) : Prop := x.ownBlock = some u ∨ y.ownBlock = some u ∨ z.ownBlock = some u

theorem Tri.bounds {w : World} {base : Nat} {x y z : Value} {s o h : List Int} (t : Tri w base x y z s o h) : ∀ u, OwnOf x y z u → base ≤ u ∧ u < w.heap.size := by
  intro u hu
  rcases hu with e | e | e
  · exact ⟨t.S.own_ge u e, t.S.own_lt u e⟩
  · exact ⟨t.O.own_ge u e, t.O.own_lt u e⟩
  · exact ⟨t.H.own_ge u e, t.H.own_lt u e⟩

theorem Tri.kept' {w w' : World} {base : Nat} {x y z : Value} {s o h : List Int} {row : Option Nat} (t : Tri w base x y z s o h) (k : w.grownBy w' row) (hr : ∀ g u, row = some g → OwnOf x y z u → u ≠ g) : Tri w' base x y z s o h :=
  ⟨t.S.kept' k (fun u hu e => hr u u e (.inl hu) rfl), t.O.kept' k (fun u hu e => hr u u e (.inr (.inl hu)) rfl), t.H.kept' k (fun u hu e => hr u u e (.inr (.inr hu)) rfl), t.so, t.sh, t.oh⟩

theorem Mine.rowAt {w : World} {base : Nat} {A : Option Addr} {n c : Nat} {xs : List Int} (h : Mine w base (.slice A n c) n xs) (hok : okI xs) : Row w w.heap.size A n xs := by
  obtain ⟨A', c', hv, _, hr⟩ := h.row hok
  injection hv with e1 e2 e3
  subst e1
  exact hr

theorem Tri.rowsAt {w : World} {base : Nat} {Ax Ay Az : Option Addr} {cx cy cz : Nat} {s o h : List Int} (t : Tri w base (.slice Ax s.length cx) (.slice Ay o.length cy) (.slice Az h.length cz) s o h) (k1 : okI s) (k2 : okI o) (k3 : okI h) :
    Rows3 w w.heap.size Ax Ay Az s o h := ⟨t.S.rowAt k1, t.O.rowAt k2, t.H.rowAt k3⟩

theorem not_same {a : Int} : (a != a) = false := by simp

set_option maxHeartbeats 4000000 in
theorem ArcsBuilds_walk (V : Int) (A : Option Addr) (n c : Nat) (ls : List Lk) (v : Int) (w : World) (h : InG w A n c ls) :
    Calls Try.prog 5 #[.agg #[.int .i64 V, .slice A n c], .int .i64 v] w (LawPost w) := by
  obtain ⟨hs, hnc, hc, hnil⟩ := h
  have HR := Lib.hid hs
  have HNIL := Lib.hid hnil
  have HR1 := Lib.hid (hs.grown (Nat.le_refl _) (grow0 w (.cells #[.int .i64 V, .slice A n c] 24)))
  clear hs hnil
  have CB : Hid (∀ (A : Option Addr) (c : Nat) (wx : World) (B : Nat), Lks wx B A n ls → B ≤ wx.heap.size → Calls Try.prog 30 #[.agg #[.int .i64 V, .slice A n c]] wx (ArcPost wx (arcS V ls) (arcO V ls) (arcH V ls) (arcE V ls))) := fun A c wx B h hB => Build_any V A n c ls wx h hB
  have CRB : Hid (∀ (A : Option Addr) (c : Nat) (wx : World) (B : Nat), Lks wx B A n ls → B ≤ wx.heap.size → Calls Try.prog 31 #[.agg #[.int .i64 V, .slice A n c]] wx (ArcPost wx (arcS V ls) (arcO V ls) (arcH V ls) (arcE V ls))) := fun A c wx B h hB => RBuild_any V A n c ls wx h hB
  have CR : Hid (∀ (A : Option Addr) (c : Nat) (wx : World) (B : Nat), Lks wx B A n ls → B ≤ wx.heap.size → Calls Try.prog 32 #[.agg #[.int .i64 V, .slice A n c], .int .i64 v] wx (SelPost wx (rowOf V ls v) (rowE V ls v))) := fun A c wx B h hB => Row_any V v A n c ls wx h hB
  have CRR : Hid (∀ (A : Option Addr) (c : Nat) (wx : World) (B : Nat), Lks wx B A n ls → B ≤ wx.heap.size → Calls Try.prog 33 #[.agg #[.int .i64 V, .slice A n c], .int .i64 v] wx (SelPost wx (rowOf V ls v) (rowE V ls v))) := fun A c wx B h hB => RRow_any V v A n c ls wx h hB
  have okS := Lib.hid (show okI _ from arcS_ok V ls)
  have okO := Lib.hid (show okI _ from arcO_ok V ls)
  have okH := Lib.hid (show okI _ from arcH_ok V ls)
  have okR := Lib.hid (show okI _ from rowOf_ok V ls v)
  generalize arcS V ls = s at *
  generalize arcO V ls = o at *
  generalize arcH V ls = hh at *
  generalize arcE V ls = ze at *
  generalize rowOf V ls v = rr at *
  generalize rowE V ls v = re at *
  go_enter Try.func5, Try.ntmps5
  go_wp2_with fail
  refine (CopyGraph_any V A n c ls _ HR1.out (by simp) HNIL.out (by omega)).mono ?_
  rintro e w1 ⟨x, rfl, hm, k1⟩
  obtain ⟨g1, ob⟩ := box1 [.int .i64 V, .slice A n c] k1
  obtain ⟨A1, c1, rfl, _, _, hrow⟩ := hm.row
  have b1 := ob.lt
  have k2 := grow0 w1 (.cells #[.int .i64 V, .slice A1 n c1] 24)
  have hlx : Lks w1 w1.heap.size A1 n ls := ⟨hrow, HR.out.ok⟩
  have LX := Lib.hid (hlx.grown (Nat.le_refl _) k2)
  have G := Lib.hid (grown_trans g1 k2)
  have OB := Lib.hid (ob.kept k2)
  have OX := Lib.hid (Own.new w1 24 [.int .i64 V, .slice A1 n c1])
  clear k1 k2 g1 ob hm hrow hlx HR1
  go_wp2_with fail
  refine (CB.out A1 c1 _ _ LX.out (by simp)).mono ?_
  rintro e w2 ⟨x, y, z, rfl, ta, k⟩
  rw [World.size_alloc] at ta
  have s2 : w1.heap.size + 1 ≤ w2.heap.size := by have := k.size; simpa using this
  have hta := ta.bounds
  obtain ⟨Ax, Ay, Az, cx, cy, cz, rfl, rfl, rfl, _⟩ := ta.rows okS.out okO.out okH.out
  have k' := grown_trans k (grow0 w2 (.cells #[.slice Ax s.length cx, .slice Ay o.length cy, .slice Az hh.length cz] 48))
  have TA := Lib.hid (ta.kept (grow0 w2 (.cells #[.slice Ax s.length cx, .slice Ay o.length cy, .slice Az hh.length cz] 48)))
  have OA := Lib.hid (Own.new w2 48 [.slice Ax s.length cx, .slice Ay o.length cy, .slice Az hh.length cz])
  have LX := Lib.hid (LX.out.grown (by simp) k')
  have G := Lib.hid (grown_trans G.out k')
  have OB := Lib.hid (OB.out.kept k')
  have OX := Lib.hid (OX.out.kept k')
  clear ta k k'
  obtain ⟨p0, p1⟩ := OB.out.two
  obtain ⟨q0, q1⟩ := OX.out.two
  go_wp2_with fail
  refine (CRB.out A c _ _ (HR.out.grown (Nat.le_refl _) G.out) G.out.size).mono ?_
  rintro e w3 ⟨x, y, z, rfl, tb, k⟩
  rw [World.size_alloc] at tb
  have s3 : w2.heap.size + 1 ≤ w3.heap.size := by have := k.size; simpa using this
  have htb := tb.bounds
  obtain ⟨Bx, By, Bz, dx, dy, dz, rfl, rfl, rfl, _⟩ := tb.rows okS.out okO.out okH.out
  have k' := grown_trans k (grow0 w3 (.cells #[.slice Bx s.length dx, .slice By o.length dy, .slice Bz hh.length dz] 48))
  have TB := Lib.hid (tb.kept (grow0 w3 (.cells #[.slice Bx s.length dx, .slice By o.length dy, .slice Bz hh.length dz] 48)))
  have OBB := Lib.hid (Own.new w3 48 [.slice Bx s.length dx, .slice By o.length dy, .slice Bz hh.length dz])
  have TA := Lib.hid (TA.out.kept k')
  have OA := Lib.hid (OA.out.kept k')
  have LX := Lib.hid (LX.out.grown (by simp; omega) k')
  have G := Lib.hid (grown_trans G.out k')
  have OB := Lib.hid (OB.out.kept k')
  have OX := Lib.hid (OX.out.kept k')
  clear tb k k' p0 p1 q0 q1
  obtain ⟨p0, p1⟩ := OB.out.two
  obtain ⟨q0, q1⟩ := OX.out.two
  go_wp2_with fail
  refine (CR.out A1 c1 _ _ LX.out (by simp; omega)).mono ?_
  rintro e w4 ⟨vc, rfl, hcc, k⟩
  rw [World.size_alloc] at hcc
  have s4 : w3.heap.size + 1 ≤ w4.heap.size := by have := k.size; simpa using this
  have hcge := hcc.own_ge
  have hclt := hcc.own_lt
  obtain ⟨Ac, cc, rfl, _, _⟩ := hcc.row okR.out
  have MC := Lib.hid hcc
  have TB := Lib.hid (TB.out.kept k)
  have OBB := Lib.hid (OBB.out.kept k)
  have TA := Lib.hid (TA.out.kept k)
  have OA := Lib.hid (OA.out.kept k)
  have LX := Lib.hid (LX.out.grown (by simp; omega) k)
  have G := Lib.hid (grown_trans G.out k)
  have OB := Lib.hid (OB.out.kept k)
  have OX := Lib.hid (OX.out.kept k)
  clear hcc k p0 p1 q0 q1
  obtain ⟨p0, p1⟩ := OB.out.two
  obtain ⟨q0, q1⟩ := OX.out.two
  go_wp2_with fail
  refine (CRR.out A c _ _ (HR.out.grown (Nat.le_refl _) G.out) G.out.size).mono ?_
  rintro e w5 ⟨vd, rfl, hd, k⟩
  have s5 := k.size
  obtain ⟨Ad, cd, rfl, _, rd⟩ := hd.row okR.out
  have RD := Lib.hid rd
  have MC := Lib.hid (MC.out.kept k)
  have TB := Lib.hid (TB.out.kept k)
  have OBB := Lib.hid (OBB.out.kept k)
  have TA := Lib.hid (TA.out.kept k)
  have OA := Lib.hid (OA.out.kept k)
  have LX := Lib.hid (LX.out.grown (by omega) k)
  have G := Lib.hid (grown_trans G.out k)
  have OB := Lib.hid (OB.out.kept k)
  have OX := Lib.hid (OX.out.kept k)
  clear hd rd k p0 p1 q0 q1
  obtain ⟨a0, a1, a2⟩ := OA.out.three
  obtain ⟨b0, b1', b2⟩ := OBB.out.three
  go_wp2_with fail
  refine (SameArcs_same s o hh _ _ _ _ _ _ _ _ _ _ _ _ _ _ _ _ (TA.out.rowsAt okS.out okO.out okH.out) (TB.out.rowsAt okS.out okO.out okH.out) (Nat.le_refl _) (Nat.le_refl _) rfl rfl rfl).mono ?_
  rintro e w6 ⟨rfl, k⟩
  have s6 := k.size
  have RD := Lib.hid (RD.out.grown (Nat.le_refl _) k)
  have MC := Lib.hid (MC.out.kept k)
  have TB := Lib.hid (TB.out.kept k)
  have OBB := Lib.hid (OBB.out.kept k)
  have TA := Lib.hid (TA.out.kept k)
  have OA := Lib.hid (OA.out.kept k)
  have LX := Lib.hid (LX.out.grown (by omega) k)
  have G := Lib.hid (grown_trans G.out k)
  have OB := Lib.hid (OB.out.kept k)
  have OX := Lib.hid (OX.out.kept k)
  clear k a0 a1 a2 b0 b1' b2
  have ne1 := not_same (a := ze)
  have ne2 := not_same (a := re)
  go_wp2_with fail
  refine (Num0_any _ _).mono ?_
  rintro e w7 ⟨rfl, rfl⟩
  go_wp2_with fail
  refine (same_says (SameInts0_any Ac rr.length cc rr Ad rr.length cd rr _ (MC.out.rowAt okR.out) RD.out)).mono ?_
  rintro e w7 ⟨rfl, k⟩
  rw [sameB_refl]
  have s7 := k.size
  have MC := Lib.hid (MC.out.kept k)
  have TB := Lib.hid (TB.out.kept k)
  have OBB := Lib.hid (OBB.out.kept k)
  have TA := Lib.hid (TA.out.kept k)
  have OA := Lib.hid (OA.out.kept k)
  have LX := Lib.hid (LX.out.grown (by omega) k)
  have G := Lib.hid (grown_trans G.out k)
  have OB := Lib.hid (OB.out.kept k)
  have OX := Lib.hid (OX.out.kept k)
  clear k RD
  obtain ⟨a0, a1, a2⟩ := OA.out.three
  go_wp2_with fail
  refine (Num0_any _ _).mono ?_
  rintro e w8 ⟨rfl, rfl⟩
  go_wp2_with fail
  refine (SpoilInts_any _ s.length s _ TA.out.S).mono ?_
  rintro e w8 ⟨rfl, k⟩
  have s8 := k.size
  have bd : ∀ g, (Value.slice Ax s.length cx).ownBlock = some g → w1.heap.size + 1 ≤ g ∧ g < w2.heap.size := fun g e => hta g (.inl e)
  have MC := Lib.hid (MC.out.kept' k (fun g hg e => by have := bd _ e; have := hcge _ hg; omega))
  have TB := Lib.hid (TB.out.kept' k (fun g u e hu => by have := bd _ e; have := htb _ hu; omega))
  have OBB := Lib.hid (OBB.out.kept' k (fun e => by have := bd _ e; omega))
  have MO := Lib.hid (TA.out.O.kept' k (fun g hg e => TA.out.so g e hg))
  have MH := Lib.hid (TA.out.H.kept' k (fun g hg e => TA.out.sh g e hg))
  have OH := Lib.hid TA.out.oh
  have OA := Lib.hid (OA.out.kept' k (fun e => by have := bd _ e; omega))
  have LX := Lib.hid (LX.out.grown' (by omega) k (fun g e => by have := bd _ e; omega))
  have G := Lib.hid (grown_none G.out k (fun g e => by have := bd _ e; omega))
  have OB := Lib.hid (OB.out.kept' k (fun e => by have := bd _ e; omega))
  have OX := Lib.hid (OX.out.kept' k (fun e => by have := bd _ e; omega))
  clear k bd TA a0 a1 a2
  obtain ⟨a0, a1, a2⟩ := OA.out.three
  go_wp2_with fail
  refine (SpoilInts_any _ o.length o _ MO.out).mono ?_
  rintro e w9 ⟨rfl, k⟩
  have s9 := k.size
  have bd : ∀ g, (Value.slice Ay o.length cy).ownBlock = some g → w1.heap.size + 1 ≤ g ∧ g < w2.heap.size := fun g e => hta g (.inr (.inl e))
  have MC := Lib.hid (MC.out.kept' k (fun g hg e => by have := bd _ e; have := hcge _ hg; omega))
  have TB := Lib.hid (TB.out.kept' k (fun g u e hu => by have := bd _ e; have := htb _ hu; omega))
  have OBB := Lib.hid (OBB.out.kept' k (fun e => by have := bd _ e; omega))
  have MH := Lib.hid (MH.out.kept' k (fun g hg e => OH.out g e hg))
  have OA := Lib.hid (OA.out.kept' k (fun e => by have := bd _ e; omega))
  have LX := Lib.hid (LX.out.grown' (by omega) k (fun g e => by have := bd _ e; omega))
  have G := Lib.hid (grown_none G.out k (fun g e => by have := bd _ e; omega))
  have OB := Lib.hid (OB.out.kept' k (fun e => by have := bd _ e; omega))
  have OX := Lib.hid (OX.out.kept' k (fun e => by have := bd _ e; omega))
  clear k bd MO OH a0 a1 a2
  obtain ⟨a0, a1, a2⟩ := OA.out.three
  go_wp2_with fail
  refine (SpoilInts_any _ hh.length hh _ MH.out).mono ?_
  rintro e w10 ⟨rfl, k⟩
  have s10 := k.size
  have bd : ∀ g, (Value.slice Az hh.length cz).ownBlock = some g → w1.heap.size + 1 ≤ g ∧ g < w2.heap.size := fun g e => hta g (.inr (.inr e))
  have MC := Lib.hid (MC.out.kept' k (fun g hg e => by have := bd _ e; have := hcge _ hg; omega))
  have TB := Lib.hid (TB.out.kept' k (fun g u e hu => by have := bd _ e; have := htb _ hu; omega))
  have OBB := Lib.hid (OBB.out.kept' k (fun e => by have := bd _ e; omega))
  have LX := Lib.hid (LX.out.grown' (by omega) k (fun g e => by have := bd _ e; omega))
  have G := Lib.hid (grown_none G.out k (fun g e => by have := bd _ e; omega))
  have OB := Lib.hid (OB.out.kept' k (fun e => by have := bd _ e; omega))
  have OX := Lib.hid (OX.out.kept' k (fun e => by have := bd _ e; omega))
  clear k bd MH OA a0 a1 a2
  go_wp2_with fail
  refine (SpoilInts_any _ rr.length rr _ MC.out).mono ?_
  rintro e w11 ⟨rfl, k⟩
  have s11 := k.size
  have TB := Lib.hid (TB.out.kept' k (fun g u e hu => by have := hcge _ e; have := htb _ hu; omega))
  have OBB := Lib.hid (OBB.out.kept' k (fun e => by have := hcge _ e; omega))
  have LX := Lib.hid (LX.out.grown' (by omega) k (fun g e => by have := hcge _ e; omega))
  have G := Lib.hid (grown_none G.out k (fun g e => by have := hcge _ e; omega))
  have OB := Lib.hid (OB.out.kept' k (fun e => by have := hcge _ e; omega))
  have OX := Lib.hid (OX.out.kept' k (fun e => by have := hcge _ e; omega))
  clear k MC
  obtain ⟨q0, q1⟩ := OX.out.two
  go_wp2_with fail
  refine (CB.out A1 c1 _ _ LX.out (by omega)).mono ?_
  rintro e w12 ⟨x, y, z, rfl, ty, k⟩
  have s12 := k.size
  obtain ⟨Yx, Yy, Yz, ex, ey, ez, rfl, rfl, rfl, ry⟩ := ty.rows okS.out okO.out okH.out
  have k' := grown_trans k (grow0 w12 (.cells #[.slice Yx s.length ex, .slice Yy o.length ey, .slice Yz hh.length ez] 48))
  have RY := Lib.hid (ry.grown (Nat.le_refl _) (grow0 w12 (.cells #[.slice Yx s.length ex, .slice Yy o.length ey, .slice Yz hh.length ez] 48)))
  have OY := Lib.hid (Own.new w12 48 [.slice Yx s.length ex, .slice Yy o.length ey, .slice Yz hh.length ez])
  have TB := Lib.hid (TB.out.kept k')
  have OBB := Lib.hid (OBB.out.kept k')
  have LX := Lib.hid (LX.out.grown (by omega) k')
  have G := Lib.hid (grown_trans G.out k')
  have OB := Lib.hid (OB.out.kept k')
  have OX := Lib.hid (OX.out.kept k')
  clear ty ry k k' q0 q1
  go_wp2_with fail
  refine (awake5_any _).mono ?_
  rintro e w13 ⟨rfl, k⟩
  have s13 : w12.heap.size + 1 ≤ w13.heap.size := by have := k.size; simpa using this
  have RY := Lib.hid (RY.out.grown (by simp) k)
  have OY := Lib.hid (OY.out.kept k)
  have TB := Lib.hid (TB.out.kept k)
  have OBB := Lib.hid (OBB.out.kept k)
  have LX := Lib.hid (LX.out.grown (by simp; omega) k)
  have G := Lib.hid (grown_trans G.out k)
  have OB := Lib.hid (OB.out.kept k)
  have OX := Lib.hid (OX.out.kept k)
  clear k
  obtain ⟨a0, a1, a2⟩ := OY.out.three
  obtain ⟨b0, b1', b2⟩ := OBB.out.three
  go_wp2_with fail
  refine (SameArcs_same s o hh _ _ _ _ _ _ _ _ _ _ _ _ _ _ _ _ RY.out (TB.out.rowsAt okS.out okO.out okH.out) (by omega) (Nat.le_refl _) rfl rfl rfl).mono ?_
  rintro e w14 ⟨rfl, k⟩
  have LX := Lib.hid (LX.out.grown (by omega) k)
  have G := Lib.hid (grown_trans G.out k)
  have OB := Lib.hid (OB.out.kept k)
  have OX := Lib.hid (OX.out.kept k)
  clear k a0 a1 a2 b0 b1' b2 OY OBB RY TB
  obtain ⟨p0, p1⟩ := OB.out.two
  obtain ⟨q0, q1⟩ := OX.out.two
  go_wp2_with fail
  refine (SameGraph_same V A1 A n c1 c ls _ LX.out (HR.out.grown (Nat.le_refl _) G.out)).mono ?_
  rintro e w15 ⟨rfl, k⟩
  have G := Lib.hid (grown_trans G.out k)
  clear k
  go_wp2
  go_ret
  exact ⟨rfl, below_of G.out⟩

end Go.Proofs.Ytfldicenikkacaa
