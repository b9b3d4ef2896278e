/-
  New; Meets, Items of a tree. Delete. Insert.
-/
import Derived.Test.YtgfehlmiejnonaaTreeV
import Derived.Test.YtgfehlmiejnonaaJD
import Derived.Test.YtgfehlmiejnonaaJA
import Derived.Test.YtgfehlmiejnonaaJF

set_option maxRecDepth 20000
namespace Go.Proofs.Ytgfehlmiejnonaa
open Go.RowKit

theorem res_tree {fn : Func} {t : Tmp} (h : fn.results = #[.cell t 25]) (tmps : Array Value) (w : World) {g : Nat} {x y z : Value} (hp : tmps[t]?.getD undef = .pointer (some ⟨g, 0, none⟩))
   (c0 : w.cell? ⟨g, 0, none⟩ = some x) (c1 : w.cell? ⟨g, 1, none⟩ = some y) (c2 : w.cell? ⟨g, 2, none⟩ = some z) :
    (results fn tmps).run Try.prog w = .ok (.agg #[x, y, z]) w := by
  simp [results, h, hp, c0, c1, c2, go_sem]

theorem New_any (w : World) : Calls Try.prog 31 #[] w (NewPost w) := by
  go_enter Try.func31, Try.ntmps31
  go_wp2
  have o := Own.new w 25 [.slice none 0 0, .int .i64 (-1), .slice none 0 0]
  refine bodyPost_ret (res_tree rfl _ _ rfl o.three.1 o.three.2.1 o.three.2.2) rfl ⟨[], -1, [], .slice none 0 0, .slice none 0 0, by decide, rfl, MineE.nil _ _ _, Mine.nil _ _, grow0 _ _⟩

theorem tre_few {ns : List Nd} {r : Int} {free : List Int} {xs : List It} (h : allF ns r free = some xs) : ns.length ≤ 32 ∧ free.length ≤ 32 := by
  obtain ⟨T, t, _⟩ := of_all h
  have := t.few
  have := t.all
  omega

set_option maxHeartbeats 2000000 in
theorem TMeets_any (A : Option Addr) (n c : Nat) (ns : List Nd) (r : Int) (FA : Option Addr) (fn fc : Nat) (free : List Int) (a b : Int) (w : World) {B : Nat} (h : Tre w B A n ns FA fn free) (hB : B ≤ w.heap.size) : Calls Try.prog 12 #[.agg #[.slice A n c, .int .i64 r, .slice FA fn fc], .agg #[.int .i64 a, .int .i64 b]] w (RowRes w (meetsV (allF ns r free) a b) (spanZ (allF ns r free) a b)) := by
  have HB := Lib.hid (box2 (w := w) (T := 25) (U := 27) [.slice A n c, .int .i64 r, .slice FA fn fc] [.int .i64 a, .int .i64 b] (World.grownBy.refl _ none))
  have H := Lib.hid h
  have hlen := Lib.hid h.nodes.len
  obtain ⟨V, hV0⟩ : ∃ V, allF ns r free = V := ⟨_, rfl⟩
  have CMay : Hid (∀ wx, w.grownBy wx none → Calls Try.prog 14 #[.agg #[.slice A n c, .int .i64 r, .slice FA fn fc]] wx (Says wx (.bool V.isSome))) := fun wx g => by
    rw [← hV0]
    exact TMay_any A n c ns r FA fn fc free wx (h.grown hB g) (Nat.le_trans hB g.size)
  rw [hV0]
  have HV0 := Lib.hid hV0
  clear h hV0
  go_enter Try.func12, Try.ntmps12
  go_upto_region 1 with fail
  obtain ⟨G0, o1, o2⟩ := HB.out
  have G := Lib.hid G0
  have O1 := Lib.hid o1
  have O2 := Lib.hid o2
  have H1 := Lib.hid (H.out.grown hB G0)
  have hs1 := G0.size
  obtain ⟨c0, c1, c2⟩ := o1.three
  obtain ⟨e0, e1⟩ := o2.two
  clear HB G0 o1 o2
  generalize (w.alloc (.cells #[.slice A n c, .int .i64 r, .slice FA fn fc] 25)).alloc (.cells #[.int .i64 a, .int .i64 b] 27) = w1 at *
  go_wp2_with fail
  refine (CMay.out w1 G.out).mono ?_
  rintro e w2 ⟨rfl, g2⟩
  have G2 := Lib.hid (grown_trans G.out g2)
  have O1 := Lib.hid (O1.out.kept g2)
  have O2 := Lib.hid (O2.out.kept g2)
  have H2 := Lib.hid (H1.out.grown (by omega) g2)
  have hs2 := g2.size
  clear c0 c1 c2 e0 e1 g2 G H1
  obtain ⟨c0, c1, c2⟩ := O1.out.three
  obtain ⟨e0, e1⟩ := O2.out.two
  cases V with
  | none =>
    simp only [Option.isSome_none]
    go_wp2
    go_ret2
    exact ⟨_, rfl, MineE.nil _ _ _, G2.out⟩
  | some xs =>
    have few := tre_few HV0.out
    obtain ⟨T, hT, hxs⟩ := of_all HV0.out
    have TT := Lib.hid hT
    have XS := Lib.hid hxs
    clear hT hxs
    simp only [Option.isSome_some]
    go_wp2_with fail
    refine (May_any a b w2).mono ?_
    rintro e w3 ⟨rfl, g3⟩
    have G3 := Lib.hid (grown_trans G2.out g3)
    have O1 := Lib.hid (O1.out.kept g3)
    have O2 := Lib.hid (O2.out.kept g3)
    have H3 := Lib.hid (H2.out.grown (by omega) g3)
    have hs3 := g3.size
    clear c0 c1 c2 e0 e1 g3 G2 H2
    obtain ⟨c0, c1, c2⟩ := O1.out.three
    obtain ⟨e0, e1⟩ := O2.out.two
    cases hm : spanMay a b
    · have E : Hid (spanE2 (some xs) a b = false) := by rw [Hid, spanE2, hm]; rfl
      clear hm
      go_wp2
      go_ret2
      refine ⟨.slice none 0 0, ?_, ?_, G3.out⟩
      · rw [spanZ, E.out]
        rfl
      · rw [meetsV, E.out]
        exact MineE.nil _ _ _
    · have E : Hid (spanE2 (some xs) a b = true) := by rw [Hid, spanE2, hm]; rfl
      clear hm
      have CM := Lib.hid (TMeetsI_any ns A n c r FA fn fc (B := B) (base := w.heap.size) hB a b (by have := hlen.out; omega) hlen.out T TT.out.ok TT.out.row [] (.slice none 0 0) w3 H3.out.nodes (by omega) (MineE.nil _ _ _) (by
        have := TT.out.all
        simp only [List.length_nil]
        omega))
      rw [TT.out.top] at CM
      go_wp2_with fail
      refine CM.out.mono ?_
      rintro e w4 ⟨v, rfl, m, g4, _⟩
      have M4 := Lib.hid m
      have G4 : Hid (w.grownBy w4 none) := grown_trans G3.out g4
      clear c0 c1 c2 e0 e1 m g4
      go_wp2
      go_ret2
      refine ⟨v, ?_, ?_, G4.out⟩
      · rw [spanZ, E.out]
        rfl
      · rw [meetsV, E.out]
        have m := M4.out
        rw [XS.out, List.nil_append] at m
        exact m

theorem Items_any (A : Option Addr) (n c : Nat) (ns : List Nd) (r : Int) (FA : Option Addr) (fn fc : Nat) (free : List Int) (w : World) {B : Nat} (h : Tre w B A n ns FA fn free) (hB : B ≤ w.heap.size) : Calls Try.prog 11 #[.agg #[.slice A n c, .int .i64 r, .slice FA fn fc]] w (RowRes w ((allF ns r free).getD []) (formE (allF ns r free))) := by
  have e1 : meetsV (allF ns r free) 0 4096 = (allF ns r free).getD [] ∧ spanZ (allF ns r free) 0 4096 = formE (allF ns r free) := by
    cases hV : allF ns r free with
    | none => exact ⟨rfl, rfl⟩
    | some xs =>
      obtain ⟨T, hT, hxs⟩ := of_all hV
      have hs : spanE2 (some xs) 0 4096 = true := by
        have : spanMay 0 4096 = true := by decide
        simp [spanE2, this]
      refine ⟨?_, ?_⟩
      · rw [meetsV, hs]
        exact meets_whole (fun x hx => by rw [← hxs] at hx; exact Tr.sum_it hT.ok x hx)
      · rw [spanZ, hs]
        rfl
  have E := Lib.hid e1
  have HB := Lib.hid (box1 (w := w) (T := 25) [.slice A n c, .int .i64 r, .slice FA fn fc] (World.grownBy.refl _ none))
  have H := Lib.hid h
  clear h e1
  go_enter Try.func11, Try.ntmps11
  go_upto_region 1 with fail
  obtain ⟨G0, o1⟩ := HB.out
  have G := Lib.hid G0
  have H1 := Lib.hid (H.out.grown hB G0)
  have hs1 := G0.size
  obtain ⟨c0, c1, c2⟩ := o1.three
  clear HB G0 o1
  generalize w.alloc (.cells #[.slice A n c, .int .i64 r, .slice FA fn fc] 25) = w1 at *
  go_wp2_with fail
  refine (TMeets_any A n c ns r FA fn fc free 0 4096 w1 H1.out (by omega)).mono ?_
  rintro e w2 ⟨v, rfl, m, g2⟩
  rw [E.out.1] at m
  have M := Lib.hid m
  have G2 := Lib.hid (grown_trans G.out g2)
  clear c0 c1 c2 m g2
  go_wp2
  go_ret2
  exact ⟨v, by rw [← E.out.2]; rfl, M.out.wide hs1, G2.out⟩

end Go.Proofs.Ytgfehlmiejnonaa

set_option maxRecDepth 20000
namespace Go.Proofs.Ytgfehlmiejnonaa
open Go.RowKit

theorem res_tree2 {fn : Func} {t u : Tmp} (h : fn.results = #[.cell t 25, .tmp u]) (tmps : Array Value) (w : World) {g : Nat} {x y z : Value} (hp : tmps[t]?.getD undef = .pointer (some ⟨g, 0, none⟩))
   (o : Own w g 25 [x, y, z]) :
    (results fn tmps).run Try.prog w = .ok (.tuple #[.agg #[x, y, z], tmps[u]?.getD undef]) w := by
  obtain ⟨c0, c1, c2⟩ := o.three
  simp [results, h, hp, c0, c1, c2, go_sem]

theorem post_tree2 {fn : Func} {t u : Tmp} {R : Ending → World → Prop} {a : Act} {w : World} (h : fn.results = #[.cell t 25, .tmp u]) {g : Nat} {x y z : Value} (hp : a.tmps[t]?.getD undef = .pointer (some ⟨g, 0, none⟩))
   (o : Own w g 25 [x, y, z]) (hd : a.defers = []) (hR : R (.returned (.tuple #[.agg #[x, y, z], a.tmps[u]?.getD undef])) w) : bodyPost Try.prog fn R .ret a w :=
  bodyPost_ret (res_tree2 h a.tmps w hp o) hd hR

theorem Own.put3 {w : World} {g : Nat} {T : TypeId} {x y z : Value} (h : Own w g T [x, y, z]) (a b c : Value) :
    Own (((w.setCell ⟨g, 0, none⟩ a).setCell ⟨g, 1, none⟩ b).setCell ⟨g, 2, none⟩ c) g T [a, b, c] :=
  ((h.put (i := 0) a).put (i := 1) b).put (i := 2) c

/-- A tree with Nodes, in memory of its own, as a shape. -/
theorem Cpd.shf {w : World} {base q : Nat} {nv : Value} {n : Nat} {ns : List Nd} {r : Int} {fv : Value} {fn : Nat} {free : List Int} (h : Cpd w base q nv n ns r fv fn free) (hn : 0 < n) :
    ∃ g c FA fc, base ≤ g ∧ Shf w base q g n c ns r FA fn fc free := by
  obtain ⟨g, c, rfl, _, hg, _⟩ := h.mn.shape hn
  obtain ⟨FA, fc, rfl, _⟩ := h.mf.sl
  exact ⟨g, c, FA, fc, hg, ⟨h.oq, h.mn, fun e => h.n1 g rfl e.symm⟩, h.mf, fun k hk => ⟨(h.n2 k hk).1, fun e => (h.n2 k hk).2 (by rw [e]; rfl)⟩⟩

/-- A tree told, in memory that the call made. -/
theorem told {w0 w : World} {base q g n c : Nat} {ns : List Nd} {r : Int} {FA : Option Addr} {fn fc : Nat} {free : List Int} {P : List Nd → Int → List Int → Int → Prop} {z : Int} (h : Shf w base q g n c ns r FA fn fc free) (hb : w0.heap.size ≤ base) (hg : w0.grownBy w none) (hP : P ns r free z) :
    TreeRes w0 P (.returned (.tuple #[.agg #[.slice (some ⟨g, 0, none⟩) n c, .int .i64 r, .slice FA fn fc], .int .i64 z])) w := by
  have h1 := h.sh.mn.length
  have h2 := h.mf.len
  exact ⟨ns, r, free, z, _, _, hP, rfl, by rw [h1]; exact h.sh.mn.wide hb, by rw [h2]; exact h.mf.wide hb, hg⟩

/-- The number of a shape's root written over. -/
theorem Shf.root {w : World} {base q g n c : Nat} {ns : List Nd} {r : Int} {FA : Option Addr} {fn fc : Nat} {free : List Int} (h : Shf w base q g n c ns r FA fn fc free) (r' : Int) : Shf (w.setCell ⟨q, 1, none⟩ (.int .i64 r')) base q g n c ns r' FA fn fc free := by
  have gq : w.grownBy (w.setCell ⟨q, 1, none⟩ (.int .i64 r')) (some q) := grown_set (World.grownBy.refl w _) _
  exact ⟨⟨h.sh.oq.put (i := 1) _, h.sh.mn.kept' gq (fun j hj e => by
    injection e with e
    have hj : g = j := by simpa [Value.ownBlock] using hj
    exact h.sh.ne (e.trans hj.symm)), h.sh.ne⟩, h.mf.kept' gq (fun j hj e => by injection e with e; exact (h.apart j hj).1 e.symm), h.apart⟩

/-- A box that is none of a shape's written over. -/
theorem Shf.box {w : World} {base q g n c : Nat} {ns : List Nd} {r : Int} {FA : Option Addr} {fn fc : Nat} {free : List Int} (h : Shf w base q g n c ns r FA fn fc free) {b : Nat} (hq : b < base) (hqb : base ≤ q) (x y z : Value) :
    Shf (((w.setCell ⟨b, 0, none⟩ x).setCell ⟨b, 1, none⟩ y).setCell ⟨b, 2, none⟩ z) base q g n c ns r FA fn fc free := by
  have gq : w.grownBy (((w.setCell ⟨b, 0, none⟩ x).setCell ⟨b, 1, none⟩ y).setCell ⟨b, 2, none⟩ z) (some b) := set3_grown x y z
  exact ⟨⟨h.sh.oq.kept' gq (fun e => by injection e with e; omega), h.sh.mn.kept' gq (fun j hj e => by
    injection e with e
    have := h.sh.mn.own_ge j hj
    omega), h.sh.ne⟩, h.mf.kept' gq (fun j hj e => by injection e with e; have := h.mf.own_ge j hj; omega), h.apart⟩

set_option maxHeartbeats 4000000 in
theorem Delete_any (A : Option Addr) (n c : Nat) (ns : List Nd) (r : Int) (FA : Option Addr) (fn fc : Nat) (free : List Int) (x0 x1 x2 : Int) (w : World) {B : Nat} (h : Tre w B A n ns FA fn free) (hB : B ≤ w.heap.size) : Calls Try.prog 28 #[.agg #[.slice A n c, .int .i64 r, .slice FA fn fc], .agg #[.int .i64 x0, .int .i64 x1, .int .i64 x2]] w (TreeRes w (DelIs (allF ns r free) (x0, x1, x2))) := by
  have HB := Lib.hid (box2 (w := w) (T := 25) (U := 50) [.slice A n c, .int .i64 r, .slice FA fn fc] [.int .i64 x0, .int .i64 x1, .int .i64 x2] (World.grownBy.refl _ none))
  obtain ⟨V, hV0⟩ : ∃ V, allF ns r free = V := ⟨_, rfl⟩
  have CMay : Hid (∀ wx, w.grownBy wx none → Calls Try.prog 14 #[.agg #[.slice A n c, .int .i64 r, .slice FA fn fc]] wx (Says wx (.bool V.isSome))) := fun wx g => by
    rw [← hV0]
    exact TMay_any A n c ns r FA fn fc free wx (h.grown hB g) (Nat.le_trans hB g.size)
  rw [hV0]
  have HV0 := Lib.hid hV0
  have H := Lib.hid h
  have hlen := Lib.hid h.nodes.len
  have hfl := Lib.hid h.free.len
  clear h hV0
  go_enter Try.func28, Try.ntmps28
  go_upto_region 1 with fail
  have G : Hid (w.grownBy (((w.alloc (.cells #[.slice A n c, .int .i64 r, .slice FA fn fc] 25)).alloc (.cells #[.int .i64 x0, .int .i64 x1, .int .i64 x2] 50)).alloc (.cells #[.slice none 0 0, .int .i64 0, .slice none 0 0] 25)) none) := grown_trans HB.out.1 (grow0 _ _)
  have O1 := Lib.hid (HB.out.2.1.alloc (.cells #[.slice none 0 0, .int .i64 0, .slice none 0 0] 25))
  have O2 := Lib.hid (HB.out.2.2.alloc (.cells #[.slice none 0 0, .int .i64 0, .slice none 0 0] 25))
  have O3 : Hid (Own (((w.alloc (.cells #[.slice A n c, .int .i64 r, .slice FA fn fc] 25)).alloc (.cells #[.int .i64 x0, .int .i64 x1, .int .i64 x2] 50)).alloc (.cells #[.slice none 0 0, .int .i64 0, .slice none 0 0] 25)) (w.heap.size + 1 + 1) 25 [.slice none 0 0, .int .i64 0, .slice none 0 0]) := by
    have h := Own.new ((w.alloc (.cells #[.slice A n c, .int .i64 r, .slice FA fn fc] 25)).alloc (.cells #[.int .i64 x0, .int .i64 x1, .int .i64 x2] 50)) 25 [.slice none 0 0, .int .i64 0, .slice none 0 0]
    have e : ((w.alloc (.cells #[.slice A n c, .int .i64 r, .slice FA fn fc] 25)).alloc (.cells #[.int .i64 x0, .int .i64 x1, .int .i64 x2] 50)).heap.size = w.heap.size + 1 + 1 := by simp
    rw [e] at h
    exact h
  clear HB
  generalize ((w.alloc (.cells #[.slice A n c, .int .i64 r, .slice FA fn fc] 25)).alloc (.cells #[.int .i64 x0, .int .i64 x1, .int .i64 x2] 50)).alloc (.cells #[.slice none 0 0, .int .i64 0, .slice none 0 0] 25) = w1 at *
  have hs1 := O3.out.lt
  obtain ⟨c0, c1, c2⟩ := O1.out.three
  go_wp2_with fail
  refine (CMay.out w1 G.out).mono ?_
  rintro e w2 ⟨rfl, g2⟩
  have G2 := Lib.hid (grown_trans G.out g2)
  have O1 := Lib.hid (O1.out.kept g2)
  have O2 := Lib.hid (O2.out.kept g2)
  have O3 := Lib.hid (O3.out.kept g2)
  have hs2 := g2.size
  clear c0 c1 c2 g2 G
  obtain ⟨c0, c1, c2⟩ := O1.out.three
  obtain ⟨b0, b1, b2⟩ := O2.out.three
  cases V with
  | none =>
    simp only [Option.isSome_none]
    obtain ⟨r0, r1, r2⟩ := O3.out.three
    have f0 := O3.out.frozen 0
    have f1 := O3.out.frozen 1
    have f2 := O3.out.frozen 2
    go_wp2
    have O9 := Own.put3 O3.out (.slice none 0 0) (.int .i64 0) (.slice none 0 0)
    refine post_tree2 rfl rfl O9 rfl ?_
    exact ⟨[], 0, [], 1700, .slice none 0 0, .slice none 0 0, ⟨rfl, fun _ => ⟨rfl, rfl, rfl⟩, fun h => absurd h (by decide)⟩, rfl, MineE.nil _ _ _, Mine.nil _ _, grown_none G2.out (set3_grown _ _ _) (fun g hg => by injection hg with hg; omega)⟩
  | some xs =>
    have few := tre_few HV0.out
    obtain ⟨T, hT, hxs⟩ := of_all HV0.out
    have TT := Lib.hid hT
    have XS := Lib.hid hxs
    clear hT hxs
    have CH : Hid (∀ wx, w.grownBy wx none → Calls Try.prog 47 #[.agg #[.slice A n c, .int .i64 r, .slice FA fn fc], .agg #[.int .i64 x0, .int .i64 x1, .int .i64 x2]] wx (Says wx (.bool (decide ((x0, x1, x2) ∈ xs))))) := fun wx g => by
      rw [← XS.out]
      exact THas_any A n c ns r FA fn fc x0 x1 x2 T wx (H.out.nodes.grown hB g) (Nat.le_trans hB g.size) TT.out.ok TT.out.top TT.out.row
    simp only [Option.isSome_some]
    go_wp2_with fail
    refine (CH.out w2 G2.out).mono ?_
    rintro e w3 ⟨rfl, g3⟩
    have G3 := Lib.hid (grown_trans G2.out g3)
    have O1 := Lib.hid (O1.out.kept g3)
    have O2 := Lib.hid (O2.out.kept g3)
    have O3 := Lib.hid (O3.out.kept g3)
    have hs3 := g3.size
    clear c0 c1 c2 b0 b1 b2 g3 G2
    obtain ⟨c0, c1, c2⟩ := O1.out.three
    obtain ⟨b0, b1, b2⟩ := O2.out.three
    by_cases hx : (x0, x1, x2) ∈ xs
    case neg =>
      rw [decide_eq_false hx]
      have HX := Lib.hid hx
      clear hx
      obtain ⟨r0, r1, r2⟩ := O3.out.three
      have f0 := O3.out.frozen 0
      have f1 := O3.out.frozen 1
      have f2 := O3.out.frozen 2
      go_wp2
      have O9 := Own.put3 O3.out (.slice none 0 0) (.int .i64 0) (.slice none 0 0)
      refine post_tree2 rfl rfl O9 rfl ?_
      exact ⟨[], 0, [], 1702, .slice none 0 0, .slice none 0 0, ⟨by rw [delE, if_neg HX.out], fun _ => ⟨rfl, rfl, rfl⟩, fun h => absurd h (by decide)⟩, rfl, MineE.nil _ _ _, Mine.nil _ _, grown_none G3.out (set3_grown _ _ _) (fun g hg => by injection hg with hg; omega)⟩
    case pos =>
      rw [decide_eq_true hx]
      have HX := Lib.hid hx
      have DP := Lib.hid (drop_pre TT.out (x := (x0, x1, x2)) (by rw [XS.out]; exact hx))
      clear hx
      have hn0 : 0 < n := by
        have h1 := DP.out.there
        have h2 := TT.out.all
        have h3 := Tr.sum_len ns T
        have h4 := hlen.out
        have h5 := List.length_pos_of_mem h1
        omega
      have CC := Lib.hid (Copied_any A n c ns r FA fn fc free w3 (H.out.grown hB G3.out) (Nat.le_trans hB G3.out.size) (by have := hlen.out; omega) (by have := hfl.out; omega))
      go_wp2_with fail
      refine CC.out.mono ?_
      rintro e w4 ⟨q, nv, fv, rfl, cp, g4⟩
      obtain ⟨g, cg, FB, fb, hbg, sf⟩ := cp.shf hn0
      have hq := cp.hq
      have S4 := Lib.hid sf
      have G4 := Lib.hid (grown_trans G3.out g4)
      have O1 := Lib.hid (O1.out.kept g4)
      have O2 := Lib.hid (O2.out.kept g4)
      have O3 := Lib.hid (O3.out.kept g4)
      have hs4 := g4.size
      clear c0 c1 c2 b0 b1 b2 g4 G3 CC sf cp
      generalize hb3 : w3.heap.size = base at *
      obtain ⟨b0, b1, b2⟩ := O2.out.three
      obtain ⟨_, q1, _⟩ := S4.out.sh.oq.three
      have CI : Hid (∀ wx, w4.grownBy wx none → Calls Try.prog 52 #[.pointer (some ⟨q, 0, none⟩), .int .i64 r, .agg #[.int .i64 x0, .int .i64 x1, .int .i64 x2]] wx (DropPost wx base q g n cg ns r FB fn free (x0, x1, x2) T)) := fun wx gx => by
        have h := Drop_any base q g n cg r T (x0, x1, x2) ns FB fn fb free wx (S4.out.grown gx) DP.out (Nat.le_trans hs4 gx.size) (by have := hfl.out; omega)
        rw [TT.out.top] at h
        exact h
      go_upto_region 6 with fail
      go_region_law (first
        | (go_simp; go_at_call 52; refine (CI.out _ (by first | exact World.grownBy.refl _ _ | exact grown_drew (World.grownBy.refl _ _) | exact grown_drewN (World.grownBy.refl _ _) _)).mono ?_; rintro e w5 ⟨n1, L1, f, FC, fd, rfl, hi, s5, k5⟩; have K5 : Hid (Kpt w4 w5 (onS q g FB)) := (by first | exact k5 | exact k5.undrew); have S5 := Lib.hid s5; have HI := Lib.hid hi; have f1 := s5.sh.oq.frozen 1; obtain ⟨_, q1, _⟩ := s5.sh.oq.three; clear s5 k5 hi))
      all_goals
        clear q1 f1 b0 b1 b2
        have hge := S4.out.mf.own_ge
        have hoff : ∀ i, onS q g FB i → base ≤ i := by
          rintro i (rfl | rfl | e)
          · exact hq
          · exact hbg
          · exact hge i (by rw [own_sl]; exact e)
        have KS : Kpt w4 (w5.setCell ⟨q, 1, none⟩ (.int .i64 L1.top)) (onS q g FB) := K5.out.set (.inl rfl) _
        have G6 : Hid (w.grownBy (w5.setCell ⟨q, 1, none⟩ (.int .i64 L1.top)) none) := Kpt.grown G4.out KS (fun i hi => by have := hoff i hi; omega)
        have O6 : Hid (Own (w5.setCell ⟨q, 1, none⟩ (.int .i64 L1.top)) (w.heap.size + 1 + 1) 25 [.slice none 0 0, .int .i64 0, .slice none 0 0]) := Kpt.own O3.out KS (fun e => by have := hoff _ e; omega)
        have S6 : Hid (Shf (w5.setCell ⟨q, 1, none⟩ (.int .i64 L1.top)) base q g n cg n1 L1.top FC (fn + 1) fd (free ++ [(f : Int)])) := S5.out.root _
        have HD := Lib.hid (delete_ok TT.out HI.out)
        rw [XS.out] at HD
        clear K5 S5 KS HI hge O1 O2 O3
        generalize w5.setCell ⟨q, 1, none⟩ (.int .i64 L1.top) = w6 at *
        obtain ⟨q0, q1, q2⟩ := S6.out.sh.oq.three
        obtain ⟨r0, r1, r2⟩ := O6.out.three
        have f0 := O6.out.frozen 0
        have f1 := O6.out.frozen 1
        have f2 := O6.out.frozen 2
        go_wp2
        have O9 := Own.put3 O6.out (.slice (some ⟨g, 0, none⟩) n cg) (.int .i64 L1.top) (.slice FC (fn + 1) fd)
        refine post_tree2 rfl rfl O9 rfl ?_
        exact told (S6.out.box (by omega) hq _ _ _) (by omega) (grown_none G6.out (set3_grown _ _ _) (fun g hg => by injection hg with hg; omega)) ⟨by rw [delE, if_pos HX.out], fun h => absurd rfl h, fun _ => ⟨xs, rfl, HD.out⟩⟩

end Go.Proofs.Ytgfehlmiejnonaa

set_option maxRecDepth 20000
namespace Go.Proofs.Ytgfehlmiejnonaa
open Go.RowKit

set_option maxHeartbeats 4000000 in
theorem Insert_any (A : Option Addr) (n c : Nat) (ns : List Nd) (r : Int) (FA : Option Addr) (fn fc : Nat) (free : List Int) (x0 x1 x2 : Int) (w : World) {B : Nat} (h : Tre w B A n ns FA fn free) (hB : B ≤ w.heap.size) : Calls Try.prog 24 #[.agg #[.slice A n c, .int .i64 r, .slice FA fn fc], .agg #[.int .i64 x0, .int .i64 x1, .int .i64 x2]] w (TreeRes w (InsIs (allF ns r free) (x0, x1, x2))) := by
  have HB := Lib.hid (box2 (w := w) (T := 25) (U := 50) [.slice A n c, .int .i64 r, .slice FA fn fc] [.int .i64 x0, .int .i64 x1, .int .i64 x2] (World.grownBy.refl _ none))
  obtain ⟨V, hV0⟩ : ∃ V, allF ns r free = V := ⟨_, rfl⟩
  have CMay : Hid (∀ wx, w.grownBy wx none → Calls Try.prog 14 #[.agg #[.slice A n c, .int .i64 r, .slice FA fn fc]] wx (Says wx (.bool V.isSome))) := fun wx g => by
    rw [← hV0]
    exact TMay_any A n c ns r FA fn fc free wx (h.grown hB g) (Nat.le_trans hB g.size)
  rw [hV0]
  have HV0 := Lib.hid hV0
  have H := Lib.hid h
  have hlen := Lib.hid h.nodes.len
  have hfl := Lib.hid h.free.len
  clear h hV0
  go_enter Try.func24, Try.ntmps24
  go_upto_region 1 with fail
  have G : Hid (w.grownBy (((w.alloc (.cells #[.slice A n c, .int .i64 r, .slice FA fn fc] 25)).alloc (.cells #[.int .i64 x0, .int .i64 x1, .int .i64 x2] 50)).alloc (.cells #[.slice none 0 0, .int .i64 0, .slice none 0 0] 25)) none) := grown_trans HB.out.1 (grow0 _ _)
  have O1 := Lib.hid (HB.out.2.1.alloc (.cells #[.slice none 0 0, .int .i64 0, .slice none 0 0] 25))
  have O2 := Lib.hid (HB.out.2.2.alloc (.cells #[.slice none 0 0, .int .i64 0, .slice none 0 0] 25))
  have O3 : Hid (Own (((w.alloc (.cells #[.slice A n c, .int .i64 r, .slice FA fn fc] 25)).alloc (.cells #[.int .i64 x0, .int .i64 x1, .int .i64 x2] 50)).alloc (.cells #[.slice none 0 0, .int .i64 0, .slice none 0 0] 25)) (w.heap.size + 1 + 1) 25 [.slice none 0 0, .int .i64 0, .slice none 0 0]) := by
    have h := Own.new ((w.alloc (.cells #[.slice A n c, .int .i64 r, .slice FA fn fc] 25)).alloc (.cells #[.int .i64 x0, .int .i64 x1, .int .i64 x2] 50)) 25 [.slice none 0 0, .int .i64 0, .slice none 0 0]
    have e : ((w.alloc (.cells #[.slice A n c, .int .i64 r, .slice FA fn fc] 25)).alloc (.cells #[.int .i64 x0, .int .i64 x1, .int .i64 x2] 50)).heap.size = w.heap.size + 1 + 1 := by simp
    rw [e] at h
    exact h
  clear HB
  generalize ((w.alloc (.cells #[.slice A n c, .int .i64 r, .slice FA fn fc] 25)).alloc (.cells #[.int .i64 x0, .int .i64 x1, .int .i64 x2] 50)).alloc (.cells #[.slice none 0 0, .int .i64 0, .slice none 0 0] 25) = w1 at *
  have hs1 := O3.out.lt
  obtain ⟨c0, c1, c2⟩ := O1.out.three
  go_wp2_with fail
  refine (CMay.out w1 G.out).mono ?_
  rintro e w2 ⟨rfl, g2⟩
  have G2 := Lib.hid (grown_trans G.out g2)
  have O1 := Lib.hid (O1.out.kept g2)
  have O2 := Lib.hid (O2.out.kept g2)
  have O3 := Lib.hid (O3.out.kept g2)
  have hs2 := g2.size
  clear c0 c1 c2 g2 G
  obtain ⟨c0, c1, c2⟩ := O1.out.three
  obtain ⟨b0, b1, b2⟩ := O2.out.three
  cases V with
  | none =>
    simp only [Option.isSome_none]
    obtain ⟨r0, r1, r2⟩ := O3.out.three
    have f0 := O3.out.frozen 0
    have f1 := O3.out.frozen 1
    have f2 := O3.out.frozen 2
    go_wp2
    have O9 := Own.put3 O3.out (.slice none 0 0) (.int .i64 0) (.slice none 0 0)
    refine post_tree2 rfl rfl O9 rfl ?_
    exact ⟨[], 0, [], 1700, .slice none 0 0, .slice none 0 0, ⟨rfl, fun _ => ⟨rfl, rfl, rfl⟩, fun h => absurd h (by decide)⟩, rfl, MineE.nil _ _ _, Mine.nil _ _, grown_none G2.out (set3_grown _ _ _) (fun g hg => by injection hg with hg; omega)⟩
  | some xs =>
    have few := tre_few HV0.out
    obtain ⟨T, hT, hxs⟩ := of_all HV0.out
    have TT := Lib.hid hT
    have XS := Lib.hid hxs
    clear hT hxs
    have CH : Hid (∀ wx, w.grownBy wx none → Calls Try.prog 47 #[.agg #[.slice A n c, .int .i64 r, .slice FA fn fc], .agg #[.int .i64 x0, .int .i64 x1, .int .i64 x2]] wx (Says wx (.bool (decide ((x0, x1, x2) ∈ xs))))) := fun wx g => by
      rw [← XS.out]
      exact THas_any A n c ns r FA fn fc x0 x1 x2 T wx (H.out.nodes.grown hB g) (Nat.le_trans hB g.size) TT.out.ok TT.out.top TT.out.row
    simp only [Option.isSome_some]
    go_wp2_with fail
    refine (Fits_any x0 x1 x2 w2).mono ?_
    rintro e w2b ⟨rfl, g2b⟩
    have G2b := Lib.hid (grown_trans G2.out g2b)
    have O1 := Lib.hid (O1.out.kept g2b)
    have O2 := Lib.hid (O2.out.kept g2b)
    have O3 := Lib.hid (O3.out.kept g2b)
    have hs2b := g2b.size
    clear c0 c1 c2 b0 b1 b2 g2b G2
    obtain ⟨c0, c1, c2⟩ := O1.out.three
    obtain ⟨b0, b1, b2⟩ := O2.out.three
    cases hit : itB (x0, x1, x2)
    case false =>
      have HIT := Lib.hid hit
      clear hit
      obtain ⟨r0, r1, r2⟩ := O3.out.three
      have f0 := O3.out.frozen 0
      have f1 := O3.out.frozen 1
      have f2 := O3.out.frozen 2
      go_wp2
      have O9 := Own.put3 O3.out (.slice none 0 0) (.int .i64 0) (.slice none 0 0)
      refine post_tree2 rfl rfl O9 rfl ?_
      exact ⟨[], 0, [], 1700, .slice none 0 0, .slice none 0 0, ⟨by rw [insE, if_pos HIT.out], fun _ => ⟨rfl, rfl, rfl⟩, fun h => absurd h (by decide)⟩, rfl, MineE.nil _ _ _, Mine.nil _ _, grown_none G2b.out (set3_grown _ _ _) (fun g hg => by injection hg with hg; omega)⟩
    case true =>
      have HIT := Lib.hid hit
      clear hit
      go_wp2_with fail
      refine (CH.out w2b G2b.out).mono ?_
      rintro e w3 ⟨rfl, g3⟩
      have G3 := Lib.hid (grown_trans G2b.out g3)
      have O1 := Lib.hid (O1.out.kept g3)
      have O2 := Lib.hid (O2.out.kept g3)
      have O3 := Lib.hid (O3.out.kept g3)
      have hs3 := g3.size
      clear c0 c1 c2 b0 b1 b2 g3 G2b
      obtain ⟨c0, c1, c2⟩ := O1.out.three
      obtain ⟨b0, b1, b2⟩ := O2.out.three
      by_cases hx : (x0, x1, x2) ∈ xs
      case pos =>
        rw [decide_eq_true hx]
        have HX := Lib.hid hx
        clear hx
        obtain ⟨r0, r1, r2⟩ := O3.out.three
        have f0 := O3.out.frozen 0
        have f1 := O3.out.frozen 1
        have f2 := O3.out.frozen 2
        go_wp2
        have O9 := Own.put3 O3.out (.slice none 0 0) (.int .i64 0) (.slice none 0 0)
        refine post_tree2 rfl rfl O9 rfl ?_
        exact ⟨[], 0, [], 1701, .slice none 0 0, .slice none 0 0, ⟨by rw [insE, if_neg (by rw [HIT.out]; decide), if_pos HX.out], fun _ => ⟨rfl, rfl, rfl⟩, fun h => absurd h (by decide)⟩, rfl, MineE.nil _ _ _, Mine.nil _ _, grown_none G3.out (set3_grown _ _ _) (fun g hg => by injection hg with hg; omega)⟩
      case neg =>
        rw [decide_eq_false hx]
        have HX := Lib.hid hx
        clear hx
        have FULL := Lib.hid (full_is TT.out)
        rw [XS.out, hlen.out, hfl.out] at FULL
        by_cases hfull : n = 32 ∧ fn = 0
        · have HF32 := Lib.hid (FULL.out.2 hfull)
          obtain ⟨rfl, rfl⟩ := hfull
          obtain ⟨r0, r1, r2⟩ := O3.out.three
          have f0 := O3.out.frozen 0
          have f1 := O3.out.frozen 1
          have f2 := O3.out.frozen 2
          go_wp2
          have O9 := Own.put3 O3.out (.slice none 0 0) (.int .i64 0) (.slice none 0 0)
          refine post_tree2 rfl rfl O9 rfl ?_
          exact ⟨[], 0, [], 1703, .slice none 0 0, .slice none 0 0, ⟨by rw [insE, if_neg (by rw [HIT.out]; decide), if_neg HX.out, if_pos HF32.out], fun _ => ⟨rfl, rfl, rfl⟩, fun h => absurd h (by decide)⟩, rfl, MineE.nil _ _ _, Mine.nil _ _, grown_none G3.out (set3_grown _ _ _) (fun g hg => by injection hg with hg; omega)⟩
        · have CC := Lib.hid (Copied_any A n c ns r FA fn fc free w3 (H.out.grown hB G3.out) (Nat.le_trans hB G3.out.size) (by have := hlen.out; omega) (by have := hfl.out; omega))
          have ROOM : Hid (¬ (ns.length = 32 ∧ free.length = 0)) := by rw [Hid, hlen.out, hfl.out]; exact hfull
          have hsplit : ((n : Int) == 32) = false ∨ (((n : Int) == 32) = true ∧ ((fn : Int) == 0) = false) := by
            by_cases h1 : n = 32
            · refine .inr ⟨by simp [h1], ?_⟩
              simp only [beq_eq_false_iff_ne]
              omega
            · refine .inl ?_
              simp only [beq_eq_false_iff_ne]
              omega
          rcases hsplit with t1 | ⟨t1, t2⟩
          all_goals
            go_wp2_with fail
            refine CC.out.mono ?_
            rintro e w4 ⟨q, nv, fv, rfl, cp, g4⟩
            have hq := cp.hq
            have C4 := Lib.hid cp
            have G4 := Lib.hid (grown_trans G3.out g4)
            have O1 := Lib.hid (O1.out.kept g4)
            have O2 := Lib.hid (O2.out.kept g4)
            have O3 := Lib.hid (O3.out.kept g4)
            have hs4 := g4.size
            clear c0 c1 c2 b0 b1 b2 g4 G3 CC cp
            generalize hb3 : w3.heap.size = base at *
            obtain ⟨b0, b1, b2⟩ := O2.out.three
            obtain ⟨_, q1, _⟩ := C4.out.oq.three
            have CP : Hid (∀ wx, w4.grownBy wx none → Calls Try.prog 50 #[.pointer (some ⟨q, 0, none⟩), .agg #[.int .i64 x0, .int .i64 x1, .int .i64 x2]] wx (PlacePost wx base q ns r free (x0, x1, x2))) := fun wx gx =>
              Place_any base q nv n ns r fv fn free x0 x1 x2 wx (C4.out.grown gx) (by have := hlen.out; omega) (by have := hfl.out; omega) (fun k hk => by have := TT.out.spare k hk; have := hlen.out; omega) (Nat.le_trans hs4 gx.size)
            have CG : Hid (∀ (a1 : Nat) (n1 : List Nd) (g m cg : Nat) (FB : Option Addr) (fb fd : Nat) (f1 : List Int) (wx : World), Shp wx base q g m cg n1 r FB fb fd → Placed ns free (x0, x1, x2) a1 n1 f1 → Calls Try.prog 49 #[.pointer (some ⟨q, 0, none⟩), .int .i64 r, .int .i64 (a1 : Nat)] wx (HangPost wx base q g m cg n1 r FB fb fd a1 (x0, x1, x2) T)) := fun a1 n1 g m cg FB fb fd f1 wx s p => by
              have h := Hang_any base q g m cg r FB fb fd a1 (x0, x1, x2) T n1 wx s (laid_pre TT.out HIT.out (by rw [XS.out]; exact HX.out) ROOM.out p).1
              rw [TT.out.top] at h
              exact h
            go_upto_region 8 with fail
            go_region_law (first
              | (go_simp; go_at_call 50; refine (CP.out _ (by first | exact World.grownBy.refl _ _ | exact grown_drew (World.grownBy.refl _ _) | exact grown_drewN (World.grownBy.refl _ _) _)).mono ?_; rintro e w5 ⟨a1, n1, g, m, cg, FB, fb, fd, f1, rfl, s5, p5, k5⟩; have K5 : Hid (Kpt w4 w5 (fun i => base ≤ i)) := (by first | exact k5 | exact k5.undrew); have S5 := Lib.hid s5; have P5 := Lib.hid p5; obtain ⟨_, q1, _⟩ := s5.sh.oq.three; clear s5 p5 k5)
              | (go_simp; go_at_call 49; refine (CG.out a1 n1 g m cg FB fb fd f1 _ (by first | exact S5.out.sh | exact S5.out.sh.grown (grown_drew (World.grownBy.refl _ _))) P5.out).mono ?_; rintro e w6 ⟨n2, U, rfl, hi, s6, k6⟩; have K6 : Hid (Kpt w5 w6 (onG g)) := (by first | exact k6 | exact k6.undrew); have S6 := Lib.hid s6; have HI := Lib.hid hi; have f1q := s6.oq.frozen 1; obtain ⟨_, q1, _⟩ := s6.oq.three; clear s6 k6 hi))
            all_goals
              clear q1 f1q b0 b1 b2
              have hgb : base ≤ g := S5.out.sh.mn.own_ge g rfl
              have KS : Kpt w4 (w6.setCell ⟨q, 1, none⟩ (.int .i64 U.top)) (fun i => base ≤ i) := (K5.out.trans (K6.out.wide (T := fun i => base ≤ i) (fun i _ e => by rw [show i = g from e]; exact hgb))).set hq _
              have G7 : Hid (w.grownBy (w6.setCell ⟨q, 1, none⟩ (.int .i64 U.top)) none) := Kpt.grown G4.out KS (fun i hi => by omega)
              have O7 : Hid (Own (w6.setCell ⟨q, 1, none⟩ (.int .i64 U.top)) (w.heap.size + 1 + 1) 25 [.slice none 0 0, .int .i64 0, .slice none 0 0]) := Kpt.own O3.out KS (fun e => by omega)
              have S7 : Hid (Shf (w6.setCell ⟨q, 1, none⟩ (.int .i64 U.top)) base q g m cg n2 U.top FB fb fd f1) := (S5.out.keep S6.out K6.out).root _
              have HD := Lib.hid (insert_ok TT.out HIT.out (by rw [XS.out]; exact HX.out) ROOM.out P5.out HI.out)
              rw [XS.out] at HD
              clear K5 K6 S5 S6 KS HI P5 O1 O2 O3 hgb
              generalize w6.setCell ⟨q, 1, none⟩ (.int .i64 U.top) = w7 at *
              obtain ⟨q0, q1, q2⟩ := S7.out.sh.oq.three
              obtain ⟨r0, r1, r2⟩ := O7.out.three
              have f0 := O7.out.frozen 0
              have f1 := O7.out.frozen 1
              have f2 := O7.out.frozen 2
              go_wp2
              have O9 := Own.put3 O7.out (.slice (some ⟨g, 0, none⟩) m cg) (.int .i64 U.top) (.slice FB fb fd)
              refine post_tree2 rfl rfl O9 rfl ?_
              exact told (S7.out.box (by omega) hq _ _ _) (by omega) (grown_none G7.out (set3_grown _ _ _) (fun g hg => by injection hg with hg; omega)) ⟨by rw [insE, if_neg (by rw [HIT.out]; decide), if_neg HX.out, if_neg (fun e => hfull (FULL.out.1 e))], fun h => absurd rfl h, fun _ => ⟨xs, rfl, HD.out⟩⟩

end Go.Proofs.Ytgfehlmiejnonaa
