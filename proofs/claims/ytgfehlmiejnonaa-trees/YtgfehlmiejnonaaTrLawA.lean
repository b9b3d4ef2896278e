/-
  Trees, walked.
-/
import Derived.Test.YtgfehlmiejnonaaTrLawB
set_option maxRecDepth 20000
namespace Go.Proofs.Ytgfehlmiejnonaa
open Go.RowKit

theorem meetsV_none {V : Option (List It)} (h : V = none) (a b : Int) : meetsV V a b = [] := by subst h; rfl
theorem pointsV_none {V : Option (List It)} (h : V = none) (a b : Int) : pointsV V a b = [] := by subst h; rfl
theorem spanZ_none {V : Option (List It)} (h : V = none) (a b : Int) : spanZ V a b = 1700 := by subst h; rfl

theorem pts_ok {a b : Int} {xs : List It} (h : spanMay a b = true) : okI (pointsF a b xs) := by
  obtain ⟨h1, h2, h3⟩ := span_may.1 h
  intro i
  by_cases hi : i < (pointsF a b xs).length
  · have hm : (pointsF a b xs)[i]?.getD 0 ∈ pointsF a b xs := by
      rw [List.getElem?_eq_getElem hi]
      exact List.getElem_mem hi
    generalize (pointsF a b xs)[i]?.getD 0 = x at *
    obtain ⟨hm, _⟩ := List.mem_filter.1 hm
    obtain ⟨k, hk, rfl⟩ := List.mem_map.1 hm
    have := List.mem_range.1 hk
    omega
  · rw [List.getElem?_eq_none (by omega)]
    decide

set_option maxHeartbeats 4000000 in
theorem Trees_walk (A : Option Addr) (n c : Nat) (ns : List Nd) (r : Int) (FA : Option Addr) (fn fc : Nat) (free : List Int) (a b : Int) (w : World) (h : InT w A n c ns FA fn fc free) :
    Calls Try.prog 3 #[.agg #[.slice A n c, .int .i64 r, .slice FA fn fc], .agg #[.int .i64 a, .int .i64 b]] w (LawPost w) := by
  obtain ⟨ht, hnc, hcb, hnil, hfc, hfb, hfnil⟩ := h
  have HT := Lib.hid ht
  have HOK := Lib.hid ht.free.ok
  have HLEN := Lib.hid ht.nodes.len
  have HFL := Lib.hid ht.free.len
  have HNIL := Lib.hid hnil
  have HFNIL := Lib.hid hfnil
  have GB := Lib.hid (box2 (w := w) (T := 25) (U := 27) [.slice A n c, .int .i64 r, .slice FA fn fc] [.int .i64 a, .int .i64 b] (World.grownBy.refl _ none))
  have hs1 : ((w.alloc (.cells #[.slice A n c, .int .i64 r, .slice FA fn fc] 25)).alloc (.cells #[.int .i64 a, .int .i64 b] 27)).heap.size = w.heap.size + 2 := by simp
  clear ht hnil hfnil
  go_enter Try.func3, Try.ntmps3
  go_upto_region 1 with fail
  generalize (w.alloc (.cells #[.slice A n c, .int .i64 r, .slice FA fn fc] 25)).alloc (.cells #[.int .i64 a, .int .i64 b] 27) = w1 at *
  obtain ⟨g1, o1, o2⟩ := GB.out
  obtain ⟨c0, c1, c2⟩ := o1.three
  obtain ⟨i0, i1⟩ := o2.two
  have G := Lib.hid g1
  have O1 := Lib.hid o1
  have O2 := Lib.hid o2
  have T1 := Lib.hid (HT.out.grown (Nat.le_refl _) g1)
  clear GB g1 o1 o2
  go_wp2_with fail
  refine (CopyTree_any A n c ns r FA fn fc free _ T1.out.nodes (by omega) T1.out.free (by omega) HNIL.out HFNIL.out (by omega) (by omega)).mono ?_
  rintro e w2 ⟨v2, f2, rfl, m2, k2, g2⟩
  obtain ⟨Ax, cx, Fx, fx, rfl, rfl, _, _, tx⟩ := tre_of m2 k2 HOK.out
  have TX := Lib.hid tx
  have G := Lib.hid (grown_trans G.out g2)
  have O1 := Lib.hid (O1.out.kept g2)
  have O2 := Lib.hid (O2.out.kept g2)
  have hs2 := g2.size
  clear m2 k2 g2 tx c0 c1 c2 i0 i1 T1
  rw [HLEN.out, HFL.out] at TX
  rw [HLEN.out, HFL.out]
  obtain ⟨c0, c1, c2⟩ := O1.out.three
  obtain ⟨i0, i1⟩ := O2.out.two
  go_upto_region 2 with fail
  clear c0 c1 c2 i0 i1
  have kx := grow0 w2 (.cells #[.slice Ax n cx, .int .i64 r, .slice Fx fn fx] 25)
  have OX := Lib.hid (Own.new w2 25 [.slice Ax n cx, .int .i64 r, .slice Fx fn fx])
  have G := Lib.hid (grown_trans G.out kx)
  have O1 := Lib.hid (O1.out.kept kx)
  have O2 := Lib.hid (O2.out.kept kx)
  have TX := Lib.hid (TX.out.grown (Nat.le_refl _) kx)
  have hs3 : (w2.alloc (.cells #[.slice Ax n cx, .int .i64 r, .slice Fx fn fx] 25)).heap.size = w2.heap.size + 1 := by simp
  clear kx
  generalize w2.alloc (.cells #[.slice Ax n cx, .int .i64 r, .slice Fx fn fx] 25) = w3 at *
  generalize w2.heap.size = qx at *
  obtain hV | ⟨xs, hV⟩ : allF ns r free = none ∨ ∃ xs, allF ns r free = some xs := by
    cases allF ns r free with
    | none => exact .inl rfl
    | some xs => exact .inr ⟨xs, rfl⟩
  · have GW : Hid (w3.grownBy w3 none) := World.grownBy.refl _ _
    obtain ⟨c0, c1, c2⟩ := O1.out.three
    go_wp2_with fail
    refine (RAll_any ns n r A c free FA fn fc w3 (HT.out.nodes.grown (Nat.le_refl _) (grown_trans G.out GW.out)) (by omega) (HT.out.free.grown (Nat.le_refl _) (grown_trans G.out GW.out)) (by omega)).mono ?_
    rw [hV]
    rintro e w4 ⟨v4, rfl, m4, g4⟩
    have M4 : Hid (MineE itemE w4 w3.heap.size v4 ([]).length ([])) := m4
    have GW := Lib.hid (grown_trans GW.out g4)
    have hs4 := g4.size
    have g4l := Lib.hid m4.own_lt
    clear m4 g4 c0 c1 c2
    obtain ⟨a0, a1, a2⟩ := (OX.out.kept GW.out).three
    go_wp2_with fail
    refine (Items_any Ax n cx ns r Fx fn fx free w4 (TX.out.grown (by omega) GW.out) (by omega)).mono ?_
    rw [hV]
    rintro e w5 ⟨v5, rfl, m5, g5⟩
    have M5 : Hid (MineE itemE w5 w4.heap.size v5 ([]).length ([])) := m5
    have GW := Lib.hid (grown_trans GW.out g5)
    have M4 := Lib.hid (M4.out.kept g5)
    have hs5 := g5.size
    have g5l := Lib.hid m5.own_lt
    clear m5 g5 a0 a1 a2
    obtain ⟨a0, a1, a2⟩ := (OX.out.kept GW.out).three
    obtain ⟨i0, i1⟩ := (O2.out.kept GW.out).two
    go_wp2_with fail
    refine (TMeets_any Ax n cx ns r Fx fn fx free a b w5 (TX.out.grown (by omega) GW.out) (by omega)).mono ?_
    rw [meetsV_none hV a b, spanZ_none hV a b]
    rintro e w6 ⟨v6, rfl, m6, g6⟩
    have M6 := Lib.hid m6
    have GW := Lib.hid (grown_trans GW.out g6)
    have M4 := Lib.hid (M4.out.kept g6)
    have M5 := Lib.hid (M5.out.kept g6)
    have hs6 := g6.size
    clear m6 g6 a0 a1 a2 i0 i1
    obtain ⟨a0, a1, a2⟩ := (OX.out.kept GW.out).three
    obtain ⟨i0, i1⟩ := (O2.out.kept GW.out).two
    go_wp2_with fail
    refine (TPoints_any Ax n cx ns r Fx fn fx free a b w6 (TX.out.grown (by omega) GW.out) (by omega)).mono ?_
    rw [pointsV_none hV a b, spanZ_none hV a b]
    rintro e w7 ⟨v7, rfl, m7, g7⟩
    have M7 := Lib.hid m7
    have GW := Lib.hid (grown_trans GW.out g7)
    have M4 := Lib.hid (M4.out.kept g7)
    have M5 := Lib.hid (M5.out.kept g7)
    have M6 := Lib.hid (M6.out.kept g7)
    have hs7 := g7.size
    clear m7 g7 a0 a1 a2 i0 i1
    obtain ⟨a0, a1, a2⟩ := (OX.out.kept GW.out).three
    go_wp2_with fail
    refine (TMay_any Ax n cx ns r Fx fn fx free w7 (TX.out.grown (by omega) GW.out) (by omega)).mono ?_
    rw [hV]
    rintro e w8 ⟨rfl, g8⟩
    have GW := Lib.hid (grown_trans GW.out g8)
    have M4 := Lib.hid (M4.out.kept g8)
    have M5 := Lib.hid (M5.out.kept g8)
    have M6 := Lib.hid (M6.out.kept g8)
    have M7 := Lib.hid (M7.out.kept g8)
    have hs8 := g8.size
    clear g8 a0 a1 a2
    obtain ⟨a0, a1, a2⟩ := (OX.out.kept GW.out).three
    obtain ⟨c0, c1, c2⟩ := (O1.out.kept GW.out).three
    go_wp2_with fail
    refine (SameTree_same Ax A n cx c ns r Fx FA fn fx fc free w8 (TX.out.nodes.grown (by omega) GW.out) (by have := GW.out.size; omega) (HT.out.nodes.grown (Nat.le_refl _) (grown_trans G.out GW.out)) (by have := GW.out.size; omega) (TX.out.free.grown (by omega) GW.out) (by have := GW.out.size; omega) (HT.out.free.grown (Nat.le_refl _) (grown_trans G.out GW.out)) (by have := GW.out.size; omega)).mono ?_
    rintro e w9 ⟨rfl, g9⟩
    have GW := Lib.hid (grown_trans GW.out g9)
    have M4 := Lib.hid (M4.out.kept g9)
    have M5 := Lib.hid (M5.out.kept g9)
    have M6 := Lib.hid (M6.out.kept g9)
    have M7 := Lib.hid (M7.out.kept g9)
    have hs9 := g9.size
    clear g9 a0 a1 a2 c0 c1 c2
    obtain ⟨A5, k5, rfl, _⟩ := M5.out.row
    obtain ⟨A6, k6, rfl, _⟩ := M6.out.row
    obtain ⟨A7, k7, rfl, _⟩ := M7.out.sl
    simp only [List.length_nil, Option.isSome_none, formE, Bool.false_eq_true, if_false]
    clear hV M4 M5 M6 M7
    go_wp2_with fail
    refine (awake17_any _).mono ?_
    rintro e wa ⟨rfl, ga⟩
    have GW := Lib.hid (grown_trans GW.out ga)
    clear ga
    go_wp2_with fail
    refine (num_says _ _).mono ?_
    rintro e wn0 ⟨rfl, gn⟩
    have GW := Lib.hid (grown_trans GW.out gn)
    clear gn
    go_wp2_with fail
    refine (num_says _ _).mono ?_
    rintro e wn1 ⟨rfl, gn⟩
    have GW := Lib.hid (grown_trans GW.out gn)
    clear gn
    go_wp2_with fail
    refine (num_says _ _).mono ?_
    rintro e wn2 ⟨rfl, gn⟩
    have GW := Lib.hid (grown_trans GW.out gn)
    clear gn
    go_wp2
    go_ret
    exact ⟨rfl, below_of (grown_trans G.out GW.out)⟩
  · have GW : Hid (w3.grownBy w3 none) := World.grownBy.refl _ _
    obtain ⟨c0, c1, c2⟩ := O1.out.three
    go_wp2_with fail
    refine (RAll_any ns n r A c free FA fn fc w3 (HT.out.nodes.grown (Nat.le_refl _) (grown_trans G.out GW.out)) (by omega) (HT.out.free.grown (Nat.le_refl _) (grown_trans G.out GW.out)) (by omega)).mono ?_
    rw [hV]
    rintro e w4 ⟨v4, rfl, m4, g4⟩
    have M4 : Hid (MineE itemE w4 w3.heap.size v4 (xs).length (xs)) := m4
    have GW := Lib.hid (grown_trans GW.out g4)
    have hs4 := g4.size
    have g4l := Lib.hid m4.own_lt
    clear m4 g4 c0 c1 c2
    obtain ⟨a0, a1, a2⟩ := (OX.out.kept GW.out).three
    go_wp2_with fail
    refine (Items_any Ax n cx ns r Fx fn fx free w4 (TX.out.grown (by omega) GW.out) (by omega)).mono ?_
    rw [hV]
    rintro e w5 ⟨v5, rfl, m5, g5⟩
    have M5 : Hid (MineE itemE w5 w4.heap.size v5 (xs).length (xs)) := m5
    have GW := Lib.hid (grown_trans GW.out g5)
    have M4 := Lib.hid (M4.out.kept g5)
    have hs5 := g5.size
    have g5l := Lib.hid m5.own_lt
    clear m5 g5 a0 a1 a2
    obtain ⟨a0, a1, a2⟩ := (OX.out.kept GW.out).three
    obtain ⟨i0, i1⟩ := (O2.out.kept GW.out).two
    go_wp2_with fail
    refine (TMeets_any Ax n cx ns r Fx fn fx free a b w5 (TX.out.grown (by omega) GW.out) (by omega)).mono ?_
    rw [hV]
    rintro e w6 ⟨v6, rfl, m6, g6⟩
    have M6 := Lib.hid m6
    have GW := Lib.hid (grown_trans GW.out g6)
    have M4 := Lib.hid (M4.out.kept g6)
    have M5 := Lib.hid (M5.out.kept g6)
    have hs6 := g6.size
    clear m6 g6 a0 a1 a2 i0 i1
    obtain ⟨a0, a1, a2⟩ := (OX.out.kept GW.out).three
    obtain ⟨i0, i1⟩ := (O2.out.kept GW.out).two
    go_wp2_with fail
    refine (TPoints_any Ax n cx ns r Fx fn fx free a b w6 (TX.out.grown (by omega) GW.out) (by omega)).mono ?_
    rw [hV]
    rintro e w7 ⟨v7, rfl, m7, g7⟩
    have M7 := Lib.hid m7
    have GW := Lib.hid (grown_trans GW.out g7)
    have M4 := Lib.hid (M4.out.kept g7)
    have M5 := Lib.hid (M5.out.kept g7)
    have M6 := Lib.hid (M6.out.kept g7)
    have hs7 := g7.size
    clear m7 g7 a0 a1 a2 i0 i1
    obtain ⟨a0, a1, a2⟩ := (OX.out.kept GW.out).three
    go_wp2_with fail
    refine (TMay_any Ax n cx ns r Fx fn fx free w7 (TX.out.grown (by omega) GW.out) (by omega)).mono ?_
    rw [hV]
    rintro e w8 ⟨rfl, g8⟩
    have GW := Lib.hid (grown_trans GW.out g8)
    have M4 := Lib.hid (M4.out.kept g8)
    have M5 := Lib.hid (M5.out.kept g8)
    have M6 := Lib.hid (M6.out.kept g8)
    have M7 := Lib.hid (M7.out.kept g8)
    have hs8 := g8.size
    clear g8 a0 a1 a2
    obtain ⟨a0, a1, a2⟩ := (OX.out.kept GW.out).three
    obtain ⟨c0, c1, c2⟩ := (O1.out.kept GW.out).three
    go_wp2_with fail
    refine (SameTree_same Ax A n cx c ns r Fx FA fn fx fc free w8 (TX.out.nodes.grown (by omega) GW.out) (by have := GW.out.size; omega) (HT.out.nodes.grown (Nat.le_refl _) (grown_trans G.out GW.out)) (by have := GW.out.size; omega) (TX.out.free.grown (by omega) GW.out) (by have := GW.out.size; omega) (HT.out.free.grown (Nat.le_refl _) (grown_trans G.out GW.out)) (by have := GW.out.size; omega)).mono ?_
    rintro e w9 ⟨rfl, g9⟩
    have GW := Lib.hid (grown_trans GW.out g9)
    have M4 := Lib.hid (M4.out.kept g9)
    have M5 := Lib.hid (M5.out.kept g9)
    have M6 := Lib.hid (M6.out.kept g9)
    have M7 := Lib.hid (M7.out.kept g9)
    have hs9 := g9.size
    clear g9 a0 a1 a2 c0 c1 c2
    simp only [Option.isSome_some, formE, if_true]
    go_wp2_with fail
    refine (num_says _ _).mono ?_
    rintro e w10 ⟨rfl, gn⟩
    have GW := Lib.hid (grown_trans GW.out gn)
    have M4 := Lib.hid (M4.out.kept gn)
    have M5 := Lib.hid (M5.out.kept gn)
    have M6 := Lib.hid (M6.out.kept gn)
    have M7 := Lib.hid (M7.out.kept gn)
    have hs10 := gn.size
    clear gn
    obtain ⟨A4, k4, rfl, _, _, r4⟩ := M4.out.row
    obtain ⟨A5, k5, rfl, _, _, r5⟩ := M5.out.row
    have R4 := Lib.hid r4
    have R5 := Lib.hid r5
    have hxl := all_len hV
    clear r4 r5 hV
    go_wp2_with fail
    refine (SameItems_any A5 _ k5 _ A4 _ k4 _ w10 R5.out (Nat.le_refl _) R4.out (Nat.le_refl _)).mono ?_
    rw [decide_eq_true (rfl : xs = xs)]
    rintro e w11 ⟨rfl, g11⟩
    have GW := Lib.hid (grown_trans GW.out g11)
    have M4 := Lib.hid (M4.out.kept g11)
    have M5 := Lib.hid (M5.out.kept g11)
    have M6 := Lib.hid (M6.out.kept g11)
    have M7 := Lib.hid (M7.out.kept g11)
    have hs11 := g11.size
    clear g11 R4 R5
    go_wp2_with fail
    refine (SpoilItems_any _ _ xs w11 M5.out).mono ?_
    rintro e ws ⟨rfl, gs⟩
    have GW := Lib.hid (grown_none GW.out gs (fun g hg => by have := M5.out.own_ge g hg; omega))
    have M4 := Lib.hid (M4.out.kept' gs (fun g hg e => by have h1 := M5.out.own_ge g e; have h2 := g4l.out g hg; omega))
    have M6 := Lib.hid (M6.out.kept' gs (fun g hg e => by have h1 := M6.out.own_ge g hg; have h2 := g5l.out g e; omega))
    have M7 := Lib.hid (M7.out.kept' gs (fun g hg e => by have h1 := M7.out.own_ge g hg; have h2 := g5l.out g e; omega))
    have hss := gs.size
    clear gs M5 g4l g5l
    obtain ⟨i0, i1⟩ := (O2.out.kept GW.out).two
    go_wp2_with fail
    refine (SpanMay_any a b ws).mono ?_
    rintro e w12 ⟨rfl, g12⟩
    have GW := Lib.hid (grown_trans GW.out g12)
    have M4 := Lib.hid (M4.out.kept g12)
    have M6 := Lib.hid (M6.out.kept g12)
    have M7 := Lib.hid (M7.out.kept g12)
    have hs12 := g12.size
    clear g12 i0 i1
    cases hsp : spanMay a b
    case false =>
      have e6 : meetsV (some xs) a b = [] := by simp [meetsV, spanE2, hsp]
      have e7 : pointsV (some xs) a b = [] := by simp [pointsV, spanE2, hsp]
      have ez : spanZ (some xs) a b = 1700 := by simp [spanZ, spanE2, hsp]
      rw [e6] at M6
      rw [e7] at M7
      rw [ez]
      obtain ⟨A6, k6, rfl, _⟩ := M6.out.row
      obtain ⟨A7, k7, rfl, _⟩ := M7.out.sl
      simp only [List.length_nil]
      clear M4 M6 M7 e6 e7 ez hsp
      go_wp2_with fail
      refine (awake17_any _).mono ?_
      rintro e wa ⟨rfl, ga⟩
      have GW := Lib.hid (grown_trans GW.out ga)
      clear ga
      go_wp2_with fail
      refine (num_says _ _).mono ?_
      rintro e wn0 ⟨rfl, gn⟩
      have GW := Lib.hid (grown_trans GW.out gn)
      clear gn
      go_wp2_with fail
      refine (num_says _ _).mono ?_
      rintro e wn1 ⟨rfl, gn⟩
      have GW := Lib.hid (grown_trans GW.out gn)
      clear gn
      obtain ⟨a0, a1, a2⟩ := (OX.out.kept GW.out).three
      obtain ⟨c0, c1, c2⟩ := (O1.out.kept GW.out).three
      go_wp2_with fail
      refine (SameTree_same Ax A n cx c ns r Fx FA fn fx fc free _ (TX.out.nodes.grown (by omega) GW.out) (by have := GW.out.size; omega) (HT.out.nodes.grown (Nat.le_refl _) (grown_trans G.out GW.out)) (by have := GW.out.size; omega) (TX.out.free.grown (by omega) GW.out) (by have := GW.out.size; omega) (HT.out.free.grown (Nat.le_refl _) (grown_trans G.out GW.out)) (by have := GW.out.size; omega)).mono ?_
      rintro e wz ⟨rfl, gz⟩
      have GW := Lib.hid (grown_trans GW.out gz)
      clear gz a0 a1 a2 c0 c1 c2
      go_wp2
      go_ret
      exact ⟨rfl, below_of (grown_trans G.out GW.out)⟩
    case true =>
      have e6 : meetsV (some xs) a b = meetsF a b xs := by simp [meetsV, spanE2, hsp]
      have e7 : pointsV (some xs) a b = pointsF a b xs := by simp [pointsV, spanE2, hsp]
      have ez : spanZ (some xs) a b = 0 := by simp [spanZ, spanE2, hsp]
      rw [e6] at M6
      rw [e7] at M7
      rw [ez]
      clear e6 e7 ez
      have HSP := Lib.hid hsp
      clear hsp
      go_wp2_with fail
      refine (num_says _ _).mono ?_
      rintro e w13 ⟨rfl, gn⟩
      have GW := Lib.hid (grown_trans GW.out gn)
      have M4 := Lib.hid (M4.out.kept gn)
      have M6 := Lib.hid (M6.out.kept gn)
      have M7 := Lib.hid (M7.out.kept gn)
      have hs13 := gn.size
      clear gn
      go_wp2_with fail
      refine (num_says _ _).mono ?_
      rintro e w14 ⟨rfl, gn⟩
      have GW := Lib.hid (grown_trans GW.out gn)
      have M4 := Lib.hid (M4.out.kept gn)
      have M6 := Lib.hid (M6.out.kept gn)
      have M7 := Lib.hid (M7.out.kept gn)
      have hs14 := gn.size
      clear gn
      obtain ⟨A4', k4', hv4, _, _, r4⟩ := M4.out.row
      injection hv4 with q1 _ q3
      subst q1 q3
      have R4 := Lib.hid r4
      clear r4
      obtain ⟨i0, i1⟩ := (O2.out.kept GW.out).two
      go_wp2_with fail
      refine (RMeetsI_any a b A4 xs.length k4 xs w14 R4.out (Nat.le_refl _) (by omega)).mono ?_
      rintro e w15 ⟨v15, rfl, m15, g15⟩
      have M15 := Lib.hid m15
      have GW := Lib.hid (grown_trans GW.out g15)
      have M4 := Lib.hid (M4.out.kept g15)
      have M6 := Lib.hid (M6.out.kept g15)
      have M7 := Lib.hid (M7.out.kept g15)
      have hs15 := g15.size
      clear m15 g15 i0 i1 R4
      obtain ⟨A6, k6, rfl, _, _, r6⟩ := M6.out.row
      obtain ⟨A15, k15, rfl, _, _, r15⟩ := M15.out.row
      have R6 := Lib.hid r6
      have R15 := Lib.hid r15
      clear r6 r15
      go_wp2_with fail
      refine (SameItems_any A6 _ k6 _ A15 _ k15 _ w15 R6.out (Nat.le_refl _) R15.out (Nat.le_refl _)).mono ?_
      rw [decide_eq_true (rfl : meetsF a b xs = meetsF a b xs)]
      rintro e w16 ⟨rfl, g16⟩
      have GW := Lib.hid (grown_trans GW.out g16)
      have M4 := Lib.hid (M4.out.kept g16)
      have M6 := Lib.hid (M6.out.kept g16)
      have M7 := Lib.hid (M7.out.kept g16)
      have hs16 := g16.size
      clear g16 R6 R15 M15
      obtain ⟨A4', k4', hv4, _, _, r4⟩ := M4.out.row
      injection hv4 with q1 _ q3
      subst q1 q3
      have R4 := Lib.hid r4
      clear r4
      obtain ⟨i0, i1⟩ := (O2.out.kept GW.out).two
      go_wp2_with fail
      refine (RPoints_any a b A4 xs.length k4 xs w16 R4.out (Nat.le_refl _) HSP.out).mono ?_
      rintro e w17 ⟨v17, rfl, m17, g17⟩
      have M17 := Lib.hid m17
      have GW := Lib.hid (grown_trans GW.out g17)
      have M6 := Lib.hid (M6.out.kept g17)
      have M7 := Lib.hid (M7.out.kept g17)
      have hs17 := g17.size
      clear m17 g17 i0 i1 R4 M4
      obtain ⟨A7, k7, rfl, _, _, r7⟩ := M7.out.rowN (pts_ok HSP.out)
      obtain ⟨A17, k17, rfl, _, _, r17⟩ := M17.out.rowN (pts_ok HSP.out)
      have R7 := Lib.hid r7
      have R17 := Lib.hid r17
      clear r7 r17
      go_wp2_with fail
      refine (same_says (SameInts0_any A7 _ k7 _ A17 _ k17 _ w17 R7.out R17.out)).mono ?_
      rw [sameB_refl]
      rintro e w18 ⟨rfl, g18⟩
      have GW := Lib.hid (grown_trans GW.out g18)
      have M6 := Lib.hid (M6.out.kept g18)
      have hs18 := g18.size
      clear g18 R7 R17 M7 M17
      go_wp2_with fail
      refine (SpoilItems_any _ _ (meetsF a b xs) w18 M6.out).mono ?_
      rintro e wt ⟨rfl, gs⟩
      have GW := Lib.hid (grown_none GW.out gs (fun g hg => by have := M6.out.own_ge g hg; omega))
      clear gs M6
      go_wp2_with fail
      refine (awake17_any _).mono ?_
      rintro e wa ⟨rfl, ga⟩
      have GW := Lib.hid (grown_trans GW.out ga)
      clear ga
      obtain ⟨a0, a1, a2⟩ := (OX.out.kept GW.out).three
      obtain ⟨c0, c1, c2⟩ := (O1.out.kept GW.out).three
      go_wp2_with fail
      refine (SameTree_same Ax A n cx c ns r Fx FA fn fx fc free _ (TX.out.nodes.grown (by omega) GW.out) (by have := GW.out.size; omega) (HT.out.nodes.grown (Nat.le_refl _) (grown_trans G.out GW.out)) (by have := GW.out.size; omega) (TX.out.free.grown (by omega) GW.out) (by have := GW.out.size; omega) (HT.out.free.grown (Nat.le_refl _) (grown_trans G.out GW.out)) (by have := GW.out.size; omega)).mono ?_
      rintro e wz ⟨rfl, gz⟩
      have GW := Lib.hid (grown_trans GW.out gz)
      clear gz a0 a1 a2 c0 c1 c2
      go_wp2
      go_ret
      exact ⟨rfl, below_of (grown_trans G.out GW.out)⟩

end Go.Proofs.Ytgfehlmiejnonaa
