/-
  What every program answers that is one: layer 15's awake.
-/
import Derived.Test.YtodjehljnmfbpaaStrandP
import Derived.Test.YtodjehljnmfbpaaBlocks
set_option maxRecDepth 20000
namespace Go.Proofs.Ytodjehljnmfbpaa
open Go.RowKit

theorem small15_any (w : World) : Calls Try.prog 23 #[] w (SmallPost w) := by
  have HB := Lib.hid (box2 (w := w) (T := 24) (U := 53) [.int .i64 3, .slice (some ⟨w.heap.size + 1, 0, none⟩) 3 3] smallV (World.grownBy.refl _ none))
  go_enter Try.func23, Try.ntmps23
  go_wp2
  obtain ⟨g, o1, o2⟩ := HB.out
  exact post_graph rfl rfl o1.two.1 o1.two.2 rfl ⟨w.heap.size + 1, rfl, small_flat ▸ o2, by omega, g⟩

theorem SplitS {w0 w : World} {gs gf : Nat} {os : List (Nat × TypeId × List Value)} {s t : Int} (f : List Int) (hn : 3 = f.length) (hb : f.all bdB = true) (mf : (gf, 3, ints f) ∈ os) (h : SB w0 w os) (ms : (gs, 53, linkE.flat smallL) ∈ os) :
    Calls Try.prog 9 #[.agg #[.int .i64 3, .slice (some ⟨gs, 0, none⟩) 3 3], .slice (some ⟨gf, 0, none⟩) 3 3, .int .i64 s, .int .i64 t] w (SplitPost w 3 smallL f s t) :=
  Split_any 3 s t _ 3 3 smallL _ 3 3 f w (h.lks ms) (Nat.le_refl _) (h.row f mf hn (by omega) hb) (Nat.le_refl _)

theorem split_small1 {ps : List Pth} {z : Int} (h : SplitIs 3 smallL [4, 4, 3] 0 2 ps z) : z = 0 ∧ 2 ≤ ps.length ∧ bmay 3 smallL 0 2 7 ps = true ∧ ps.length ≤ 16 ∧ (∀ i, bd64 (rt ps i)) ∧ ∀ i, i < ps.length → okI (lk ps i) := by
  have hf : flowB ((3 : Nat) : Int) smallL [4, 4, 3] [4, 4, 3] 0 2 = true := by decide
  obtain ⟨hz, k⟩ := split_flow (V := 3) hf h
  have hg : gainOf smallL [4, 4, 3] 0 = 7 := by decide
  have hm := (splitF_may hf k).2 (by rw [hg]; decide)
  rw [hg] at hm
  have hok := splitF_ok hf k
  refine ⟨hz, ?_, hm, hok⟩
  match ps, k with
  | [], k =>
    have := k.sum
    rw [hg] at this
    exact absurd this (by decide)
  | [p], k =>
    exfalso
    have hs := k.sum
    rw [hg] at hs
    have hp : p.1 = 7 := by simpa [ratesOf, isum] using hs
    have hgd := k.good
    simp only [List.all_cons, List.all_nil, Bool.and_true] at hgd
    obtain ⟨_, hmm⟩ := good_parts hgd
    obtain ⟨ha, _, _, _, hne⟩ := mayP_parts hmm
    cases hq : p.2 with
    | nil => exact hne hq
    | cons x r =>
      rw [hq] at ha
      simp only [allL, List.all_cons, linkB, Bool.and_eq_true, decide_eq_true_eq] at ha
      obtain ⟨⟨x0, x1⟩, _⟩ := ha
      have x1 : x < 3 := x1
      have hpos : ∀ q ∈ pairsOf [p], 0 ≤ q.1 := by
        intro q hqq
        simp only [pairsOf, List.flatMap_cons, List.flatMap_nil, List.append_nil, List.mem_map] at hqq
        obtain ⟨y, _, rfl⟩ := hqq
        omega
      have hle := loadQ_mem (x := x) (r := p.1) hpos (by simp [pairsOf, hq])
      have hw := rates_at k.within (i := x.toNat) (by show x.toNat < 3; omega)
      rw [loadsQ_get (by show x.toNat < 3; omega)] at hw
      rw [show ((x.toNat : Nat) : Int) = x by omega] at hw
      have h7 := hw.2
      rcases (show x = 0 ∨ x = 1 ∨ x = 2 by omega) with rfl | rfl | rfl
      · have : loadQ 0 (pairsOf [p]) ≤ 4 := h7
        omega
      · have : loadQ 1 (pairsOf [p]) ≤ 4 := h7
        omega
      · have : loadQ 2 (pairsOf [p]) ≤ 3 := h7
        omega
  | _ :: _ :: _, _ => simp

theorem split_small2 {ps : List Pth} {z : Int} (h : SplitIs 3 smallL [0, 0, 0] 0 2 ps z) : z = 0 ∧ ps = [] := by
  have hf : flowB ((3 : Nat) : Int) smallL [0, 0, 0] [0, 0, 0] 0 2 = true := by decide
  obtain ⟨hz, k⟩ := split_flow (V := 3) hf h
  exact ⟨hz, (splitF_may hf k).1 (by decide)⟩

theorem split_small3 {ps : List Pth} {z : Int} (h : SplitIs 3 smallL [4, 3, 3] 0 2 ps z) : z = 1500 := by
  rcases h with ⟨h1, _⟩ | ⟨_, h2, _⟩
  · exact absurd h1 (by decide)
  · exact h2

set_option maxHeartbeats 4000000 in
theorem awake15_any (w : World) : Calls Try.prog 11 #[] w (Says w (.bool true)) := by
  have HS : Hid (SB w w []) := ⟨World.grownBy.refl w none, StS.nil _⟩
  go_enter Try.func11, Try.ntmps11
  go_wp2_with fail
  refine (small15_any _).mono ?_
  rintro e w1 ⟨gs1, rfl, os, _, k⟩
  have HS := Lib.hid ((HS.out.kept k).cons os)
  clear os k
  go_wp2_with fail
  refine (SplitS [4, 4, 3] rfl (by decide) (by simp [ints]) HS.out.lit (by simp)).mono ?_
  rintro e w2 ⟨ps, z, hq, va, rfl, ha, k⟩
  obtain ⟨rfl, hp2, hbm, hp16, hok, hoks⟩ := split_small1 hq
  obtain ⟨Aa, ca, rfl, ra⟩ := ha.pths hp16 hok hoks
  have RA := Lib.hid ra
  have HBM := Lib.hid hbm
  have HG2 := Lib.hid (World.grownBy.refl w2 none)
  have HS := Lib.hid (HS.out.lit.kept k).less
  clear k ra ha hq hbm hok hoks
  obtain ⟨pl, hpl⟩ : ∃ pl, ps.length = pl := ⟨_, rfl⟩
  rw [hpl] at hp2 hp16 RA
  rw [hpl]
  clear hpl
  go_wp2_with fail
  refine (small15_any _).mono ?_
  rintro e w3 ⟨gs3, rfl, os, _, k⟩
  have HS := Lib.hid ((HS.out.kept k).cons os)
  have HG2 := Lib.hid (grown_trans HG2.out k)
  clear os k
  go_wp2_with fail
  refine (SplitS [0, 0, 0] rfl (by decide) (by simp [ints]) HS.out.lit (by simp)).mono ?_
  rintro e w4 ⟨ps2, z, hq, vb, rfl, hb, k⟩
  obtain ⟨rfl, rfl⟩ := split_small2 hq
  obtain ⟨Ab, cb, rfl⟩ := hb.sl
  have HG2 := Lib.hid (grown_trans (grown_alloc HG2.out _) k)
  have HS := Lib.hid (HS.out.lit.kept k).less
  clear k hb hq
  go_wp2_with fail
  refine (small15_any _).mono ?_
  rintro e w5 ⟨gs5, rfl, os, _, k⟩
  have HS := Lib.hid ((HS.out.kept k).cons os)
  have HG2 := Lib.hid (grown_trans HG2.out k)
  clear os k
  go_wp2_with fail
  refine (SplitS [4, 3, 3] rfl (by decide) (by simp [ints]) HS.out.lit (by simp)).mono ?_
  rintro e w6 ⟨ps3, z, hq, vc, rfl, _, k⟩
  obtain rfl := split_small3 hq
  have HG2 := Lib.hid (grown_trans (grown_alloc HG2.out _) k)
  have HS := Lib.hid (HS.out.lit.kept k).less
  clear k hq
  go_wp2_with fail
  refine (small15_any _).mono ?_
  rintro e w7 ⟨gs7, rfl, os, _, k⟩
  have HS := Lib.hid ((HS.out.kept k).cons os)
  have HG2 := Lib.hid (grown_trans HG2.out k)
  clear os k
  go_wp2_with fail
  refine (RBMay_any 3 0 2 7 _ 3 3 smallL Aa pl ca ps _ (HS.out.lks (by simp)) (Nat.le_refl _) (RA.out.grown (Nat.le_refl _) HG2.out) HG2.out.size).mono ?_
  rintro e w8 ⟨he, k⟩
  rw [HBM.out] at he
  subst he
  have HS := Lib.hid (HS.out.kept k).less
  clear k RA
  go_wp2_with fail
  refine (num_says _ _).mono ?_
  rintro e w9 ⟨rfl, k⟩
  have HS := Lib.hid (HS.out.kept k)
  clear k
  go_wp2_with fail
  refine (num_says _ _).mono ?_
  rintro e wa ⟨rfl, k⟩
  have HS := Lib.hid (HS.out.kept k)
  clear k
  go_wp2_with fail
  refine (num_says _ _).mono ?_
  rintro e wb ⟨rfl, k⟩
  have HS := Lib.hid (HS.out.kept k)
  clear k
  go_wp2
  go_ret
  exact ⟨rfl, HS.out.g⟩

end Go.Proofs.Ytodjehljnmfbpaa
