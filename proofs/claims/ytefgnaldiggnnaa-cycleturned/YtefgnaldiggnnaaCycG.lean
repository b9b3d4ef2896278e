/-
  What every program answers that is one: layer 14's awake; the helper fine.
-/
import Derived.Test.YtefgnaldiggnnaaCycProg
import Derived.Test.YtefgnaldiggnnaaBlocks
set_option maxRecDepth 20000
namespace Go.Proofs.Ytefgnaldiggnnaa
open Go.RowKit

def ringL : List Lk := [(0, 1, 5), (1, 2, 4), (2, 0, 3), (0, 2, 6)]
def ringV : List Value := [.int .i64 0, .int .i64 1, .int .i64 5, .int .i64 1, .int .i64 2, .int .i64 4, .int .i64 2, .int .i64 0, .int .i64 3, .int .i64 0, .int .i64 2, .int .i64 6]
theorem ring_flat : linkE.flat ringL = ringV := rfl

def RingPost (w : World) (e : Ending) (w' : World) : Prop :=
  ∃ g, e = .returned (.agg #[.int .i64 3, .slice (some ⟨g, 0, none⟩) 4 4]) ∧ Own w' g 42 (linkE.flat ringL) ∧ w.heap.size ≤ g ∧ w.grownBy w' none

theorem ring_any (w : World) : Calls Try.prog 28 #[] w (RingPost w) := by
  have HB := Lib.hid (box2 (w := w) (T := 24) (U := 42) [.int .i64 3, .slice (some ⟨w.heap.size + 1, 0, none⟩) 4 4] ringV (World.grownBy.refl _ none))
  go_enter Try.func28, Try.ntmps28
  go_wp2
  obtain ⟨g, o1, o2⟩ := HB.out
  exact post_graph rfl rfl o1.two.1 o1.two.2 rfl ⟨w.heap.size + 1, rfl, ring_flat ▸ o2, by omega, g⟩

theorem SB.ring {w0 w : World} {os : List (Nat × TypeId × List Value)} {gs : Nat} (h : SB w0 w os) (ms : (gs, 42, linkE.flat ringL) ∈ os) : Lks w w.heap.size (some ⟨gs, 0, none⟩) 4 ringL := Own.lks' ringL 4 rfl (by decide) (by decide) (h.own ms)

theorem FindS {w0 w : World} {gs gf : Nat} {os : List (Nat × TypeId × List Value)} (f : List Int) (hn : 4 = f.length) (hb : f.all bdB = true) (mf : (gf, 3, ints f) ∈ os) (h : SB w0 w os) (ms : (gs, 42, linkE.flat ringL) ∈ os) :
    Calls Try.prog 9 #[.agg #[.int .i64 3, .slice (some ⟨gs, 0, none⟩) 4 4], .slice (some ⟨gf, 0, none⟩) 4 4] w (FindPost w 3 ringL f) :=
  Find_any 3 _ 4 4 ringL _ 4 4 f w (h.ring ms) (Nat.le_refl _) (h.row f mf hn (by omega) hb) (Nat.le_refl _)

theorem CancelS {w0 w : World} {gs gf : Nat} {os : List (Nat × TypeId × List Value)} (f : List Int) (hn : 4 = f.length) (hb : f.all bdB = true) (mf : (gf, 3, ints f) ∈ os) (h : SB w0 w os) (ms : (gs, 42, linkE.flat ringL) ∈ os) :
    Calls Try.prog 17 #[.agg #[.int .i64 3, .slice (some ⟨gs, 0, none⟩) 4 4], .slice (some ⟨gf, 0, none⟩) 4 4] w (CancelPost w 3 ringL f) :=
  Cancel_any 3 _ 4 4 ringL _ 4 4 f w (h.ring ms) (Nat.le_refl _) (h.row f mf hn (by omega) hb) (Nat.le_refl _)

/-- Links that all lead upwards make no cycle. -/
theorem cyc_up {L : List Lk} {f : List Int} (h : ∀ i, i < L.length → 0 < f[i]?.getD 0 → (at3 L i).1 < (at3 L i).2.1) : ¬ CycP L f := by
  rintro ⟨i, hi, hf, w⟩
  have k := Led.keep (P := fun v => (at3 L i).2.1 ≤ v) w (Int.le_refl _) (fun j hj hp q => by have := h j hj hp; show (at3 L i).2.1 ≤ (at3 L j).2.1; have q : (at3 L i).2.1 ≤ (at3 L j).1 := q; omega)
  have := h i hi hf
  have k : (at3 L i).2.1 ≤ (at3 L i).1 := k
  omega

theorem ring_cyc {x y u v : Int} (hx : 0 < x) (hy : 0 < y) (hu : 0 < u) : CycP ringL [x, y, u, v] := by
  refine ⟨0, by decide, hx, ?_⟩
  exact Led.step (L := ringL) (f := [x, y, u, v]) (i := 2) (by decide) hu (Led.step (L := ringL) (f := [x, y, u, v]) (i := 1) (by decide) hy .here)

theorem ring_three {ls : List Int} (h : TurnsIs ringL [2, 2, 2, 0] ls) : ls.length = 3 := by
  have h2 := h.two
  have h4 : ls.length ≤ 4 := h.most
  have hv : ∀ i, i < ls.length → ls[i]?.getD 0 = 0 ∨ ls[i]?.getD 0 = 1 ∨ ls[i]?.getD 0 = 2 := fun i hi => by
    obtain ⟨a, b, c⟩ := h.has i hi
    have b : ls[i]?.getD 0 < 4 := b
    rcases (show ls[i]?.getD 0 = 0 ∨ ls[i]?.getD 0 = 1 ∨ ls[i]?.getD 0 = 2 ∨ ls[i]?.getD 0 = 3 by omega) with e | e | e | e
    · exact .inl e
    · exact .inr (.inl e)
    · exact .inr (.inr e)
    · rw [e] at c; exact absurd c (by decide)
  have fr : ∀ x : Int, (x = 0 ∨ x = 1 ∨ x = 2) → (at3 ringL x.toNat).1 = x ∧ (at3 ringL x.toNat).2.1 ≠ x ∧ (x = 0 → (at3 ringL x.toNat).2.1 = 1) ∧ (x = 1 → (at3 ringL x.toNat).2.1 = 2) ∧ (x = 2 → (at3 ringL x.toNat).2.1 = 0) := by
    rintro x (rfl | rfl | rfl) <;> decide
  by_cases e2 : ls.length = 2
  · have n0 := h.next 0 (by omega)
    have n1 := h.next 1 (by omega)
    rw [e2] at n0 n1
    have a := hv 0 (by omega)
    have b := hv 1 (by omega)
    have fa := fr _ a
    have fb := fr _ b
    have n0 : (at3 ringL (ls[0]?.getD 0).toNat).2.1 = (at3 ringL (ls[1]?.getD 0).toNat).1 := n0
    have n1 : (at3 ringL (ls[1]?.getD 0).toNat).2.1 = (at3 ringL (ls[0]?.getD 0).toNat).1 := n1
    omega
  · by_cases e4 : ls.length = 4
    · have a := hv 0 (by omega)
      have b := hv 1 (by omega)
      have c := hv 2 (by omega)
      have d := hv 3 (by omega)
      have fa := (fr _ a).1
      have fb := (fr _ b).1
      have fc := (fr _ c).1
      have fd := (fr _ d).1
      have o1 := h.once 1 0 (by omega) (by omega)
      have o2 := h.once 2 0 (by omega) (by omega)
      have o3 := h.once 3 0 (by omega) (by omega)
      have o4 := h.once 2 1 (by omega) (by omega)
      have o5 := h.once 3 1 (by omega) (by omega)
      have o6 := h.once 3 2 (by omega) (by omega)
      omega
    · omega

theorem find_ring1 {ls : List Int} {is : Bool} {z : Int} (h : FindIs 3 ringL [2, 2, 2, 0] ls is z) : is = true ∧ ls.length = 3 ∧ z = 0 := by
  rcases h with ⟨_, hz, ⟨hi, ht⟩ | ⟨_, _, hn⟩⟩ | ⟨h1, _⟩
  · exact ⟨hi, ring_three ht, hz⟩
  · exact absurd (ring_cyc (by decide) (by decide) (by decide)) hn
  · exact absurd h1 (by decide)

theorem find_ring2 {ls : List Int} {is : Bool} {z : Int} (h : FindIs 3 ringL [2, 2, 0, 1] ls is z) : is = false ∧ z = 0 := by
  rcases h with ⟨_, hz, ⟨_, ht⟩ | ⟨hi, _, _⟩⟩ | ⟨h1, _⟩
  · refine absurd (turns_cyc ht) (cyc_up fun i hi hp => ?_)
    have hi : i < 4 := hi
    rcases (show i = 0 ∨ i = 1 ∨ i = 2 ∨ i = 3 by omega) with rfl | rfl | rfl | rfl
    · decide
    · decide
    · exact absurd hp (by decide)
    · decide
  · exact ⟨hi, hz⟩
  · exact absurd h1 (by decide)

theorem cancel_ring1 {b : List Int} {z : Int} (h : CancelIs 3 ringL [3, 2, 2, 0] b z) : b = [1, 0, 0, 0] ∧ z = 0 := by
  rcases h with ⟨_, hz, hl, hb, hg, hn⟩ | ⟨h1, _⟩
  · have hl : b.length = 4 := hl
    match b, hl with
    | [x, y, u, v], _ =>
      have b0 : 0 ≤ x ∧ x ≤ 3 := hb 0 (by decide)
      have b1 : 0 ≤ y ∧ y ≤ 2 := hb 1 (by decide)
      have b2 : 0 ≤ u ∧ u ≤ 2 := hb 2 (by decide)
      have b3 : 0 ≤ v ∧ v ≤ 0 := hb 3 (by decide)
      have g0 := hg 0 (by decide)
      have g1 := hg 1 (by decide)
      have e0 : gainOf ringL [x, y, u, v] ((0 : Nat) : Int) = x - u + v := by simp [gainOf, gk, outP, inP, at3, ringL]
      have e1 : gainOf ringL [x, y, u, v] ((1 : Nat) : Int) = -x + y := by simp [gainOf, gk, outP, inP, at3, ringL]
      have d0 : gainOf ringL [3, 2, 2, 0] ((0 : Nat) : Int) = 1 := by decide
      have d1 : gainOf ringL [3, 2, 2, 0] ((1 : Nat) : Int) = -1 := by decide
      rw [e0, d0] at g0
      rw [e1, d1] at g1
      by_cases hu : 0 < u
      · exact absurd (ring_cyc (by omega) (by omega) hu) hn
      · obtain rfl : u = 0 := by omega
        obtain rfl : v = 0 := by omega
        obtain rfl : x = 1 := by omega
        obtain rfl : y = 0 := by omega
        exact ⟨rfl, hz⟩
  · exact absurd h1 (by decide)

theorem cancel_ring2 {b : List Int} {z : Int} (h : CancelIs 3 ringL [6, 0, 0, 0] b z) : z = 1400 := by
  rcases h with ⟨h1, _⟩ | ⟨_, h2, _⟩
  · exact absurd h1 (by decide)
  · exact h2

set_option maxHeartbeats 4000000 in
theorem awake14_any (w : World) : Calls Try.prog 11 #[] w (Says w (.bool true)) := by
  have HS : Hid (SB w w []) := ⟨World.grownBy.refl w none, StS.nil _⟩
  go_enter Try.func11, Try.ntmps11
  go_wp2_with fail
  refine (ring_any _).mono ?_
  rintro e w1 ⟨gs1, rfl, os, _, k⟩
  have HS := Lib.hid ((HS.out.kept k).cons os)
  clear os k
  go_wp2_with fail
  refine (FindS [2, 2, 2, 0] rfl (by decide) (by simp [ints]) HS.out.lit (by simp)).mono ?_
  rintro e w2 ⟨ls, is, z, hf, va, rfl, ha, k⟩
  obtain ⟨rfl, hl3, rfl⟩ := find_ring1 hf
  obtain ⟨Aa, ca, rfl, _⟩ := ha.sl
  rw [hl3]
  have HS := Lib.hid (HS.out.lit.kept k).less
  clear k ha hf hl3
  go_wp2_with fail
  refine (ring_any _).mono ?_
  rintro e w3 ⟨gs3, rfl, os, _, k⟩
  have HS := Lib.hid ((HS.out.kept k).cons os)
  clear os k
  go_wp2_with fail
  refine (FindS [2, 2, 0, 1] rfl (by decide) (by simp [ints]) HS.out.lit (by simp)).mono ?_
  rintro e w4 ⟨ls2, is, z, hf, vb, rfl, ha, k⟩
  obtain ⟨rfl, rfl⟩ := find_ring2 hf
  have HS := Lib.hid (HS.out.lit.kept k).less
  clear k ha hf
  go_wp2_with fail
  refine (ring_any _).mono ?_
  rintro e w5 ⟨gs5, rfl, os, _, k⟩
  have HS := Lib.hid ((HS.out.kept k).cons os)
  clear os k
  go_wp2_with fail
  refine (CancelS [3, 2, 2, 0] rfl (by decide) (by simp [ints]) HS.out.lit (by simp)).mono ?_
  rintro e w6 ⟨b, z, hf, vc, rfl, hc, k⟩
  obtain ⟨rfl, rfl⟩ := cancel_ring1 hf
  obtain ⟨Ac, cc, rfl, _, rc⟩ := hc.row (ok_of (xs := [1, 0, 0, 0]) (by decide))
  have RC := Lib.hid rc
  have HG6 := Lib.hid (World.grownBy.refl w6 none)
  have HS := Lib.hid (HS.out.lit.kept k).less
  clear k hc hf rc
  go_wp2_with fail
  refine (ring_any _).mono ?_
  rintro e w7 ⟨gs7, rfl, os, _, k⟩
  have HS := Lib.hid ((HS.out.kept k).cons os)
  have HG6 := Lib.hid (grown_trans HG6.out k)
  clear os k
  go_wp2_with fail
  refine (CancelS [6, 0, 0, 0] rfl (by decide) (by simp [ints]) HS.out.lit (by simp)).mono ?_
  rintro e w8 ⟨b, z, hf, vd, rfl, _, k⟩
  obtain rfl := cancel_ring2 hf
  have HG6 := Lib.hid (grown_trans (grown_alloc HG6.out _) k)
  have HS := Lib.hid (HS.out.lit.kept k).less
  clear k hf
  go_wp2_with fail
  refine (num_says _ _).mono ?_
  rintro e w9 ⟨rfl, k⟩
  have HS := Lib.hid (HS.out.kept k)
  have HG6 := Lib.hid (grown_trans HG6.out k)
  clear k
  go_wp2_with fail
  refine (num_says _ _).mono ?_
  rintro e wa ⟨rfl, k⟩
  have HS := Lib.hid (HS.out.kept k)
  have HG6 := Lib.hid (grown_trans HG6.out k)
  clear k
  go_wp2_with fail
  refine (SameS RC.out HS.out.lit (Nat.le_refl _) (grown_alloc HG6.out _) (by simp [ints]) rfl (by decide) (by decide)).mono ?_
  rintro e wb ⟨rfl, k⟩
  have HS := Lib.hid (HS.out.lit.kept k).less
  clear k HG6 RC
  go_wp2_with fail
  refine (num_says _ _).mono ?_
  rintro e wc ⟨rfl, k⟩
  have HS := Lib.hid (HS.out.kept k)
  clear k
  go_wp2_with fail
  refine (num_says _ _).mono ?_
  rintro e wd ⟨rfl, k⟩
  have HS := Lib.hid (HS.out.kept k)
  clear k
  go_wp2
  go_ret
  exact ⟨rfl, HS.out.g⟩

theorem RFine14_any (V : Int) (A : Option Addr) (n c : Nat) (ls : List Lk) (Y : Option Addr) (m e0 : Nat) (f : List Int) (w : World) {B B' : Nat} (h : Lks w B A n ls) (hB : B ≤ w.heap.size) (hy : Row w B' Y m f) (hB' : B' ≤ w.heap.size) :
    Calls Try.prog 10 #[.agg #[.int .i64 V, .slice A n c], .slice Y m e0] w (Says w (.bool (mayG V ls && capsB ls f))) := by
  have HL := Lib.hid h.len
  have HR := Lib.hid h
  have HY := Lib.hid hy
  have HG0 := Lib.hid (grow0 w (.cells #[.int .i64 V, .slice A n c] 24))
  have HE : Hid ((mayG V ls && capsB ls f) = (mayG V ls && ratesB (ownC ls) f)) := by rw [Hid, own_caps]
  clear h hy
  go_enter Try.func10, Try.ntmps10
  go_wp2_with fail
  refine (RMay_any V A n c ls _ (HR.out.grown hB HG0.out)).mono ?_
  rintro e w1 ⟨rfl, k⟩
  obtain ⟨g1, ob⟩ := box1 [.int .i64 V, .slice A n c] k
  have G := Lib.hid g1
  have OB := Lib.hid ob
  clear k ob g1 HG0
  obtain ⟨p0, p1⟩ := OB.out.two
  cases hm : mayG V ls
  · have E : Hid ((mayG V ls && capsB ls f) = false) := by rw [Hid, hm]; rfl
    clear HE hm
    go_wp2
    go_ret
    exact ⟨ret_bool E.out, G.out⟩
  have h16 := may_small hm
  rw [HL.out] at h16
  have OKO := Lib.hid (own_ok (HR.out.grown hB G.out))
  have HM := Lib.hid hm
  clear hm
  go_wp2_with fail
  refine (ROwn_any V A n c ls _ (HR.out.grown hB G.out) (by omega)).mono ?_
  rintro e w2 ⟨v, rfl, mo, k⟩
  obtain ⟨Ao, co, rfl, _, _, ro⟩ := mo.rowN OKO.out
  have RO := Lib.hid ro
  have G := Lib.hid (grown_trans G.out k)
  clear k mo ro p0 p1 OB
  go_wp2_with fail
  refine (RWithin_any Ao n co (ownC ls) Y m e0 f _ RO.out (HY.out.grown hB' G.out)).mono ?_
  rintro e w3 ⟨rfl, k⟩
  have G := Lib.hid (grown_trans G.out k)
  have E : Hid ((mayG V ls && capsB ls f) = ratesB (ownC ls) f) := by rw [Hid, HE.out, HM.out]; rfl
  clear k
  go_wp2
  go_ret
  exact ⟨ret_bool E.out, G.out⟩

end Go.Proofs.Ytefgnaldiggnnaa
