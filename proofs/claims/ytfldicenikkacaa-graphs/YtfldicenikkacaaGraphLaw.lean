/-
  The law Graphs, walked.
-/
import Derived.Test.YtfldicenikkacaaGraphG
namespace Go.Proofs.Ytfldicenikkacaa
open Go.RowKit

theorem held4 {w w1 : World} {k k1 : Nat} {x0 x1 x2 x3 : Value} (g : w.grownBy w1 none) (h : (fun w' : World => w'.cell? ⟨k, 0, none⟩ = some x0 ∧ w'.cell? ⟨k, 1, none⟩ = some x1 ∧ w'.cell? ⟨k1, 0, none⟩ = some x2 ∧ w'.cell? ⟨k1, 1, none⟩ = some x3) w) :
    (fun w' : World => w'.cell? ⟨k, 0, none⟩ = some x0 ∧ w'.cell? ⟨k, 1, none⟩ = some x1 ∧ w'.cell? ⟨k1, 0, none⟩ = some x2 ∧ w'.cell? ⟨k1, 1, none⟩ = some x3) w1 :=
  ⟨kept g h.1, kept g h.2.1, kept g h.2.2.1, kept g h.2.2.2⟩

theorem Mine.own_lt {w : World} {base : Nat} {v : Value} {n : Nat} {xs : List Int} (h : Mine w base v n xs) : ∀ k, v.ownBlock = some k → k < w.heap.size := by
  intro k hk
  rcases h.2 with ⟨rfl, _⟩ | ⟨g, cap, cur, rfl, hb, hh, _⟩
  · simp [Value.ownBlock] at hk
  · simp only [Value.ownBlock, Option.some.injEq] at hk
    subst hk
    exact (Array.getElem?_eq_some_iff.1 hh).1

theorem Mine.kept' {w w' : World} {base : Nat} {v : Value} {n : Nat} {xs : List Int} {row : Option Nat} (h : Mine w base v n xs) (k : w.grownBy w' row) (hne : ∀ g, v.ownBlock = some g → row ≠ some g) : Mine w' base v n xs := by
  obtain ⟨h1, h2⟩ := h
  refine ⟨h1, ?_⟩
  rcases h2 with h | ⟨g, cap, cur, hv, hg, hh, r⟩
  · exact .inl h
  · exact .inr ⟨g, cap, cur, hv, hg, (k.block g (Array.getElem?_eq_some_iff.1 hh).1 (fun e => hne g (by rw [hv]; rfl) e.symm)).trans hh, r⟩

theorem Lks.grown' {w w' : World} {B : Nat} {A : Option Addr} {n : Nat} {ls : List Lk} {row : Option Nat} (h : Lks w B A n ls) (hB : B ≤ w.heap.size) (k : w.grownBy w' row) (hr : ∀ g, row = some g → B ≤ g) : Lks w' B A n ls :=
  ⟨h.row.keep fun p hp => grown_cell k (by omega) (fun e => by have := hr _ e; omega), h.ok⟩

theorem same_says {f : FuncId} {args : Array Value} {w : World} {q : Bool} (h : Calls Try.prog f args w (SamePost w q)) : Calls Try.prog f args w (Says w (.bool q)) :=
  h.mono fun _ _ ⟨he, j, hw⟩ => ⟨he, hw ▸ grown_drewN (World.grownBy.refl w none) j⟩

theorem num_says (x : Int) (w : World) : Calls Try.prog 25 #[.int .i64 x] w (Says w (.int .i64 x)) :=
  (Num0_any x w).mono fun _ _ ⟨he, hw⟩ => ⟨he, hw ▸ World.grownBy.refl w none⟩

theorem grown_more {a b c : World} {row : Option Nat} (h : a.grownBy b none) (k : b.grownBy c row) : a.grownBy c row :=
  ⟨k.os.trans h.os, k.tape.trans h.tape, k.output.trans h.output, Nat.le_trans h.size k.size, fun i hi hne => (k.block i (Nat.lt_of_lt_of_le hi h.size) hne).trans (h.block i hi (by simp))⟩

theorem sameB_refl (xs : List Int) : sameB xs xs = true := by simp [sameB]

set_option maxHeartbeats 4000000 in
theorem Graphs_walk (V : Int) (A : Option Addr) (n c : Nat) (ls : List Lk) (v : Int) (w : World) (h : InG w A n c ls) :
    Calls Try.prog 3 #[.agg #[.int .i64 V, .slice A n c], .int .i64 v] w (LawPost w) := by
  obtain ⟨hs, hnc, hc, hnil⟩ := h
  have HR := Lib.hid hs
  have HNIL := Lib.hid hnil
  have HR1 := Lib.hid (hs.grown (Nat.le_refl _) (grow0 w (.cells #[.int .i64 V, .slice A n c] 24)))
  clear hs hnil
  go_enter Try.func3, Try.ntmps3
  go_wp2_with fail
  refine (CopyGraph_any V A n c ls _ HR1.out (by simp) HNIL.out (by omega)).mono ?_
  rintro e w1 ⟨x, rfl, hm, k1⟩
  obtain ⟨g1, ob⟩ := box1 [.int .i64 V, .slice A n c] k1
  obtain ⟨A1, c1, rfl, _, _, hrow⟩ := hm.row
  have b1 := ob.lt
  have k2 := grow0 w1 (.cells #[.int .i64 V, .slice A1 n c1] 24)
  have hlx : Lks w1 w1.heap.size A1 n ls := ⟨hrow, HR.out.ok⟩
  have LX := Lib.hid (hlx.grown (Nat.le_refl _) k2)
  have G := Lib.hid (grown_trans g1 k2)
  have OB := Lib.hid (ob.kept k2)
  have OX := Lib.hid (Own.new w1 24 [.int .i64 V, .slice A1 n c1])
  clear k1 k2 g1 ob hm hrow hlx HR1
  go_wp2_with fail
  refine (GOut_any V v A1 n c1 ls _ LX.out (by simp)).mono ?_
  rintro e w2 ⟨va, rfl, ha, k⟩
  have s2 : w1.heap.size + 1 ≤ w2.heap.size := by have := k.size; simpa using this
  have hba := ha.own_ge
  have hla := ha.own_lt
  rw [World.size_alloc] at hba
  have MA := Lib.hid ha
  have LX := Lib.hid (LX.out.grown (by simp) k)
  have G := Lib.hid (grown_trans G.out k)
  have OB := Lib.hid (OB.out.kept k)
  have OX := Lib.hid (OX.out.kept k)
  clear ha k
  obtain ⟨p0, p1⟩ := OB.out.two
  obtain ⟨q0, q1⟩ := OX.out.two
  go_wp2_with fail
  refine (ROut_any V v A n c ls _ (HR.out.grown (Nat.le_refl _) G.out) G.out.size).mono ?_
  rintro e w3 ⟨vb, rfl, hb, k⟩
  have s3 := k.size
  have MA := Lib.hid (MA.out.kept k)
  have MB := Lib.hid hb
  have LX := Lib.hid (LX.out.grown (by omega) k)
  have G := Lib.hid (grown_trans G.out k)
  have OB := Lib.hid (OB.out.kept k)
  have OX := Lib.hid (OX.out.kept k)
  clear hb k p0 p1 q0 q1
  obtain ⟨p0, p1⟩ := OB.out.two
  obtain ⟨q0, q1⟩ := OX.out.two
  go_wp2_with fail
  refine (GIn_any V v A1 n c1 ls _ LX.out (by omega)).mono ?_
  rintro e w4 ⟨vc, rfl, hcc, k⟩
  have s4 := k.size
  have hbc := hcc.own_ge
  have MA := Lib.hid (MA.out.kept k)
  have MB := Lib.hid (MB.out.kept k)
  have MC := Lib.hid hcc
  have LX := Lib.hid (LX.out.grown (by omega) k)
  have G := Lib.hid (grown_trans G.out k)
  have OB := Lib.hid (OB.out.kept k)
  have OX := Lib.hid (OX.out.kept k)
  clear hcc k p0 p1 q0 q1
  obtain ⟨p0, p1⟩ := OB.out.two
  obtain ⟨q0, q1⟩ := OX.out.two
  go_wp2_with fail
  refine (RIn_any V v A n c ls _ (HR.out.grown (Nat.le_refl _) G.out) G.out.size).mono ?_
  rintro e w5 ⟨vd, rfl, hd, k⟩
  have s5 := k.size
  have MA := Lib.hid (MA.out.kept k)
  have MB := Lib.hid (MB.out.kept k)
  have MC := Lib.hid (MC.out.kept k)
  have MD := Lib.hid hd
  have LX := Lib.hid (LX.out.grown (by omega) k)
  have G := Lib.hid (grown_trans G.out k)
  have OB := Lib.hid (OB.out.kept k)
  have OX := Lib.hid (OX.out.kept k)
  clear hd k p0 p1 q0 q1
  obtain ⟨p0, p1⟩ := OB.out.two
  obtain ⟨q0, q1⟩ := OX.out.two
  go_wp2_with fail
  refine (GTotal_any V A1 n c1 ls _ LX.out).mono ?_
  rintro e w6 ⟨rfl, k⟩
  have s6 := k.size
  have MA := Lib.hid (MA.out.kept k)
  have MB := Lib.hid (MB.out.kept k)
  have MC := Lib.hid (MC.out.kept k)
  have MD := Lib.hid (MD.out.kept k)
  have LX := Lib.hid (LX.out.grown (by omega) k)
  have G := Lib.hid (grown_trans G.out k)
  have OB := Lib.hid (OB.out.kept k)
  have OX := Lib.hid (OX.out.kept k)
  clear k p0 p1 q0 q1
  obtain ⟨p0, p1⟩ := OB.out.two
  obtain ⟨q0, q1⟩ := OX.out.two
  unfold totV
  go_wp2_with fail
  refine (RTotal_any V A n c ls _ (HR.out.grown (Nat.le_refl _) G.out) G.out.size).mono ?_
  rintro e w7 ⟨rfl, k⟩
  have s7 := k.size
  have MA := Lib.hid (MA.out.kept k)
  have MB := Lib.hid (MB.out.kept k)
  have MC := Lib.hid (MC.out.kept k)
  have MD := Lib.hid (MD.out.kept k)
  have LX := Lib.hid (LX.out.grown (by omega) k)
  have G := Lib.hid (grown_trans G.out k)
  have OB := Lib.hid (OB.out.kept k)
  have OX := Lib.hid (OX.out.kept k)
  clear k p0 p1 q0 q1
  obtain ⟨p0, p1⟩ := OB.out.two
  obtain ⟨q0, q1⟩ := OX.out.two
  unfold totV
  have okA := selOf_ok (fun l => l.1) V ls v
  have okC := selOf_ok (fun l => l.2.1) V ls v
  generalize selOf (fun l => l.1) V ls v = xa at *
  generalize selOf (fun l => l.2.1) V ls v = xc at *
  generalize selE V ls v = z at *
  generalize totX V ls = tx at *
  generalize totE V ls = te at *
  obtain ⟨Aa, ca, rfl, _, ra⟩ := MA.out.row okA
  obtain ⟨Ab, cb, rfl, _, rb⟩ := MB.out.row okA
  obtain ⟨Ac, cc, rfl, _, rc⟩ := MC.out.row okC
  obtain ⟨Ad, cd, rfl, _, rd⟩ := MD.out.row okC
  have C1 : Hid (∀ wx : World, w7.grownBy wx none → Calls Try.prog 22 #[.agg #[.int .i64 V, .slice A1 n c1]] wx (Says wx (.bool (mayG V ls)))) := fun wx k => GMay_any V A1 n c1 ls wx (LX.out.grown (by omega) k) (by have := k.size; omega)
  have HG7 := Lib.hid (HR.out.grown (Nat.le_refl _) G.out)
  have G7s := G.out.size
  have C2 : Hid (∀ wx : World, w7.grownBy wx none → Calls Try.prog 23 #[.agg #[.int .i64 V, .slice A n c]] wx (Says wx (.bool (mayG V ls)))) := fun wx k => RMay_any V A n c ls wx (HG7.out.grown G7s k)
  have C3 : Hid (∀ wx : World, w7.grownBy wx none → Calls Try.prog 24 #[.slice Aa xa.length ca, .slice Ab xa.length cb] wx (Says wx (.bool true))) := fun wx k => sameB_refl xa ▸ same_says (SameInts0_any Aa xa.length ca xa Ab xa.length cb xa wx (ra.grown (Nat.le_refl _) k) (rb.grown (Nat.le_refl _) k))
  have C4 : Hid (∀ wx : World, w7.grownBy wx none → Calls Try.prog 24 #[.slice Ac xc.length cc, .slice Ad xc.length cd] wx (Says wx (.bool true))) := fun wx k => sameB_refl xc ▸ same_says (SameInts0_any Ac xc.length cc xc Ad xc.length cd xc wx (rc.grown (Nat.le_refl _) k) (rd.grown (Nat.le_refl _) k))
  clear ra rb rc rd okA okC HG7
  generalize mayG V ls = m at *
  have hS : (fun w' : World => w'.cell? ⟨w.heap.size, 0, none⟩ = some (.int .i64 V) ∧ w'.cell? ⟨w.heap.size, 1, none⟩ = some (.slice A n c) ∧ w'.cell? ⟨w1.heap.size, 0, none⟩ = some (.int .i64 V) ∧ w'.cell? ⟨w1.heap.size, 1, none⟩ = some (.slice A1 n c1)) w7 := ⟨p0, p1, q0, q1⟩
  have HS := Lib.hid hS
  have GK := Lib.hid (World.grownBy.refl w7 none)
  clear hS
  go_upto_region 8 with fail
  go_region_held3 (fun w' : World => w'.cell? ⟨w.heap.size, 0, none⟩ = some (.int .i64 V) ∧ w'.cell? ⟨w.heap.size, 1, none⟩ = some (.slice A n c) ∧ w'.cell? ⟨w1.heap.size, 0, none⟩ = some (.int .i64 V) ∧ w'.cell? ⟨w1.heap.size, 1, none⟩ = some (.slice A1 n c1))
    (exact HS.out)
    (first
      | (go_at_call 22; refine (C1.out _ (by first | exact GK.out | exact grown_drew GK.out | exact grown_drewN GK.out _)).mono ?_; rintro e w8 ⟨rfl, g⟩; have GK : Hid (w7.grownBy w8 none) := (by first | exact grown_trans GK.out g | exact grown_trans (grown_drew GK.out) g | exact grown_trans (grown_drewN GK.out _) g); have HS := Lib.hid (held4 g HS.out); clear g)
      | (go_at_call 23; refine (C2.out _ (by first | exact GK.out | exact grown_drew GK.out | exact grown_drewN GK.out _)).mono ?_; rintro e w8 ⟨rfl, g⟩; have GK : Hid (w7.grownBy w8 none) := (by first | exact grown_trans GK.out g | exact grown_trans (grown_drew GK.out) g | exact grown_trans (grown_drewN GK.out _) g); have HS := Lib.hid (held4 g HS.out); clear g)
      | (go_at_call 24; refine (C3.out _ (by first | exact GK.out | exact grown_drew GK.out | exact grown_drewN GK.out _)).mono ?_; rintro e w8 ⟨rfl, g⟩; have GK : Hid (w7.grownBy w8 none) := (by first | exact grown_trans GK.out g | exact grown_trans (grown_drew GK.out) g | exact grown_trans (grown_drewN GK.out _) g); have HS := Lib.hid (held4 g HS.out); clear g)
      | (go_at_call 24; refine (C4.out _ (by first | exact GK.out | exact grown_drew GK.out | exact grown_drewN GK.out _)).mono ?_; rintro e w8 ⟨rfl, g⟩; have GK : Hid (w7.grownBy w8 none) := (by first | exact grown_trans GK.out g | exact grown_trans (grown_drew GK.out) g | exact grown_trans (grown_drewN GK.out _) g); have HS := Lib.hid (held4 g HS.out); clear g)
      | (go_at_call 25; refine (num_says _ _).mono ?_; rintro e w8 ⟨rfl, g⟩; have GK : Hid (w7.grownBy w8 none) := (by first | exact grown_trans GK.out g | exact grown_trans (grown_drew GK.out) g | exact grown_trans (grown_drewN GK.out _) g); have HS := Lib.hid (held4 g HS.out); clear g))
  go_wp2_with fail
  refine (SpoilInts_any (.slice Aa xa.length ca) xa.length xa _ (by first | exact MA.out.kept GK.out | exact MA.out.kept (grown_drew GK.out))).mono ?_
  rintro e w9 ⟨rfl, k⟩
  have k9 : w7.grownBy w9 (Value.slice Aa xa.length ca).ownBlock := by first | exact grown_more GK.out k | exact grown_more (grown_drew GK.out) k
  have s9 := k9.size
  have G := Lib.hid (grown_none G.out k9 (fun g hg => by have := hba g hg; omega))
  have LX := Lib.hid (LX.out.grown' (by omega) k9 (fun g hg => by have := hba g hg; omega))
  have OB := Lib.hid (OB.out.kept' k9 (fun hg => by have := hba _ hg; omega))
  have OX := Lib.hid (OX.out.kept' k9 (fun hg => by have := hba _ hg; omega))
  have MC := Lib.hid (MC.out.kept' k9 (fun g hg e => by have := hla _ e; have := hbc _ hg; omega))
  clear k k9 GK HS p0 p1 q0 q1 C1 C2 C3 C4
  go_wp2_with fail
  refine (SpoilInts_any (.slice Ac xc.length cc) xc.length xc _ MC.out).mono ?_
  rintro e w10 ⟨rfl, k⟩
  have s10 := k.size
  have G := Lib.hid (grown_none G.out k (fun g hg => by have := hbc g hg; omega))
  have LX := Lib.hid (LX.out.grown' (by omega) k (fun g hg => by have := hbc g hg; omega))
  have OB := Lib.hid (OB.out.kept' k (fun hg => by have := hbc _ hg; omega))
  have OX := Lib.hid (OX.out.kept' k (fun hg => by have := hbc _ hg; omega))
  clear k
  go_wp2_with fail
  refine (awake_any _).mono ?_
  rintro e w11 ⟨rfl, k⟩
  have G := Lib.hid (grown_trans G.out k)
  have LX := Lib.hid (LX.out.grown (by omega) k)
  have OB := Lib.hid (OB.out.kept k)
  have OX := Lib.hid (OX.out.kept k)
  clear k
  obtain ⟨p0, p1⟩ := OB.out.two
  obtain ⟨q0, q1⟩ := OX.out.two
  go_wp2_with fail
  refine (SameGraph_same V A1 A n c1 c ls _ LX.out (HR.out.grown (Nat.le_refl _) G.out)).mono ?_
  rintro e w12 ⟨rfl, k⟩
  have G := Lib.hid (grown_trans G.out k)
  clear k
  go_wp2
  go_ret
  exact ⟨rfl, below_of G.out⟩

end Go.Proofs.Ytfldicenikkacaa
