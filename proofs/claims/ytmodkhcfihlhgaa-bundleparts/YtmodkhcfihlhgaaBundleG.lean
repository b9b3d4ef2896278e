/-
  small and awake of layer 7.
-/
import Derived.Test.YtmodkhcfihlhgaaBundleF
namespace Go.Proofs.Ytmodkhcfihlhgaa
open Go.RowKit

theorem small7_any (w : World) : Calls Try.prog 31 #[] w (SmallPost w) := by
  have HB := Lib.hid (box2 (w := w) (T := 24) (U := 87) [.int .i64 3, .slice (some ⟨w.heap.size + 1, 0, none⟩) 3 3] smallV (World.grownBy.refl _ none))
  go_enter Try.func31, Try.ntmps31
  go_wp2
  obtain ⟨g, o1, o2⟩ := HB.out
  exact post_graph rfl rfl o1.two.1 o1.two.2 rfl ⟨w.heap.size + 1, rfl, small_flat ▸ o2, by omega, g⟩

/-- Blocks that are known whole. -/
def St (w : World) (os : List (Nat × TypeId × List Value)) : Prop := ∀ o ∈ os, Own w o.1 o.2.1 o.2.2

theorem St.kept {w w' : World} {os : List (Nat × TypeId × List Value)} (h : St w os) (k : w.grownBy w' none) : St w' os := fun o ho => (h o ho).kept k
theorem St.cons {w : World} {os : List (Nat × TypeId × List Value)} {g : Nat} {T : TypeId} {vs : List Value} (h : St w os) (o : Own w g T vs) : St w ((g, T, vs) :: os) := by
  intro x hx
  rcases List.mem_cons.1 hx with rfl | hx
  · exact o
  · exact h x hx
theorem St.lit {w : World} {os : List (Nat × TypeId × List Value)} {vs : Array Value} {T : TypeId} (h : St w os) : St (w.alloc (.cells vs T)) ((w.heap.size, T, vs.toList) :: os) :=
  (h.kept (grow0 _ _)).cons (by have := Own.new w T vs.toList; simpa using this)
theorem St.nil (w : World) : St w [] := fun _ h => by cases h

theorem Own.row {w : World} {g n : Nat} (xs : List Int) (h : Own w g 3 (ints xs)) (hn : n = xs.length) (hl : xs.length ≤ 1000) (hok : xs.all bdB = true) : Row w (g + 1) (some ⟨g, 0, none⟩) n xs := by
  subst hn
  refine ⟨rfl, by omega, ok_of hok, fun _ => ⟨g, 0, rfl, by omega, fun i hi => ?_⟩⟩
  rw [Nat.zero_add, h.cell i, ints_get xs i hi]

theorem pths1 {w : World} {g b1 n1 : Nat} {r1 : Int} {x1 : List Int} (h : Own w g 51 [.int .i64 r1, .slice (some ⟨b1, 0, none⟩) n1 n1]) (h1 : Own w b1 3 (ints x1)) (e1 : n1 = x1.length) (l1 : x1.length ≤ 1000) (k1 : x1.all bdB = true) (q1 : bdB r1 = true) :
    Pths w w.heap.size (some ⟨g, 0, none⟩) 1 [(r1, x1)] := by
  refine ⟨rfl, by omega, fun i => ?_, fun i hi => ?_⟩
  · rcases i with _ | i
    · exact bdB_ok q1
    · simp [rt, at2, bd64]
  · obtain rfl : i = 0 := by omega
    exact ⟨g, 0, _, _, _, rfl, h.lt, h.cell 0, h.cell 1, (Own.row x1 h1 e1 l1 k1).wide h1.lt⟩

theorem pths2 {w : World} {g b1 b2 n1 n2 : Nat} {r1 r2 : Int} {x1 x2 : List Int} (h : Own w g 51 [.int .i64 r1, .slice (some ⟨b1, 0, none⟩) n1 n1, .int .i64 r2, .slice (some ⟨b2, 0, none⟩) n2 n2]) (h1 : Own w b1 3 (ints x1)) (h2 : Own w b2 3 (ints x2))
    (e1 : n1 = x1.length) (e2 : n2 = x2.length) (l1 : x1.length ≤ 1000) (l2 : x2.length ≤ 1000) (k1 : x1.all bdB = true) (k2 : x2.all bdB = true) (q1 : bdB r1 = true) (q2 : bdB r2 = true) :
    Pths w w.heap.size (some ⟨g, 0, none⟩) 2 [(r1, x1), (r2, x2)] := by
  refine ⟨rfl, by omega, fun i => ?_, fun i hi => ?_⟩
  · rcases i with _ | _ | i
    · exact bdB_ok q1
    · exact bdB_ok q2
    · simp [rt, at2, bd64]
  · rcases i with _ | _ | i
    · exact ⟨g, 0, _, _, _, rfl, h.lt, h.cell 0, h.cell 1, (Own.row x1 h1 e1 l1 k1).wide h1.lt⟩
    · exact ⟨g, 0, _, _, _, rfl, h.lt, h.cell 2, h.cell 3, (Own.row x2 h2 e2 l2 k2).wide h2.lt⟩
    · omega

def psA : List Pth := [(4, [0, 1]), (2, [2])]
theorem bundle_small : loadsV 3 smallL psA = [4, 4, 2] ∧ loadsE 3 smallL psA = 0 ∧ fitV 3 smallL [5, 4, 3] psA = .tuple #[.bool true, .int .i64 0] ∧ fitV 3 smallL [5, 3, 3] psA = .tuple #[.bool false, .int .i64 0] ∧ loadsE 3 smallL [(1, [3])] = 700 ∧ bmay 3 smallL 0 2 6 psA = true ∧ bmay 3 smallL 0 2 5 psA = false := by
  refine ⟨by decide, by decide, ?_, ?_, by decide, by decide, by decide⟩
  · have a : fitsV 3 smallL [5, 4, 3] psA = true := by decide
    have b : fitsE 3 smallL [5, 4, 3] psA = 0 := by decide
    rw [fitV, a, b]
  · have a : fitsV 3 smallL [5, 3, 3] psA = false := by decide
    have b : fitsE 3 smallL [5, 3, 3] psA = 0 := by decide
    rw [fitV, a, b]

def osA (b1 b2 bp bq : Nat) : List (Nat × TypeId × List Value) :=
  [(bq, 51, [.int .i64 2, .slice (some ⟨b2, 0, none⟩) 1 1]), (bp, 51, [.int .i64 4, .slice (some ⟨b1, 0, none⟩) 2 2]), (b2, 3, ints [2]), (b1, 3, ints [0, 1])]

theorem start7 (w : World) : St ((((w.alloc (.cells #[.int .i64 0, .int .i64 1] 3)).alloc (.cells #[.int .i64 2] 3)).alloc (.cells #[.int .i64 4, .slice (some ⟨w.heap.size, 0, none⟩) 2 2] 51)).alloc (.cells #[.int .i64 2, .slice (some ⟨w.heap.size + 1, 0, none⟩) 1 1] 51))
    (osA w.heap.size (w.heap.size + 1) (w.heap.size + 1 + 1) (w.heap.size + 1 + 1 + 1)) := by
  have h := St.lit (vs := #[.int .i64 2, .slice (some ⟨w.heap.size + 1, 0, none⟩) 1 1]) (T := 51) (St.lit (vs := #[.int .i64 4, .slice (some ⟨w.heap.size, 0, none⟩) 2 2]) (T := 51) (St.lit (vs := #[.int .i64 2]) (T := 3) (St.lit (vs := #[.int .i64 0, .int .i64 1]) (T := 3) (St.nil w))))
  simp only [World.size_alloc] at h
  exact h

/-- What awake carries from world to world. -/
structure SA (w0 : World) (b1 b2 bp bq : Nat) (w : World) (os : List (Nat × TypeId × List Value)) : Prop where
  g : w0.grownBy w none
  st : St w (os ++ osA b1 b2 bp bq)

theorem SA.kept {w0 w w' : World} {b1 b2 bp bq : Nat} {os : List (Nat × TypeId × List Value)} (h : SA w0 b1 b2 bp bq w os) (k : w.grownBy w' none) : SA w0 b1 b2 bp bq w' os := ⟨grown_trans h.g k, h.st.kept k⟩
theorem SA.drew {w0 w : World} {b1 b2 bp bq : Nat} {os : List (Nat × TypeId × List Value)} (h : SA w0 b1 b2 bp bq w os) : SA w0 b1 b2 bp bq w.drew os := h.kept (grown_drew (World.grownBy.refl w none))
theorem SA.lit {w0 w : World} {b1 b2 bp bq : Nat} {os : List (Nat × TypeId × List Value)} {vs : Array Value} {T : TypeId} (h : SA w0 b1 b2 bp bq w os) : SA w0 b1 b2 bp bq (w.alloc (.cells vs T)) ((w.heap.size, T, vs.toList) :: os) := ⟨grown_alloc h.g _, h.st.lit⟩
theorem SA.cons {w0 w : World} {b1 b2 bp bq : Nat} {os : List (Nat × TypeId × List Value)} {g : Nat} {T : TypeId} {vs : List Value} (h : SA w0 b1 b2 bp bq w os) (o : Own w g T vs) : SA w0 b1 b2 bp bq w ((g, T, vs) :: os) := ⟨h.g, h.st.cons o⟩
theorem SA.less {w0 w : World} {b1 b2 bp bq : Nat} {os : List (Nat × TypeId × List Value)} (h : SA w0 b1 b2 bp bq w os) : SA w0 b1 b2 bp bq w [] := ⟨h.g, fun o ho => h.st o (List.mem_append_right _ ho)⟩
theorem SA.own {w0 w : World} {b1 b2 bp bq : Nat} {os : List (Nat × TypeId × List Value)} {g : Nat} {T : TypeId} {vs : List Value} (h : SA w0 b1 b2 bp bq w os) (m : (g, T, vs) ∈ os) : Own w g T vs := h.st (g, T, vs) (List.mem_append_left _ m)

theorem SA.cellsA {w0 w : World} {b1 b2 bp bq : Nat} {os : List (Nat × TypeId × List Value)} (h : SA w0 b1 b2 bp bq w os) : (fun w' : World => w'.cell? ⟨bp, 0, none⟩ = some (.int .i64 4) ∧ w'.cell? ⟨bp, 1, none⟩ = some (.slice (some ⟨b1, 0, none⟩) 2 2) ∧ w'.cell? ⟨bq, 0, none⟩ = some (.int .i64 2) ∧ w'.cell? ⟨bq, 1, none⟩ = some (.slice (some ⟨b2, 0, none⟩) 1 1)) w := by
  have h1 : Own w bp 51 [.int .i64 4, .slice (some ⟨b1, 0, none⟩) 2 2] := h.st (bp, _, _) (by simp [osA])
  have h2 : Own w bq 51 [.int .i64 2, .slice (some ⟨b2, 0, none⟩) 1 1] := h.st (bq, _, _) (by simp [osA])
  exact ⟨h1.two.1, h1.two.2, h2.two.1, h2.two.2⟩

def litA (b1 b2 g : Nat) : Nat × TypeId × List Value := (g, 51, [.int .i64 4, .slice (some ⟨b1, 0, none⟩) 2 2, .int .i64 2, .slice (some ⟨b2, 0, none⟩) 1 1])

theorem SA.paths {w0 w : World} {b1 b2 bp bq g : Nat} {os : List (Nat × TypeId × List Value)} (h : SA w0 b1 b2 bp bq w os) (m : (g, 51, [.int .i64 4, .slice (some ⟨b1, 0, none⟩) 2 2, .int .i64 2, .slice (some ⟨b2, 0, none⟩) 1 1]) ∈ os) : Pths w w.heap.size (some ⟨g, 0, none⟩) 2 psA :=
  pths2 (h.own m) (x1 := [0, 1]) (x2 := [2]) (h.st (b1, 3, ints [0, 1]) (by simp [osA])) (h.st (b2, 3, ints [2]) (by simp [osA])) rfl rfl (by decide) (by decide) (by decide) (by decide) (by decide) (by decide)

theorem LoadsA {w0 w : World} {b1 b2 bp bq gs gl : Nat} {os : List (Nat × TypeId × List Value)} (h : SA w0 b1 b2 bp bq w os) (ms : (gs, 87, linkE.flat smallL) ∈ os) (ml : (gl, 51, [.int .i64 4, .slice (some ⟨b1, 0, none⟩) 2 2, .int .i64 2, .slice (some ⟨b2, 0, none⟩) 1 1]) ∈ os) :
    Calls Try.prog 17 #[.agg #[.int .i64 3, .slice (some ⟨gs, 0, none⟩) 3 3], .slice (some ⟨gl, 0, none⟩) 2 2] w (SelPost w [4, 4, 2] 0) := by
  have := Loads_any 3 (some ⟨gs, 0, none⟩) 3 3 smallL (some ⟨gl, 0, none⟩) 2 2 psA w ((h.own ms).lks smallL 3 rfl (by decide) rfl) (h.own ms).lt (h.paths ml) (Nat.le_refl _)
  rwa [bundle_small.1, bundle_small.2.1] at this

theorem FitsA {w0 w : World} {b1 b2 bp bq gs gl gc : Nat} {os : List (Nat × TypeId × List Value)} (caps : List Int) (hc : caps.length = 3) (hb : caps.all bdB = true) (q : Bool) (hq : fitV 3 smallL caps psA = .tuple #[.bool q, .int .i64 0]) (h : SA w0 b1 b2 bp bq w os) (ms : (gs, 87, linkE.flat smallL) ∈ os) (ml : (gl, 51, [.int .i64 4, .slice (some ⟨b1, 0, none⟩) 2 2, .int .i64 2, .slice (some ⟨b2, 0, none⟩) 1 1]) ∈ os) (mc : (gc, 3, ints caps) ∈ os) :
    Calls Try.prog 28 #[.agg #[.int .i64 3, .slice (some ⟨gs, 0, none⟩) 3 3], .slice (some ⟨gc, 0, none⟩) 3 3, .slice (some ⟨gl, 0, none⟩) 2 2] w (Says w (.tuple #[.bool q, .int .i64 0])) := by
  have := Fits_any 3 (some ⟨gs, 0, none⟩) 3 3 smallL (some ⟨gc, 0, none⟩) 3 3 caps (some ⟨gl, 0, none⟩) 2 2 psA w ((h.own ms).lks smallL 3 rfl (by decide) rfl) (h.own ms).lt (Own.row caps (h.own mc) hc.symm (by omega) hb) (h.own mc).lt (h.paths ml) (Nat.le_refl _) (by omega)
  rwa [hq] at this

theorem BMayA {w0 w : World} {b1 b2 bp bq gs gl : Nat} {os : List (Nat × TypeId × List Value)} {R : Int} (h : SA w0 b1 b2 bp bq w os) (ms : (gs, 87, linkE.flat smallL) ∈ os) (ml : (gl, 51, [.int .i64 4, .slice (some ⟨b1, 0, none⟩) 2 2, .int .i64 2, .slice (some ⟨b2, 0, none⟩) 1 1]) ∈ os) :
    Calls Try.prog 21 #[.agg #[.int .i64 3, .slice (some ⟨gs, 0, none⟩) 3 3], .int .i64 0, .int .i64 2, .int .i64 R, .slice (some ⟨gl, 0, none⟩) 2 2] w (Says w (.bool (bmay 3 smallL 0 2 R psA))) :=
  BMay_any 3 0 2 R (some ⟨gs, 0, none⟩) 3 3 smallL (some ⟨gl, 0, none⟩) 2 2 psA w ((h.own ms).lks smallL 3 rfl (by decide) rfl) (h.own ms).lt (h.paths ml) (Nat.le_refl _)

theorem LoadsB {w0 w : World} {b1 b2 bp bq gs gl gx : Nat} {os : List (Nat × TypeId × List Value)} (h : SA w0 b1 b2 bp bq w os) (ms : (gs, 87, linkE.flat smallL) ∈ os) (ml : (gl, 51, [.int .i64 1, .slice (some ⟨gx, 0, none⟩) 1 1]) ∈ os) (mx : (gx, 3, ints [3]) ∈ os) :
    Calls Try.prog 17 #[.agg #[.int .i64 3, .slice (some ⟨gs, 0, none⟩) 3 3], .slice (some ⟨gl, 0, none⟩) 1 1] w (SelPost w (loadsV 3 smallL [(1, [3])]) 700) := by
  have := Loads_any 3 (some ⟨gs, 0, none⟩) 3 3 smallL (some ⟨gl, 0, none⟩) 1 1 [(1, [3])] w ((h.own ms).lks smallL 3 rfl (by decide) rfl) (h.own ms).lt (pths1 (h.own ml) (h.own mx) rfl (by decide) (by decide) (by decide)) (Nat.le_refl _)
  rwa [bundle_small.2.2.2.2.1] at this

theorem SameA {w0 w wz : World} {b1 b2 bp bq g c : Nat} {A : Option Addr} {os : List (Nat × TypeId × List Value)} {xs : List Int} {n B : Nat} (r : Row wz B A n xs) (h : SA w0 b1 b2 bp bq w os) (hB : B ≤ wz.heap.size) (hw : wz.grownBy w none) (m : (g, 3, ints xs) ∈ os) (hn : n = xs.length) (hl : xs.length ≤ 1000) (hb : xs.all bdB = true) :
    Calls Try.prog 19 #[.slice A n c, .slice (some ⟨g, 0, none⟩) n n] w (Says w (.bool true)) :=
  sameB_refl xs ▸ same_says (SameInts0_any A n c xs _ n n xs w (r.grown hB hw) (Own.row xs (h.own m) hn hl hb))

def MidA (w0 : World) (b1 b2 bp bq : Nat) (a e : Value) (wx : World) : Prop := ∃ A c, a = .slice A 3 c ∧ e = .int .i64 0 ∧ Row wx wx.heap.size A 3 [4, 4, 2] ∧ SA w0 b1 b2 bp bq wx []

def MidB (w0 : World) (b1 b2 bp bq : Nat) (q : Bool) (a e : Value) (wx : World) : Prop := a = .bool q ∧ e = .int .i64 0 ∧ SA w0 b1 b2 bp bq wx []

set_option maxHeartbeats 4000000 in
theorem awake7_any (w : World) : Calls Try.prog 24 #[] w (Says w (.bool true)) := by
  have HST := Lib.hid (start7 w)
  have HG0 : Hid (w.grownBy ((((w.alloc (.cells #[.int .i64 0, .int .i64 1] 3)).alloc (.cells #[.int .i64 2] 3)).alloc (.cells #[.int .i64 4, .slice (some ⟨w.heap.size, 0, none⟩) 2 2] 51)).alloc (.cells #[.int .i64 2, .slice (some ⟨w.heap.size + 1, 0, none⟩) 1 1] 51)) none) := grown_alloc (grown_alloc (grown_alloc (grow0 _ _) _) _) _
  go_enter Try.func24, Try.ntmps24
  go_upto_region 2 with fail
  generalize (((w.alloc (.cells #[.int .i64 0, .int .i64 1] 3)).alloc (.cells #[.int .i64 2] 3)).alloc (.cells #[.int .i64 4, .slice (some ⟨w.heap.size, 0, none⟩) 2 2] 51)).alloc (.cells #[.int .i64 2, .slice (some ⟨w.heap.size + 1, 0, none⟩) 1 1] 51) = w0 at *
  generalize w.heap.size + 1 + 1 + 1 = bq at *
  generalize w.heap.size + 1 + 1 = bp at *
  generalize w.heap.size + 1 = b2 at *
  generalize w.heap.size = b1 at *
  have HS : Hid (SA w0 b1 b2 bp bq w0 []) := ⟨World.grownBy.refl _ _, HST.out⟩
  clear HST
  go_cut [3, 4] from 15 to 22 (fun a e wx => MidA w0 b1 b2 bp bq a e wx)
  case first =>
    go_region_held3 (fun w' : World => w'.cell? ⟨bp, 0, none⟩ = some (.int .i64 4) ∧ w'.cell? ⟨bp, 1, none⟩ = some (.slice (some ⟨b1, 0, none⟩) 2 2) ∧ w'.cell? ⟨bq, 0, none⟩ = some (.int .i64 2) ∧ w'.cell? ⟨bq, 1, none⟩ = some (.slice (some ⟨b2, 0, none⟩) 1 1)) (first | exact HS.out.cellsA | exact HS.out.lit.cellsA | exact HS.out.lit.lit.cellsA | exact HS.out.lit.drew.cellsA | exact HS.out.lit.lit.drew.cellsA | exact HS.out.drew.cellsA)
      (first
        | (go_at_call 31; refine (small7_any _).mono ?_; rintro e w1 ⟨gsw1, rfl, osw1, _, k⟩; (first | (with_reducible have HS' := Lib.hid (HS.out.lit.lit.drew.kept k)) | (with_reducible have HS' := Lib.hid (HS.out.lit.drew.kept k)) | (with_reducible have HS' := Lib.hid (HS.out.drew.kept k)) | (with_reducible have HS' := Lib.hid (HS.out.kept k))); have HS := Lib.hid (HS'.out.cons osw1); clear HS' osw1 k)
        | (go_at_call 17; (first | with_reducible refine (LoadsA HS.out.lit.lit (by simp) (by simp)).mono ?_ | with_reducible refine (LoadsA HS.out.lit (by simp) (by simp)).mono ?_ | with_reducible refine (LoadsA HS.out (by simp) (by simp)).mono ?_); rintro e w2 ⟨va, rfl, ha, k⟩; (first | (with_reducible have HS' := Lib.hid (HS.out.lit.lit.kept k)) | (with_reducible have HS' := Lib.hid (HS.out.lit.kept k)) | (with_reducible have HS' := Lib.hid (HS.out.kept k))); have HS := HS'; clear HS' k; obtain ⟨Aa, ca, rfl, _, ra⟩ := ha.row (ok_of (xs := [4, 4, 2]) (by decide)); have RA := Lib.hid ra; clear ha ra))
    all_goals go_wp2_with fail
    all_goals go_meet
    all_goals exact ⟨_, _, rfl, rfl, RA.out, HS.out.less⟩
  case rest =>
    obtain ⟨Aa, ca, rfl, rfl, ra, hs⟩ := hcut
    have G := Lib.hid (grown_trans HG0.out hs.g)
    have RA := Lib.hid ra
    have HS : Hid (SA wc b1 b2 bp bq wc []) := ⟨World.grownBy.refl _ _, hs.st⟩
    clear HG0 ra hs
    generalize wc = wa at *
    go_upto_region 3 with fail
    go_cut [5, 6] from 23 to 31 (fun a e wx => MidB wa b1 b2 bp bq true a e wx)
    case first =>
      go_region_held3 (fun w' : World => w'.cell? ⟨bp, 0, none⟩ = some (.int .i64 4) ∧ w'.cell? ⟨bp, 1, none⟩ = some (.slice (some ⟨b1, 0, none⟩) 2 2) ∧ w'.cell? ⟨bq, 0, none⟩ = some (.int .i64 2) ∧ w'.cell? ⟨bq, 1, none⟩ = some (.slice (some ⟨b2, 0, none⟩) 1 1)) (first | exact HS.out.cellsA | exact HS.out.lit.cellsA | exact HS.out.lit.lit.cellsA | exact HS.out.lit.drew.cellsA | exact HS.out.lit.lit.drew.cellsA | exact HS.out.drew.cellsA)
        (first
          | (go_at_call 31; refine (small7_any _).mono ?_; rintro e w1 ⟨gsw1, rfl, osw1, _, k⟩; (first | (with_reducible have HS' := Lib.hid (HS.out.lit.lit.drew.kept k)) | (with_reducible have HS' := Lib.hid (HS.out.lit.lit.kept k)) | (with_reducible have HS' := Lib.hid (HS.out.lit.drew.kept k)) | (with_reducible have HS' := Lib.hid (HS.out.lit.kept k)) | (with_reducible have HS' := Lib.hid (HS.out.drew.kept k)) | (with_reducible have HS' := Lib.hid (HS.out.kept k))); have HS := Lib.hid (HS'.out.cons osw1); clear HS' osw1 k)
          | (go_at_call 28; (first | with_reducible refine (FitsA [5, 4, 3] rfl (by decide) true bundle_small.2.2.1 HS.out.lit.lit (by simp) (by simp) (by simp [ints])).mono ?_ | with_reducible refine (FitsA [5, 4, 3] rfl (by decide) true bundle_small.2.2.1 HS.out.lit (by simp) (by simp) (by simp [ints])).mono ?_ | with_reducible refine (FitsA [5, 4, 3] rfl (by decide) true bundle_small.2.2.1 HS.out (by simp) (by simp) (by simp [ints])).mono ?_); rintro e w2 ⟨rfl, k⟩; (first | (with_reducible have HS' := Lib.hid (HS.out.lit.lit.drew.kept k)) | (with_reducible have HS' := Lib.hid (HS.out.lit.lit.kept k)) | (with_reducible have HS' := Lib.hid (HS.out.lit.drew.kept k)) | (with_reducible have HS' := Lib.hid (HS.out.lit.kept k)) | (with_reducible have HS' := Lib.hid (HS.out.drew.kept k)) | (with_reducible have HS' := Lib.hid (HS.out.kept k))); have HS := HS'; clear HS' k))
      all_goals go_wp2_with fail
      all_goals go_meet
      all_goals exact ⟨rfl, rfl, HS.out.less⟩
    case rest =>
      obtain ⟨rfl, rfl, hs⟩ := hcut
      have HS := Lib.hid hs
      clear hs
      generalize wc = wb at *
      go_upto_region 4 with fail
      go_cut [7, 8] from 32 to 40 (fun a e wx => MidB wa b1 b2 bp bq false a e wx)
      case first =>
        go_region_held3 (fun w' : World => w'.cell? ⟨bp, 0, none⟩ = some (.int .i64 4) ∧ w'.cell? ⟨bp, 1, none⟩ = some (.slice (some ⟨b1, 0, none⟩) 2 2) ∧ w'.cell? ⟨bq, 0, none⟩ = some (.int .i64 2) ∧ w'.cell? ⟨bq, 1, none⟩ = some (.slice (some ⟨b2, 0, none⟩) 1 1)) (first | exact HS.out.cellsA | exact HS.out.lit.cellsA | exact HS.out.lit.lit.cellsA | exact HS.out.lit.drew.cellsA | exact HS.out.lit.lit.drew.cellsA | exact HS.out.drew.cellsA)
          (first
            | (go_at_call 31; refine (small7_any _).mono ?_; rintro e w1 ⟨gsw1, rfl, osw1, _, k⟩; (first | (with_reducible have HS' := Lib.hid (HS.out.lit.lit.drew.kept k)) | (with_reducible have HS' := Lib.hid (HS.out.lit.lit.kept k)) | (with_reducible have HS' := Lib.hid (HS.out.lit.drew.kept k)) | (with_reducible have HS' := Lib.hid (HS.out.lit.kept k)) | (with_reducible have HS' := Lib.hid (HS.out.drew.kept k)) | (with_reducible have HS' := Lib.hid (HS.out.kept k))); have HS := Lib.hid (HS'.out.cons osw1); clear HS' osw1 k)
            | (go_at_call 28; (first | with_reducible refine (FitsA [5, 3, 3] rfl (by decide) false bundle_small.2.2.2.1 HS.out.lit.lit (by simp) (by simp) (by simp [ints])).mono ?_ | with_reducible refine (FitsA [5, 3, 3] rfl (by decide) false bundle_small.2.2.2.1 HS.out.lit (by simp) (by simp) (by simp [ints])).mono ?_ | with_reducible refine (FitsA [5, 3, 3] rfl (by decide) false bundle_small.2.2.2.1 HS.out (by simp) (by simp) (by simp [ints])).mono ?_); rintro e w2 ⟨rfl, k⟩; (first | (with_reducible have HS' := Lib.hid (HS.out.lit.lit.drew.kept k)) | (with_reducible have HS' := Lib.hid (HS.out.lit.lit.kept k)) | (with_reducible have HS' := Lib.hid (HS.out.lit.drew.kept k)) | (with_reducible have HS' := Lib.hid (HS.out.lit.kept k)) | (with_reducible have HS' := Lib.hid (HS.out.drew.kept k)) | (with_reducible have HS' := Lib.hid (HS.out.kept k))); have HS := HS'; clear HS' k))
        all_goals go_wp2_with fail
        all_goals go_meet
        all_goals exact ⟨rfl, rfl, HS.out.less⟩
      case rest =>
        obtain ⟨rfl, rfl, hs⟩ := hcut
        have HS := Lib.hid hs
        clear hs
        generalize wc = wd at *
        go_wp2_with fail
        refine (small7_any _).mono ?_
        rintro e w1 ⟨gs, rfl, os, _, k⟩
        have HS := Lib.hid ((HS.out.kept k).cons os)
        clear os k
        go_wp2_with fail
        refine (LoadsB (gx := w1.heap.size) HS.out.lit.lit (by simp) (by simp) (by simp [ints])).mono ?_
        rintro e w2 ⟨va, rfl, _, k⟩
        have HS := Lib.hid (HS.out.lit.lit.kept k).less
        have G := Lib.hid (grown_trans G.out HS.out.g)
        have RA := Lib.hid ((RA.out.grown (Nat.le_refl _) HS.out.g).wide HS.out.g.size)
        have HS : Hid (SA w2 b1 b2 bp bq w2 []) := ⟨World.grownBy.refl _ _, HS.out.st⟩
        clear k
        go_upto_region 6 with fail
        go_region_held3 (fun w' : World => w'.cell? ⟨bp, 0, none⟩ = some (.int .i64 4) ∧ w'.cell? ⟨bp, 1, none⟩ = some (.slice (some ⟨b1, 0, none⟩) 2 2) ∧ w'.cell? ⟨bq, 0, none⟩ = some (.int .i64 2) ∧ w'.cell? ⟨bq, 1, none⟩ = some (.slice (some ⟨b2, 0, none⟩) 1 1)) (first | exact HS.out.cellsA | exact HS.out.lit.cellsA | exact HS.out.lit.lit.cellsA | exact HS.out.lit.drew.cellsA | exact HS.out.lit.lit.drew.cellsA | exact HS.out.drew.cellsA)
          (first
            | (go_at_call 31; refine (small7_any _).mono ?_; rintro e w3 ⟨gsw3, rfl, osw3, _, k⟩; (first | (with_reducible have HS' := Lib.hid (HS.out.lit.lit.drew.kept k)) | (with_reducible have HS' := Lib.hid (HS.out.lit.lit.kept k)) | (with_reducible have HS' := Lib.hid (HS.out.lit.drew.kept k)) | (with_reducible have HS' := Lib.hid (HS.out.lit.kept k)) | (with_reducible have HS' := Lib.hid (HS.out.drew.kept k)) | (with_reducible have HS' := Lib.hid (HS.out.kept k))); have HS := Lib.hid (HS'.out.cons osw3); clear HS' osw3 k)
            | (go_at_call 21; (first | with_reducible refine (BMayA HS.out.lit (by simp) (by simp)).mono ?_ | with_reducible refine (BMayA HS.out (by simp) (by simp)).mono ?_); rintro e w4 ⟨he, k⟩; (first | rw [bundle_small.2.2.2.2.2.1] at he | rw [bundle_small.2.2.2.2.2.2] at he); subst he; (first | (with_reducible have HS' := Lib.hid (HS.out.lit.kept k)) | (with_reducible have HS' := Lib.hid (HS.out.kept k))); have HS := Lib.hid HS'.out.less; clear HS' k)
            | (go_at_call 19; refine (SameA RA.out HS.out.lit (Nat.le_refl _) HS.out.lit.g (by simp [ints]) rfl (by decide) (by decide)).mono ?_; rintro e w4 ⟨rfl, k⟩; (first | (with_reducible have HS' := Lib.hid (HS.out.lit.lit.drew.kept k)) | (with_reducible have HS' := Lib.hid (HS.out.lit.lit.kept k)) | (with_reducible have HS' := Lib.hid (HS.out.lit.drew.kept k)) | (with_reducible have HS' := Lib.hid (HS.out.lit.kept k)) | (with_reducible have HS' := Lib.hid (HS.out.drew.kept k)) | (with_reducible have HS' := Lib.hid (HS.out.kept k))); have HS := HS'; clear HS' k)
            | (go_at_call 20; refine (num_says _ _).mono ?_; rintro e w4 ⟨rfl, k⟩; (first | (with_reducible have HS' := Lib.hid (HS.out.lit.lit.drew.kept k)) | (with_reducible have HS' := Lib.hid (HS.out.lit.lit.kept k)) | (with_reducible have HS' := Lib.hid (HS.out.lit.drew.kept k)) | (with_reducible have HS' := Lib.hid (HS.out.lit.kept k)) | (with_reducible have HS' := Lib.hid (HS.out.drew.kept k)) | (with_reducible have HS' := Lib.hid (HS.out.kept k))); have HS := HS'; clear HS' k))
        all_goals go_wp2
        all_goals go_ret
        all_goals exact ⟨rfl, grown_trans G.out HS.out.g⟩

end Go.Proofs.Ytmodkhcfihlhgaa
