/-
  What goes through a tree that perhaps may not be: take, follows, stands.
-/
import Derived.Test.YtgfehlmiejnonaaTreeR
import Derived.Test.YtgfehlmiejnonaaKpt
import Derived.Test.YtgfehlmiejnonaaTreeC
import Derived.Test.YtgfehlmiejnonaaTake
set_option maxRecDepth 20000
namespace Go.Proofs.Ytgfehlmiejnonaa
open Go.RowKit

/-- A check in memory: the rows it reads, its marks, the last item. -/
structure Chk (w : World) (q g : Nat) (A : Option Addr) (n c : Nat) (r : Int) (FA : Option Addr) (fn fc sc : Nat) (s : List Bool) (l : It) : Prop where
  oq : Own w q 76 [.slice A n c, .int .i64 r, .slice FA fn fc, .slice (some ⟨g, 0, none⟩) n sc, .int .i64 l.1, .int .i64 l.2.1, .int .i64 l.2.2]
  og : Own w g 4 (boolsT s)
  len : s.length = n
  ne : q ≠ g

def qg (q g : Nat) : Nat → Prop := fun i => i = q ∨ i = g

theorem Chk.grown {w w' : World} {q g : Nat} {A : Option Addr} {n c : Nat} {r : Int} {FA : Option Addr} {fn fc sc : Nat} {s : List Bool} {l : It} (h : Chk w q g A n c r FA fn fc sc s l) (k : w.grownBy w' none) : Chk w' q g A n c r FA fn fc sc s l :=
  ⟨h.oq.kept k, h.og.kept k, h.len, h.ne⟩

theorem Chk.mark {w : World} {q g : Nat} {A : Option Addr} {n c : Nat} {r : Int} {FA : Option Addr} {fn fc sc : Nat} {s : List Bool} {l : It} (h : Chk w q g A n c r FA fn fc sc s l) (k : Nat) : Chk (w.setCell ⟨g, k, none⟩ (.bool true)) q g A n c r FA fn fc sc (s.set k true) l :=
  ⟨h.oq.setOther (fun e => h.ne e.symm) _, by have := h.og.put (i := k) (.bool true); rw [boolsT_set] at this; exact this, by rw [List.length_set]; exact h.len, h.ne⟩

def TakePost (w : World) (q g : Nat) (A : Option Addr) (n c : Nat) (r : Int) (FA : Option Addr) (fn fc sc : Nat) (p : Int) (s : List Bool) (l : It) (e : Ending) (w' : World) : Prop :=
  (e = .returned (.bool true) ∧ (0 ≤ p ∧ p < n ∧ marked s p.toNat = false) ∧ Chk w' q g A n c r FA fn fc sc (s.set p.toNat true) l ∧ Kpt w w' (qg q g)) ∨
  (e = .returned (.bool false) ∧ ¬ (0 ≤ p ∧ p < n ∧ marked s p.toNat = false) ∧ Chk w' q g A n c r FA fn fc sc s l ∧ Kpt w w' (qg q g))

theorem Take_any (q g : Nat) (A : Option Addr) (n c : Nat) (r : Int) (FA : Option Addr) (fn fc sc : Nat) (p : Int) (s : List Bool) (l : It) (w : World) (h : Chk w q g A n c r FA fn fc sc s l) :
    Calls Try.prog 57 #[.pointer (some ⟨q, 0, none⟩), .int .i64 p] w (TakePost w q g A n c r FA fn fc sc p s l) := by
  have H := Lib.hid h
  obtain ⟨c0, c1, c2, c3, c4, c5, c6⟩ := h.oq.seven
  have hl := h.len
  clear c0 c1 c2 c4 c5 c6
  by_cases h0 : p < 0
  · go_enter Try.func57, Try.ntmps57
    clear h hl
    go_wp2
    go_ret
    exact .inr ⟨rfl, by omega, H.out, Kpt.refl _ _⟩
  by_cases h1 : (n : Int) ≤ p
  · go_enter Try.func57, Try.ntmps57
    clear h hl
    go_wp2
    go_ret
    exact .inr ⟨rfl, by omega, H.out, Kpt.refl _ _⟩
  obtain ⟨k, rfl⟩ : ∃ k : Nat, p = (k : Nat) := ⟨p.toNat, by omega⟩
  have hk : k < n := by omega
  have b0 := h.og.cell k
  rw [boolsT_at (by omega)] at b0
  have f0 := h.og.frozen k
  have e1 : ((k : Nat) : Int).toNat = k := by omega
  clear h hl h0 h1
  cases hm : marked s k
  case true =>
    rw [hm] at b0
    have HM := Lib.hid hm
    clear hm
    go_enter Try.func57, Try.ntmps57
    go_wp2
    go_ret
    exact .inr ⟨rfl, by rw [e1, HM.out]; simp, H.out, Kpt.refl _ _⟩
  case false =>
    rw [hm] at b0
    have HM := Lib.hid hm
    clear hm
    go_enter Try.func57, Try.ntmps57
    go_wp2
    go_ret
    exact .inl ⟨rfl, ⟨by omega, by omega, by rw [e1]; exact HM.out⟩, by rw [e1]; exact H.out.mark k, (Kpt.refl w _).set (.inr rfl) _⟩

/-- The last item is another one. -/
theorem Chk.last {w : World} {q g : Nat} {A : Option Addr} {n c : Nat} {r : Int} {FA : Option Addr} {fn fc sc : Nat} {s : List Bool} {l : It} (h : Chk w q g A n c r FA fn fc sc s l) (x y z : Int) :
    Chk (((w.setCell ⟨q, 4, none⟩ (.int .i64 x)).setCell ⟨q, 5, none⟩ (.int .i64 y)).setCell ⟨q, 6, none⟩ (.int .i64 z)) q g A n c r FA fn fc sc s (x, y, z) :=
  ⟨((h.oq.put (i := 4) _).put (i := 5) _).put (i := 6) _, ((h.og.setOther h.ne _).setOther h.ne _).setOther h.ne _, h.len, h.ne⟩

def FollowsPost (w : World) (q g : Nat) (A : Option Addr) (n c : Nat) (r : Int) (FA : Option Addr) (fn fc sc : Nat) (s : List Bool) (l x : It) (e : Ending) (w' : World) : Prop :=
  e = .returned (.bool (itB x && lessB l x)) ∧ Chk w' q g A n c r FA fn fc sc s x ∧ Kpt w w' (qg q g)

theorem held6y {w w1 : World} {a0 a1 a2 a3 a4 a5 : Addr} {x0 x1 x2 x3 x4 x5 : Value} (g : w.grownBy w1 none)
    (h : (w.cell? a0 = some x0 ∧ w.cell? a1 = some x1 ∧ w.cell? a2 = some x2) ∧ (w.cell? a3 = some x3 ∧ w.cell? a4 = some x4 ∧ w.cell? a5 = some x5)) :
    (w1.cell? a0 = some x0 ∧ w1.cell? a1 = some x1 ∧ w1.cell? a2 = some x2) ∧ (w1.cell? a3 = some x3 ∧ w1.cell? a4 = some x4 ∧ w1.cell? a5 = some x5) :=
  have k : ∀ {a : Addr} {v : Value}, w.cell? a = some v → w1.cell? a = some v := fun h => g.cell h (by simp)
  ⟨⟨k h.1.1, k h.1.2.1, k h.1.2.2⟩, k h.2.1, k h.2.2.1, k h.2.2.2⟩

theorem cmpI_lt (a b : It) : decide (cmpI a b < 0) = lessB a b := by
  rcases cmpI_is a b with ⟨e, h⟩ | ⟨e, h⟩ | ⟨e, h⟩
  · rw [e, h]; rfl
  · rw [e, (less_asym h).1]; rfl
  · rw [e, h, less_irr]; rfl

set_option maxHeartbeats 2000000 in
theorem Follows_any (q g : Nat) (A : Option Addr) (n c : Nat) (r : Int) (FA : Option Addr) (fn fc sc : Nat) (s : List Bool) (l0 l1 l2 x0 x1 x2 : Int) (w : World) (h : Chk w q g A n c r FA fn fc sc s (l0, l1, l2)) :
    Calls Try.prog 58 #[.pointer (some ⟨q, 0, none⟩), .agg #[.int .i64 x0, .int .i64 x1, .int .i64 x2]] w (FollowsPost w q g A n c r FA fn fc sc s (l0, l1, l2) (x0, x1, x2)) := by
  have H := Lib.hid h
  have HB := Lib.hid (box1 (w := w) (T := 50) [.int .i64 x0, .int .i64 x1, .int .i64 x2] (World.grownBy.refl _ none))
  clear h
  go_enter Try.func58, Try.ntmps58
  go_upto_region 1 with fail
  obtain ⟨G0, o1⟩ := HB.out
  have HQ := Lib.hid (H.out.grown G0)
  have hlt := H.out.oq.lt
  generalize w.alloc (.cells #[.int .i64 x0, .int .i64 x1, .int .i64 x2] 50) = w1 at *
  obtain ⟨c0, c1, c2⟩ := o1.three
  obtain ⟨_, _, _, _, d4, d5, d6⟩ := HQ.out.oq.seven
  have G := Lib.hid G0
  have GK : Hid (w1.grownBy w1 none) := World.grownBy.refl _ _
  have O := Lib.hid o1
  have HS : Hid ((w1.cell? ⟨w.heap.size, 0, none⟩ = some (.int .i64 x0) ∧ w1.cell? ⟨w.heap.size, 1, none⟩ = some (.int .i64 x1) ∧ w1.cell? ⟨w.heap.size, 2, none⟩ = some (.int .i64 x2)) ∧ (w1.cell? ⟨q, 4, none⟩ = some (.int .i64 l0) ∧ w1.cell? ⟨q, 5, none⟩ = some (.int .i64 l1) ∧ w1.cell? ⟨q, 6, none⟩ = some (.int .i64 l2))) := ⟨⟨c0, c1, c2⟩, d4, d5, d6⟩
  clear HB G0 o1 c0 c1 c2 d4 d5 d6 H
  cases hi : itB (x0, x1, x2)
  case false =>
    have CF : Hid (∀ wx, Calls Try.prog 46 #[.agg #[.int .i64 x0, .int .i64 x1, .int .i64 x2]] wx (Says wx (.bool false))) := fun wx => by
      have := Fits_any x0 x1 x2 wx
      rw [hi] at this
      exact this
    have HI := Lib.hid hi
    clear hi
    refine wp_region_held_drew (S := fun w' : World => (w'.cell? ⟨w.heap.size, 0, none⟩ = some (.int .i64 x0) ∧ w'.cell? ⟨w.heap.size, 1, none⟩ = some (.int .i64 x1) ∧ w'.cell? ⟨w.heap.size, 2, none⟩ = some (.int .i64 x2)) ∧ (w'.cell? ⟨q, 4, none⟩ = some (.int .i64 l0) ∧ w'.cell? ⟨q, 5, none⟩ = some (.int .i64 l1) ∧ w'.cell? ⟨q, 6, none⟩ = some (.int .i64 l2))) (by kernel_rfl) HS.out (fun hHeld => ?_)
    refine takeH (i := 0) (d := 6) (v := .agg #[.int .i64 x0, .int .i64 x1, .int .i64 x2]) rfl rfl (by kernel_rfl) (by kernel_rfl) (by kernel_rfl) (fun _ _ _ h => h) (Or.inl ⟨by rfl, ?_⟩) (by assumption) ?_
    · intro w hSw; go_simp
    simp only [Act.put, List.setIfInBounds_toArray, List.set_cons_zero, List.set_cons_succ]
    refine wpAnyH_ready (rs := [1]) (by kernel_rfl) (by simp) ?_
    refine AllReadyH.cons rfl (fun K hK => ?_) AllReadyH.nil
    go_simp
    go_at_call 46
    refine (CF.out _).mono ?_
    rintro e w8 ⟨rfl, g⟩
    have GK : Hid (w1.grownBy w8 none) := grown_undrew g
    have HS := Lib.hid (held6y (grown_undrew g) HS.out)
    clear g
    go_wp2_with fail
    refine hK.out _ _ HS.out (fun hHeld => ?_)
    clear hK
    refine takeH (i := 2) (d := 8) (v := .bool false) rfl rfl (by kernel_rfl) (by kernel_rfl) (by kernel_rfl) (fun _ _ _ h => h) (Or.inl ⟨by rfl, ?_⟩) (by assumption) ?_
    · intro w hSw; go_simp
    simp only [Act.put, List.setIfInBounds_toArray, List.set_cons_zero, List.set_cons_succ]
    refine takeH (i := 3) (d := 9) (v := undef) rfl rfl (by kernel_rfl) (by kernel_rfl) (by kernel_rfl) (fun _ _ _ h => h) (Or.inr ⟨by rfl, rfl⟩) (by assumption) ?_
    simp only [Act.put, List.setIfInBounds_toArray, List.set_cons_zero, List.set_cons_succ]
    refine takeH (i := 4) (d := 10) (v := undef) rfl rfl (by kernel_rfl) (by kernel_rfl) (by kernel_rfl) (fun _ _ _ h => h) (Or.inr ⟨by rfl, rfl⟩) (by assumption) ?_
    simp only [Act.put, List.setIfInBounds_toArray, List.set_cons_zero, List.set_cons_succ]
    refine takeH (i := 5) (d := 11) (v := undef) rfl rfl (by kernel_rfl) (by kernel_rfl) (by kernel_rfl) (fun _ _ _ h => h) (Or.inr ⟨by rfl, rfl⟩) (by assumption) ?_
    simp only [Act.put, List.setIfInBounds_toArray, List.set_cons_zero, List.set_cons_succ]
    refine takeH (i := 6) (d := 12) (v := undef) rfl rfl (by kernel_rfl) (by kernel_rfl) (by kernel_rfl) (fun _ _ _ h => h) (Or.inr ⟨by rfl, rfl⟩) (by assumption) ?_
    simp only [Act.put, List.setIfInBounds_toArray, List.set_cons_zero, List.set_cons_succ]
    refine takeH (i := 7) (d := 13) (v := undef) rfl rfl (by kernel_rfl) (by kernel_rfl) (by kernel_rfl) (fun _ _ _ h => h) (Or.inr ⟨by rfl, rfl⟩) (by assumption) ?_
    simp only [Act.put, List.setIfInBounds_toArray, List.set_cons_zero, List.set_cons_succ]
    refine takeH (i := 8) (d := 14) (v := undef) rfl rfl (by kernel_rfl) (by kernel_rfl) (by kernel_rfl) (fun _ _ _ h => h) (Or.inr ⟨by rfl, rfl⟩) (by assumption) ?_
    simp only [Act.put, List.setIfInBounds_toArray, List.set_cons_zero, List.set_cons_succ]
    refine takeH (i := 9) (d := 15) (v := undef) rfl rfl (by kernel_rfl) (by kernel_rfl) (by kernel_rfl) (fun _ _ _ h => h) (Or.inr ⟨by rfl, rfl⟩) (by assumption) ?_
    simp only [Act.put, List.setIfInBounds_toArray, List.set_cons_zero, List.set_cons_succ]
    refine takeH (i := 10) (d := 16) (v := .bool false) rfl rfl (by kernel_rfl) (by kernel_rfl) (by kernel_rfl) (fun _ _ _ h => h) (Or.inl ⟨by rfl, ?_⟩) (by assumption) ?_
    · intro w hSw; go_simp
    simp only [Act.put, List.setIfInBounds_toArray, List.set_cons_zero, List.set_cons_succ]
    refine takeH (i := 11) (d := 5) (v := .bool false) rfl rfl (by kernel_rfl) (by kernel_rfl) (by kernel_rfl) (fun _ _ _ h => h) (Or.inl ⟨by rfl, ?_⟩) (by assumption) ?_
    · intro w hSw; go_simp
    simp only [Act.put, List.setIfInBounds_toArray, List.set_cons_zero, List.set_cons_succ]
    refine wpAnyH_done (by kernel_rfl) ?_ _
    obtain ⟨⟨c0, c1, c2⟩, _⟩ := HS.out
    have HQ2 := Lib.hid (HQ.out.grown GK.out)
    obtain ⟨_, _, _, _, d4, d5, d6⟩ := HQ2.out.oq.seven
    have f4 := HQ2.out.oq.frozen 4
    have f5 := HQ2.out.oq.frozen 5
    have f6 := HQ2.out.oq.frozen 6
    go_wp2
    go_ret
    exact ⟨ret_bool (by rw [HI.out, Bool.false_and]), HQ2.out.last x0 x1 x2, ((((Kpt.of (grown_trans G.out GK.out) _).set (.inl rfl) _).set (.inl rfl) _).set (.inl rfl) _)⟩
  case true =>
    have CF : Hid (∀ wx, Calls Try.prog 46 #[.agg #[.int .i64 x0, .int .i64 x1, .int .i64 x2]] wx (Says wx (.bool true))) := fun wx => by
      have := Fits_any x0 x1 x2 wx
      rw [hi] at this
      exact this
    have HI := Lib.hid hi
    clear hi
    go_region_held3 (fun w' : World => (w'.cell? ⟨w.heap.size, 0, none⟩ = some (.int .i64 x0) ∧ w'.cell? ⟨w.heap.size, 1, none⟩ = some (.int .i64 x1) ∧ w'.cell? ⟨w.heap.size, 2, none⟩ = some (.int .i64 x2)) ∧ (w'.cell? ⟨q, 4, none⟩ = some (.int .i64 l0) ∧ w'.cell? ⟨q, 5, none⟩ = some (.int .i64 l1) ∧ w'.cell? ⟨q, 6, none⟩ = some (.int .i64 l2))) (first | exact HS.out)
      (first
        | (go_at_call 46; refine (CF.out _).mono ?_; rintro e w8 ⟨rfl, g⟩; have GK : Hid (w1.grownBy w8 none) := (by first | exact grown_trans GK.out g | exact grown_trans (grown_drew GK.out) g | exact grown_trans (grown_drewN GK.out _) g); have HS := Lib.hid (held6y g HS.out); clear g)
        | (go_at_call 62; refine (Tcompare_any l0 l1 l2 x0 x1 x2 _).mono ?_; rintro e w8 ⟨rfl, g⟩; have GK : Hid (w1.grownBy w8 none) := (by first | exact grown_trans GK.out g | exact grown_trans (grown_drew GK.out) g | exact grown_trans (grown_drewN GK.out _) g); have HS := Lib.hid (held6y g HS.out); clear g))
    obtain ⟨⟨c0, c1, c2⟩, _⟩ := HS.out
    have HQ2 := Lib.hid (HQ.out.grown GK.out)
    obtain ⟨_, _, _, _, d4, d5, d6⟩ := HQ2.out.oq.seven
    have f4 := HQ2.out.oq.frozen 4
    have f5 := HQ2.out.oq.frozen 5
    have f6 := HQ2.out.oq.frozen 6
    go_wp2
    go_ret
    exact ⟨ret_bool (by rw [HI.out, Bool.true_and, cmpI_lt]), HQ2.out.last x0 x1 x2, ((((Kpt.of (grown_trans G.out GK.out) _).set (.inl rfl) _).set (.inl rfl) _).set (.inl rfl) _)⟩

end Go.Proofs.Ytgfehlmiejnonaa
