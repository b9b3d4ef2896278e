/-
  The reference's All: the items of a tree, if it may be.
-/
import Derived.Test.YtgfehlmiejnonaaTreeB
set_option maxRecDepth 20000
namespace Go.Proofs.Ytgfehlmiejnonaa
open Go.RowKit

def AllPost (w : World) (o : Option (List It)) (e : Ending) (w' : World) : Prop :=
  ∃ v, e = .returned (.tuple #[v, .bool o.isSome]) ∧ MineE itemE w' w.heap.size v (o.getD []).length (o.getD []) ∧ w.grownBy w' none

theorem all_bad {w w' : World} {o : Option (List It)} (h : o = none) (k : w.grownBy w' none) : AllPost w o (.returned (.tuple #[.slice none 0 0, .bool false])) w' := by
  subst h
  exact ⟨.slice none 0 0, rfl, MineE.nil _ _ _, k⟩

theorem infoBool : (Try.prog.info? 4).map (fun i => (i.zero, i.size, i.bytes)) = some (some (.bool false), 1, 1) := by kernel_rfl

theorem infoB_parts : ∃ i, Try.prog.info? 4 = some i ∧ i.zero = some (.bool false) ∧ i.size = 1 ∧ i.bytes = 1 := by
  have h := infoBool
  cases hi : Try.prog.info? 4 with
  | none => rw [hi] at h; cases h
  | some i =>
    rw [hi] at h
    simp only [Option.map_some, Option.some.injEq, Prod.mk.injEq] at h
    exact ⟨i, rfl, h⟩

theorem rep_boolsT (n : Nat) : List.replicate n (Value.bool false) = boolsT (List.replicate n false) := by simp [boolsT]

theorem rises_iff : ∀ {xs : List It}, rises xs = true ↔ ∀ i, i + 1 < xs.length → lessB (it xs i) (it xs (i + 1)) = true
  | [] => by simp [rises]
  | [a] => by simp [rises, risesFrom]
  | a :: b :: r => by
    have ih := rises_iff (xs := b :: r)
    have e : rises (a :: b :: r) = (lessB a b && rises (b :: r)) := rfl
    rw [e, Bool.and_eq_true, ih]
    constructor
    · rintro ⟨h, k⟩ i hi
      cases i with
      | zero => exact h
      | succ i => exact k i (by simpa using hi)
    · intro h
      exact ⟨h 0 (by simp), fun i hi => h (i + 1) (by simpa using hi)⟩

theorem rises_no {xs : List It} {i : Nat} (hi : i + 1 < xs.length) (h : lessB (it xs i) (it xs (i + 1)) = false) : rises xs = false := by
  cases e : rises xs
  · rfl
  · have := rises_iff.1 e i hi
    rw [h] at this
    cases this

theorem free_next {ns : List Nd} {free : List Int} {k : Nat} {s : List Bool} {x : Int} (hk : k < free.length) (hx : free[k]?.getD 0 = x) (h : 0 ≤ x ∧ x < ns.length ∧ marked s x.toNat = false ∧ nd ns x.toNat = nd0) :
    freeF ns (free.drop k) s = freeF ns (free.drop (k + 1)) (s.set x.toNat true) := by
  rw [drop_get free k hk, hx, freeF, if_pos h]

theorem free_stop {ns : List Nd} {free : List Int} {k : Nat} {s : List Bool} {x : Int} (hk : k < free.length) (hx : free[k]?.getD 0 = x) (h : ¬ (0 ≤ x ∧ x < ns.length ∧ marked s x.toNat = false ∧ nd ns x.toNat = nd0)) : freeF ns (free.drop k) s = none := by
  rw [drop_get free k hk, hx, freeF, if_neg h]

theorem all_over {ns : List Nd} {root : Int} {free : List Int} (h : 32 < ns.length ∨ ns.length < free.length) : allF ns root free = none := by rw [allF, if_pos h]

theorem all_in {ns : List Nd} {root : Int} {free : List Int} (h : ¬ (32 < ns.length ∨ ns.length < free.length)) : allF ns root free = lastF ns free (hungF ns (ns.length + 1) root (List.replicate ns.length false)) := by rw [allF, if_neg h]

/-- What holds while the places that are free, and then all, are gone through. -/
structure Free (w : World) (A : Option Addr) (n c : Nat) (r : Int) (FA : Option Addr) (fn fc q g b : Nat) (v : Value) (xs : List It) (s : List Bool) (wr : World) : Prop where
  gw : w.grownBy wr none
  oq : Own wr q 25 [.slice A n c, .int .i64 r, .slice FA fn fc]
  os : Own wr g 4 (boolsT s)
  len : s.length = n
  m : MineE itemE wr b v xs.length xs

def FreeRel (w : World) (ns : List Nd) (free : List Int) (A : Option Addr) (n c : Nat) (r : Int) (FA : Option Addr) (fn fc q g b : Nat) (v : Value) (xs : List It) (F : Option (List Bool)) (i : Value) (wr : World) : Prop :=
  ∃ k s, k ≤ fn ∧ i = .int .i64 (k : Nat) ∧ freeF ns (free.drop k) s = F ∧ Free w A n c r FA fn fc q g b v xs s wr

def SeenAll (n : Nat) (s : List Bool) (i : Value) (w0 wr : World) : Prop := ∃ k : Nat, k ≤ n ∧ i = .int .i64 (k : Nat) ∧ wr = w0 ∧ ∀ j, j < k → marked s j = true

theorem held6 {w w1 : World} {x0 x1 x2 y0 y1 y2 : Value} (g : w.grownBy w1 none) {ba bb o p : Nat} (h : w.cell? ⟨ba, o, none⟩ = some x0 ∧ w.cell? ⟨ba, o + 1, none⟩ = some x1 ∧ w.cell? ⟨ba, o + 2, none⟩ = some x2 ∧ w.cell? ⟨bb, p, none⟩ = some y0 ∧ w.cell? ⟨bb, p + 1, none⟩ = some y1 ∧ w.cell? ⟨bb, p + 2, none⟩ = some y2) :
    w1.cell? ⟨ba, o, none⟩ = some x0 ∧ w1.cell? ⟨ba, o + 1, none⟩ = some x1 ∧ w1.cell? ⟨ba, o + 2, none⟩ = some x2 ∧ w1.cell? ⟨bb, p, none⟩ = some y0 ∧ w1.cell? ⟨bb, p + 1, none⟩ = some y1 ∧ w1.cell? ⟨bb, p + 2, none⟩ = some y2 :=
  ⟨kept g h.1, kept g h.2.1, kept g h.2.2.1, kept g h.2.2.2.1, kept g h.2.2.2.2.1, kept g h.2.2.2.2.2⟩

def RiseRel (w : World) (b : Nat) (v : Value) (xs : List It) (i : Value) (wr : World) : Prop :=
  ∃ k : Nat, 1 ≤ k ∧ (k ≤ xs.length ∨ k = 1) ∧ i = .int .i64 (k : Nat) ∧ w.grownBy wr none ∧ MineE itemE wr b v xs.length xs ∧ ∀ j, j + 1 < k → j + 1 < xs.length → lessB (it xs j) (it xs (j + 1)) = true

theorem last_none {ns : List Nd} {free : List Int} {s : List Bool} {g : Hg} (h : freeF ns free s = none) : lastF ns free (s, some g) = none := by
  simp only [lastF, h]

theorem last_some {ns : List Nd} {free : List Int} {s t : List Bool} {g : Hg} (h : freeF ns free s = some t) : lastF ns free (s, some g) = if (t.all id && rises g.1) = true then some g.1 else none := by
  simp only [lastF, h]

theorem not_all {n j : Nat} {s : List Bool} (h : s.length = n) (hj : j < n) (k : marked s j = false) : s.all id = false := by
  cases e : s.all id
  · rfl
  · have := List.all_eq_true.1 e (s[j]) (List.getElem_mem (by omega))
    simp [marked, show j < s.length by omega] at k
    rw [k] at this
    cases this

theorem all_yes {n : Nat} {s : List Bool} (h : s.length = n) (k : ∀ j, j < n → marked s j = true) : s.all id = true := by
  rw [List.all_eq_true]
  intro b hb
  obtain ⟨j, hj, rfl⟩ := List.getElem_of_mem hb
  have := k j (by omega)
  simpa [marked, hj] using this

set_option maxHeartbeats 4000000 in
theorem RAll_any (ns : List Nd) (n : Nat) (r : Int) (A : Option Addr) (c : Nat) (free : List Int) (FA : Option Addr) (fn fc : Nat) (w : World) {B B' : Nat} (h : Elts nodeE w B A n ns) (hB : B ≤ w.heap.size) (hf : Row w B' FA fn free) (hB' : B' ≤ w.heap.size) :
    Calls Try.prog 10 #[.agg #[.slice A n c, .int .i64 r, .slice FA fn fc]] w (AllPost w (allF ns r free)) := by
  have HR := Lib.hid h
  have HF := Lib.hid hf
  have HLEN := Lib.hid h.len
  have HFL := Lib.hid hf.len
  have hsm := h.small
  have hfs := hf.small
  have G := Lib.hid (grow0 w (.cells #[.slice A n c, .int .i64 r, .slice FA fn fc] 25))
  have OQ := Lib.hid (Own.new w 25 [.slice A n c, .int .i64 r, .slice FA fn fc])
  obtain ⟨c0, c1, c2⟩ := OQ.out.three
  obtain ⟨i0, hi, hz0, hz1, hz2⟩ := infoB_parts
  have HI := Lib.hid hi
  have HZ0 := Lib.hid hz0
  have HZ1 := Lib.hid hz1
  have HZ2 := Lib.hid hz2
  clear h hf hi hz0 hz1 hz2
  by_cases hbig : 32 < n ∨ n < fn
  · have E := Lib.hid (all_over (ns := ns) (root := r) (free := free) (by rw [HLEN.out, HFL.out]; exact hbig))
    by_cases h1 : (32 : Int) < n
    · clear hbig
      go_enter Try.func10, Try.ntmps10
      go_wp2
      go_ret2
      exact all_bad E.out G.out
    · have h2 : (n : Int) < (fn : Int) := by omega
      clear hbig
      go_enter Try.func10, Try.ntmps10
      go_wp2
      go_ret2
      exact all_bad E.out G.out
  have E := Lib.hid (all_in (ns := ns) (root := r) (free := free) (by rw [HLEN.out, HFL.out]; exact hbig))
  have h1 : ¬ (32 : Int) < n := by omega
  have h2 : ¬ (n : Int) < (fn : Int) := by omega
  have hn : n ≤ 32 := by omega
  have hfn : fn ≤ 32 := by omega
  clear hbig
  have hs0 : (w.alloc (.cells #[.slice A n c, .int .i64 r, .slice FA fn fc] 25)).heap.size = w.heap.size + 1 := by simp
  go_enter Try.func10, Try.ntmps10
  go_upto_region 3 with fail
  generalize w.alloc (.cells #[.slice A n c, .int .i64 r, .slice FA fn fc] 25) = w0 at *
  go_wp2_with (first | (refine wpList_make_full _ rfl _ _ 67 rfl w0.heap.size 4 i0 (.bool false) 1 Try.underlying67 HI.out HZ0.out HZ1.out .i64 .i64 (n : Int) (n : Int) n rfl rfl rfl rfl (by rw [HZ2.out]; omega) (by unfold maxLen; omega) (Nat.le_refl _) ?_))
  intro w4 hmk k4
  rw [toList_madeCells_one, rep_boolsT] at hmk
  have os := Own.of_made hmk
  have G4 := Lib.hid (grown_trans G.out k4)
  have OQ4 := Lib.hid (OQ.out.kept k4)
  have OS := Lib.hid os
  have HS4 := Lib.hid os.lt
  clear os hmk k4 G OQ c0 c1 c2 HI HZ0 HZ1 HZ2 hs0
  obtain ⟨c0, c1, c2⟩ := OQ4.out.three
  go_wp2_with fail
  refine (hung_any ns n r A c FA fn fc (w.heap.size + 1) n hn (B := B) (by omega) (n + 1) r (List.replicate n false) w4 (HR.out.grown hB G4.out) OS.out (by simp) (by rw [unseen_rep]; omega)).mono ?_
  rw [HLEN.out] at E
  obtain ⟨s1, o1, ho⟩ : ∃ s1 o1, hungF ns (n + 1) r (List.replicate n false) = (s1, o1) := ⟨_, _, rfl⟩
  have HSL : Hid (s1.length = n) := by
    have := (hung_less ns (n + 1) r (List.replicate n false)).1
    rw [ho] at this
    rw [Hid]
    simpa using this
  have HBD := Lib.hid (fun y (h : o1 = some y) => hung_bd (ns := ns) (f := n + 1) (p := r) (s := List.replicate n false) (t := s1) (y := y) (by rw [HLEN.out]; simp) (by rw [ho, h]))
  rw [ho] at E ⊢
  clear ho
  rintro e w5 ⟨v1, rfl, m1, g5, o5⟩
  have M1 := Lib.hid m1
  have OS5 := Lib.hid o5
  have G5 := Lib.hid (grown_none G4.out g5 (fun g' e => by injection e with e; omega))
  have OQ5 := Lib.hid (OQ4.out.kept' g5 (by simp))
  have HS5 : Hid (w.heap.size + 1 + 1 ≤ w4.heap.size) := by have := HS4.out; rw [Hid]; omega
  clear m1 g5 o5 OQ4 OS G4 c0 c1 c2
  obtain ⟨c0, c1, c2⟩ := OQ5.out.three
  cases o1 with
  | none =>
    have E2 : Hid (allF ns r free = none) := by rw [Hid, E.out]; rfl
    clear E
    go_wp2
    go_ret2
    exact all_bad E2.out G5.out
  | some y =>
    have hy := HBD.out y rfl
    obtain ⟨xs, yh, ym⟩ := y
    simp only [hgV, Option.getD_some] at M1 hy
    rw [HLEN.out] at hy
    have hxl : xs.length ≤ 32 := by omega
    obtain ⟨A1, k1, rfl, _, _, _⟩ := M1.out.row
    have HS : Hid (FreeRel w ns free A n c r FA fn fc w.heap.size (w.heap.size + 1) w4.heap.size (.slice A1 xs.length k1) xs (freeF ns free s1) (.int .i64 0) w5) := ⟨0, s1, Nat.zero_le _, rfl, rfl, G5.out, OQ5.out, OS5.out, HSL.out, M1.out⟩
    clear G5 OQ5 OS5 M1 HBD hy HSL
    simp only [hgV, Option.getD_some, Option.isSome_some]
    go_wp2
    go_loopw [9] (fun i wr => FreeRel w ns free A n c r FA fn fc w.heap.size (w.heap.size + 1) w4.heap.size (.slice A1 xs.length k1) xs (freeF ns free s1) i wr) (fun i _ => fn - (intOf i).toNat)
    case atStart => exact HS.out
    case round =>
      clear HS c0 c1 c2
      obtain ⟨k, s, hk, rfl, hF, fr⟩ := hrel
      have FR := Lib.hid fr
      have HFF := Lib.hid hF
      obtain ⟨c0, c1, c2⟩ := fr.oq.three
      clear fr hF
      by_cases hlt : k < fn
      · obtain ⟨bf, offf, rfl, _, hfc⟩ := (HF.out.grown hB' FR.out.gw).at_ (by omega)
        have f0 := hfc k hlt
        clear hfc
        obtain ⟨x, hx⟩ : ∃ x, free[k]?.getD 0 = x := ⟨_, rfl⟩
        rw [hx] at f0
        have HX := Lib.hid hx
        clear hx
        by_cases hgood : 0 ≤ x ∧ x < ns.length ∧ marked s x.toNat = false ∧ nd ns x.toNat = nd0
        · have HN := Lib.hid (free_next (ns := ns) (s := s) (k := k) (by rw [HFL.out]; exact hlt) HX.out hgood)
          obtain ⟨x0, x1, x2, x3⟩ := hgood
          rw [HLEN.out] at x1
          obtain ⟨xn, rfl⟩ : ∃ xn : Nat, x = (xn : Nat) := ⟨x.toNat, by omega⟩
          have ex : ((xn : Nat) : Int).toNat = xn := by omega
          rw [ex] at x2 x3 HN
          have hxn : xn < n := by omega
          obtain ⟨bn, offn, rfl, _, hnc⟩ := (HR.out.grown hB FR.out.gw).nds (by omega)
          obtain ⟨d0, d1, d2, d3, d4, d5, d6⟩ := hnc xn hxn
          rw [x3] at d0 d1 d2 d3 d4 d5 d6
          simp only [nd0, it0] at d0 d1 d2 d3 d4 d5 d6
          have b0 := FR.out.os.cell xn
          rw [boolsT_at (by rw [FR.out.len]; exact hxn), x2] at b0
          have g0 := FR.out.os.frozen xn
          clear hnc x2 x3 ex
          go_wp2
          go_roundw
          case rel => exact ⟨k + 1, s.set xn true, by omega, by go_num, by rw [← HN.out]; exact HFF.out, grown_new FR.out.gw (by omega) _, FR.out.oq.setOther (by omega) _, by have := FR.out.os.put (i := xn) (.bool true); rw [boolsT_set] at this; exact this, by rw [List.length_set]; exact FR.out.len, FR.out.m.kept' (grown_set (World.grownBy.refl _ _) _) (fun g' hg' e => by have := FR.out.m.own_ge g' hg'; have := HS5.out; injection e with e; omega)⟩
          case measure => simp [intOf]; omega
        · have E2 : Hid (allF ns r free = none) := by
            rw [Hid, E.out]
            exact last_none (HFF.out.symm.trans (free_stop (by rw [HFL.out]; exact hlt) HX.out hgood))
          rw [HLEN.out] at hgood
          clear E HFF
          by_cases q0 : x < 0
          · clear hgood
            go_wp2
            go_ret2
            exact all_bad E2.out FR.out.gw
          obtain ⟨xn, rfl⟩ : ∃ xn : Nat, x = (xn : Nat) := ⟨x.toNat, by omega⟩
          have ex : ((xn : Nat) : Int).toNat = xn := by omega
          rw [ex] at hgood
          by_cases q1 : (n : Int) ≤ (xn : Int)
          · clear hgood
            go_wp2
            go_ret2
            exact all_bad E2.out FR.out.gw
          have hxn : xn < n := by omega
          have b0 := FR.out.os.cell xn
          rw [boolsT_at (by rw [FR.out.len]; exact hxn)] at b0
          cases q2 : marked s xn
          case true =>
            rw [q2] at b0
            clear hgood q2
            go_wp2
            go_ret2
            exact all_bad E2.out FR.out.gw
          rw [q2] at b0
          have q3 : ¬ nd ns xn = nd0 := fun q => hgood ⟨by omega, by omega, q2, q⟩
          obtain ⟨bn, offn, rfl, _, hnc⟩ := (HR.out.grown hB FR.out.gw).nds (by omega)
          obtain ⟨d0, d1, d2, d3, d4, d5, d6⟩ := hnc xn hxn
          clear hnc hgood q2 ex
          generalize nd ns xn = y at *
          obtain ⟨⟨y0, y1, y2⟩, y3, y4, y5, y6⟩ := y
          simp only at d0 d1 d2 d3 d4 d5 d6
          have hb : ¬ (y0 = 0 ∧ y1 = 0 ∧ y2 = 0 ∧ y3 = 0 ∧ y4 = 0 ∧ y5 = 0 ∧ y6 = 0) := fun ⟨a, b, c, d, e, f, g⟩ => q3 (by rw [a, b, c, d, e, f, g]; rfl)
          clear q3
          by_cases z0 : y0 = 0
          · subst z0
            by_cases z1 : y1 = 0
            · subst z1
              by_cases z2 : y2 = 0
              · subst z2
                by_cases z3 : y3 = 0
                · subst z3
                  by_cases z4 : y4 = 0
                  · subst z4
                    by_cases z5 : y5 = 0
                    · subst z5
                      have z6 : (y6 == 0) = false := by simpa using hb
                      clear hb
                      go_wp2
                      go_ret2
                      exact all_bad E2.out FR.out.gw
                    · have z6 : (y5 == 0) = false := by simpa using z5
                      clear hb
                      go_wp2
                      go_ret2
                      exact all_bad E2.out FR.out.gw
                  · have z6 : (y4 == 0) = false := by simpa using z4
                    clear hb
                    go_wp2
                    go_ret2
                    exact all_bad E2.out FR.out.gw
                · have z6 : (y3 == 0) = false := by simpa using z3
                  clear hb
                  go_wp2
                  go_ret2
                  exact all_bad E2.out FR.out.gw
              · have z6 : (y2 == 0) = false := by simpa using z2
                clear hb
                go_wp2
                go_ret2
                exact all_bad E2.out FR.out.gw
            · have z6 : (y1 == 0) = false := by simpa using z1
              clear hb
              go_wp2
              go_ret2
              exact all_bad E2.out FR.out.gw
          · have z6 : (y0 == 0) = false := by simpa using z0
            clear hb
            go_wp2
            go_ret2
            exact all_bad E2.out FR.out.gw
      · obtain rfl : k = fn := by omega
        have E3 : Hid (allF ns r free = if (s.all id && rises xs) = true then some xs else none) := by
          have h := HFF.out
          rw [← HFL.out, List.drop_length] at h
          rw [Hid, E.out]
          exact last_some h.symm
        clear E HFF
        have HS2 : Hid (SeenAll n s (.int .i64 0) wr wr) := ⟨0, Nat.zero_le _, rfl, rfl, fun j hj => absurd hj (Nat.not_lt_zero _)⟩
        go_wp2
        go_loopw [11] (fun i wi => SeenAll n s i wr wi) (fun i _ => n - (intOf i).toNat)
        case atStart => exact HS2.out
        case round =>
          clear HS2
          obtain ⟨j, hj, rfl, rfl, hall⟩ := hrel
          have HALL := Lib.hid hall
          clear hall
          by_cases hlt2 : j < n
          · have b0 := FR.out.os.cell j
            rw [boolsT_at (by rw [FR.out.len]; exact hlt2)] at b0
            cases q2 : marked s j
            case false =>
              have E4 : Hid (allF ns r free = none) := by rw [Hid, E3.out, not_all FR.out.len hlt2 q2]; rfl
              rw [q2] at b0
              clear q2 E3
              go_wp2
              go_ret2
              exact all_bad E4.out FR.out.gw
            case true =>
              have HX2 : Hid (∀ i, i < j + 1 → marked s i = true) := fun i hi => by
                rcases Nat.lt_or_ge i j with h | h
                · exact HALL.out i h
                · rw [show i = j by omega]; exact q2
              rw [q2] at b0
              clear q2 HALL
              go_wp2
              go_roundw
              case rel => exact ⟨j + 1, by omega, by go_num, rfl, HX2.out⟩
              case measure => simp [intOf]; omega
          · obtain rfl : j = n := by omega
            have E4 : Hid (allF ns r free = if rises xs = true then some xs else none) := by rw [Hid, E3.out, all_yes FR.out.len HALL.out, Bool.true_and]
            clear E3 HALL
            have HS3 : Hid (RiseRel w w4.heap.size (.slice A1 xs.length k1) xs (.int .i64 1) wr) := ⟨1, Nat.le_refl _, .inr rfl, rfl, FR.out.gw, FR.out.m, fun j hj => absurd hj (by omega)⟩
            clear FR c0 c1 c2
            go_wp2
            go_loopw [12] (fun i wi => RiseRel w w4.heap.size (.slice A1 xs.length k1) xs i wi) (fun i _ => xs.length - (intOf i).toNat)
            case atStart => exact HS3.out
            case round =>
              clear HS3
              obtain ⟨k', hk1, hk2, rfl, hg, hm, hall⟩ := hrel
              obtain ⟨i, rfl⟩ : ∃ i, k' = i + 1 := ⟨k' - 1, by omega⟩
              have G := Lib.hid hg
              have M := Lib.hid hm
              have HALL := Lib.hid hall
              clear hg hm hall
              by_cases hlt3 : i + 1 < xs.length
              · obtain ⟨A2, k2, hv, _, _, rr⟩ := M.out.row
                injection hv with e1 e2 e3
                subst e1 e3
                obtain ⟨b, off, rfl, _, hcell⟩ := rr.its (by omega)
                obtain ⟨d0, d1, d2⟩ := hcell i (by omega)
                obtain ⟨p0, p1, p2⟩ := hcell (i + 1) hlt3
                have hw : IntKind.i64.wrap (i : Int) = (i : Int) := IntWalk.i64_in _ (by omega)
                have f1 : (0 : Int) ≤ (i : Int) + 1 := by omega
                have f3 : ((i : Int) + 1).toNat = i + 1 := by omega
                have hz : (0 : Int) ≤ (i : Int) := by omega
                have hz1 : (i : Int) < (xs.length : Int) := by omega
                have hz2 : (i : Int) + 1 < (xs.length : Int) := by omega
                clear hcell rr
                cases hq : lessB (it xs i) (it xs (i + 1))
                case false =>
                  have E5 : Hid (allF ns r free = none) := by rw [Hid, E4.out, rises_no hlt3 hq]; rfl
                  generalize it xs i = x at *
                  generalize it xs (i + 1) = y at *
                  obtain ⟨x0, x1, x2⟩ := x
                  obtain ⟨y0, y1, y2⟩ := y
                  simp only at d0 d1 d2 p0 p1 p2
                  have CL : Hid (∀ wx : World, Calls Try.prog 36 #[.agg #[.int .i64 x0, .int .i64 x1, .int .i64 x2], .agg #[.int .i64 y0, .int .i64 y1, .int .i64 y2]] wx (Says wx (.bool false))) := fun wx => by
                    have h := Less_any x0 x1 x2 y0 y1 y2 wx
                    rw [hq] at h
                    exact h
                  have HS : Hid (wr.cell? ⟨b, off + i * 3, none⟩ = some (.int .i64 x0) ∧ wr.cell? ⟨b, off + i * 3 + 1, none⟩ = some (.int .i64 x1) ∧ wr.cell? ⟨b, off + i * 3 + 2, none⟩ = some (.int .i64 x2) ∧ wr.cell? ⟨b, off + (i + 1) * 3, none⟩ = some (.int .i64 y0) ∧ wr.cell? ⟨b, off + (i + 1) * 3 + 1, none⟩ = some (.int .i64 y1) ∧ wr.cell? ⟨b, off + (i + 1) * 3 + 2, none⟩ = some (.int .i64 y2)) := ⟨d0, d1, d2, p0, p1, p2⟩
                  have GK : Hid (wr.grownBy wr none) := World.grownBy.refl _ _
                  clear hq d0 d1 d2 p0 p1 p2 HALL E4
                  go_wp2_with fail
                  go_region_held3 (fun w' : World => w'.cell? ⟨b, off + i * 3, none⟩ = some (.int .i64 x0) ∧ w'.cell? ⟨b, off + i * 3 + 1, none⟩ = some (.int .i64 x1) ∧ w'.cell? ⟨b, off + i * 3 + 2, none⟩ = some (.int .i64 x2) ∧ w'.cell? ⟨b, off + (i + 1) * 3, none⟩ = some (.int .i64 y0) ∧ w'.cell? ⟨b, off + (i + 1) * 3 + 1, none⟩ = some (.int .i64 y1) ∧ w'.cell? ⟨b, off + (i + 1) * 3 + 2, none⟩ = some (.int .i64 y2))
                    (exact HS.out)
                    (first
                      | (go_at_call 36; refine (CL.out _).mono ?_; rintro e w8 ⟨rfl, g⟩; have GK : Hid (wr.grownBy w8 none) := (by first | exact grown_trans GK.out g | exact grown_trans (grown_drew GK.out) g | exact grown_trans (grown_drewN GK.out _) g); have HS := Lib.hid (held6 g HS.out); clear g))
                  go_wp2
                  go_ret2
                  exact all_bad E5.out (grown_trans G.out GK.out)
                case true =>
                  have HX : Hid (∀ j, j + 1 < i + 1 + 1 → j + 1 < xs.length → lessB (it xs j) (it xs (j + 1)) = true) := fun j hj hjx => by
                    rcases Nat.lt_or_ge j i with h | h
                    · exact HALL.out j (by omega) hjx
                    · rw [show j = i by omega]; exact hq
                  clear HALL
                  obtain ⟨x, hx⟩ : ∃ x, it xs i = x := ⟨_, rfl⟩
                  obtain ⟨y, hy⟩ : ∃ y, it xs (i + 1) = y := ⟨_, rfl⟩
                  rw [hx] at d0 d1 d2 hq
                  rw [hy] at p0 p1 p2 hq
                  clear hx hy
                  obtain ⟨x0, x1, x2⟩ := x
                  obtain ⟨y0, y1, y2⟩ := y
                  simp only at d0 d1 d2 p0 p1 p2
                  have CL : Hid (∀ wx : World, Calls Try.prog 36 #[.agg #[.int .i64 x0, .int .i64 x1, .int .i64 x2], .agg #[.int .i64 y0, .int .i64 y1, .int .i64 y2]] wx (Says wx (.bool true))) := fun wx => by
                    have h := Less_any x0 x1 x2 y0 y1 y2 wx
                    rw [hq] at h
                    exact h
                  have HS : Hid (wr.cell? ⟨b, off + i * 3, none⟩ = some (.int .i64 x0) ∧ wr.cell? ⟨b, off + i * 3 + 1, none⟩ = some (.int .i64 x1) ∧ wr.cell? ⟨b, off + i * 3 + 2, none⟩ = some (.int .i64 x2) ∧ wr.cell? ⟨b, off + (i + 1) * 3, none⟩ = some (.int .i64 y0) ∧ wr.cell? ⟨b, off + (i + 1) * 3 + 1, none⟩ = some (.int .i64 y1) ∧ wr.cell? ⟨b, off + (i + 1) * 3 + 2, none⟩ = some (.int .i64 y2)) := ⟨d0, d1, d2, p0, p1, p2⟩
                  have GK : Hid (wr.grownBy wr none) := World.grownBy.refl _ _
                  clear hq d0 d1 d2 p0 p1 p2
                  go_wp2_with fail
                  go_region_held3 (fun w' : World => w'.cell? ⟨b, off + i * 3, none⟩ = some (.int .i64 x0) ∧ w'.cell? ⟨b, off + i * 3 + 1, none⟩ = some (.int .i64 x1) ∧ w'.cell? ⟨b, off + i * 3 + 2, none⟩ = some (.int .i64 x2) ∧ w'.cell? ⟨b, off + (i + 1) * 3, none⟩ = some (.int .i64 y0) ∧ w'.cell? ⟨b, off + (i + 1) * 3 + 1, none⟩ = some (.int .i64 y1) ∧ w'.cell? ⟨b, off + (i + 1) * 3 + 2, none⟩ = some (.int .i64 y2))
                    (exact HS.out)
                    (first
                      | (go_at_call 36; refine (CL.out _).mono ?_; rintro e w8 ⟨rfl, g⟩; have GK : Hid (wr.grownBy w8 none) := (by first | exact grown_trans GK.out g | exact grown_trans (grown_drew GK.out) g | exact grown_trans (grown_drewN GK.out _) g); have HS := Lib.hid (held6 g HS.out); clear g))
                  go_wp2
                  go_roundw
                  case rel => exact ⟨i + 1 + 1, by omega, .inl (by omega), by go_num, grown_trans G.out GK.out, M.out.kept GK.out, HX.out⟩
                  case measure => simp [intOf]; omega
              · have E5 : Hid (allF ns r free = some xs) := by
                  rw [Hid, E4.out, if_pos (rises_iff.2 fun j hj => HALL.out j (by omega) hj)]
                clear E4 HALL
                go_wp2
                go_ret2
                rw [E5.out]
                exact ⟨_, rfl, M.out.wide (by have := HS5.out; omega), G.out⟩

end Go.Proofs.Ytgfehlmiejnonaa
