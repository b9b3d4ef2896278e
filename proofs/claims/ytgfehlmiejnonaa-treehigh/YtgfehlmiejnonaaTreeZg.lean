/-
  Points of a tree.
-/
import Derived.Test.YtgfehlmiejnonaaJG
import Derived.Test.YtgfehlmiejnonaaSortInts
import Derived.Test.YtgfehlmiejnonaaMathCut
set_option maxRecDepth 20000
namespace Go.Proofs.Ytgfehlmiejnonaa
open Go.RowKit

def bothI (xs : List It) : List Int := xs.flatMap fun x => [x.1, x.2.1]

theorem lt_one : ∀ {xs ys : List Int}, xs.Pairwise (· < ·) → ys.Pairwise (· < ·) → (∀ x, x ∈ xs ↔ x ∈ ys) → xs = ys
  | [], [], _, _, _ => rfl
  | [], b :: r, _, _, e => absurd ((e b).2 (by simp)) (by simp)
  | a :: r, [], _, _, e => absurd ((e a).1 (by simp)) (by simp)
  | a :: r, b :: q, h, k, e => by
    obtain ⟨h1, h2⟩ := List.pairwise_cons.1 h
    obtain ⟨k1, k2⟩ := List.pairwise_cons.1 k
    have hab : a = b := by
      rcases List.mem_cons.1 ((e a).1 (by simp)) with x | x
      · exact x
      rcases List.mem_cons.1 ((e b).2 (by simp)) with y | y
      · exact y.symm
      have := k1 a x
      have := h1 b y
      omega
    subst hab
    rw [lt_one h2 k2 fun x => ⟨fun hx => ?_, fun hx => ?_⟩]
    · rcases List.mem_cons.1 ((e x).1 (by simp [hx])) with y | y
      · have := h1 x hx
        omega
      · exact y
    · rcases List.mem_cons.1 ((e x).2 (by simp [hx])) with y | y
      · have := k1 x hx
        omega
      · exact y

theorem range_lt (a : Int) (n : Nat) : ((List.range n).map fun i : Nat => a + 1 + (i : Int)).Pairwise (· < ·) := by
  rw [List.pairwise_map]
  exact List.pairwise_lt_range.imp fun h => by omega

theorem points_mem (a b : Int) (xs : List It) (p : Int) : p ∈ pointsF a b xs ↔ (a < p ∧ p < b) ∧ ∃ x ∈ xs, x.1 = p ∨ x.2.1 = p := by
  unfold pointsF
  rw [List.mem_filter, List.mem_map, hitB, List.any_eq_true]
  constructor
  · rintro ⟨⟨i, hi, rfl⟩, x, hx, h⟩
    rw [List.mem_range] at hi
    refine ⟨by omega, x, hx, by simpa using h⟩
  · rintro ⟨⟨h1, h2⟩, x, hx, h⟩
    exact ⟨⟨(p - (a + 1)).toNat, by rw [List.mem_range]; omega, by omega⟩, x, hx, by simpa using h⟩

theorem points_is {a b : Int} {xs : List It} (h : ∀ x ∈ xs, itB x = true) (hab : spanMay a b = true) : pts a b (bothI (meetsF a b xs)) = pointsF a b xs := by
  refine lt_one (pts_lt _ _ _) ((range_lt a _).filter _) fun p => ?_
  rw [pts_mem, points_mem]
  rw [span_may] at hab
  simp only [bothI, List.mem_flatMap, List.mem_cons, List.not_mem_nil, or_false, meetsF, List.mem_filter]
  constructor
  · rintro ⟨⟨x, ⟨hx, _⟩, e⟩, h1, h2⟩
    exact ⟨⟨h1, h2⟩, x, hx, e.elim (fun e => .inl e.symm) (fun e => .inr e.symm)⟩
  · rintro ⟨⟨h1, h2⟩, x, hx, e⟩
    refine ⟨⟨x, ⟨hx, ?_⟩, e.elim (fun e => .inl e.symm) (fun e => .inr e.symm)⟩, h1, h2⟩
    have := h x hx
    simp only [itB, Bool.and_eq_true, span_may] at this
    rw [meets_may]
    omega

theorem inside_app (a b : Int) (xs ys : List Int) : inside a b (xs ++ ys) = inside a b xs ++ inside a b ys := List.filter_append ..

theorem inside_step {a b : Int} {l : List Int} {j : Nat} (h : j < l.length) : inside a b (l.take (j + 1)) = inside a b (l.take j) ++ (if a < l[j]?.getD 0 ∧ l[j]?.getD 0 < b then [l[j]?.getD 0] else []) := by
  rw [List.take_add_one, inside_app, List.getElem?_eq_getElem h]
  simp only [Option.getD_some, Option.toList_some]
  by_cases h1 : a < l[j]
  · by_cases h2 : l[j] < b
    · simp [inside, h1, h2]
    · simp [inside, h1, h2]
  · simp [inside, h1]

theorem both_step {xs : List It} {k : Nat} (h : k < xs.length) (a b : Int) : inside a b (bothI (xs.take (k + 1))) = inside a b (bothI (xs.take k)) ++ inside a b [(it xs k).1, (it xs k).2.1] := by
  rw [it_take h, bothI, List.flatMap_append, inside_app]
  simp [bothI]

theorem inside_le (a b : Int) (xs : List Int) : (inside a b xs).length ≤ xs.length := List.length_filter_le _ _
theorem both_len : ∀ xs : List It, (bothI xs).length = 2 * xs.length
  | [] => rfl
  | x :: r => by
    have := both_len r
    simp only [bothI, List.flatMap_cons, List.length_append, List.length_cons, List.length_nil] at this ⊢
    omega

def PoRel (w : World) (Bm m : Nat) (A : Option Addr) (a b : Int) (xs : List It) (o i : Value) (wr : World) : Prop :=
  ∃ k : Nat, k ≤ m ∧ i = .int .i64 (k : Nat) ∧ w.grownBy wr none ∧ Own wr (w.heap.size + 1) 27 [.int .i64 a, .int .i64 b] ∧ Mine wr Bm o (inside a b (bothI (xs.take k))).length (inside a b (bothI (xs.take k))) ∧ Elts itemE wr Bm A m xs ∧ Bm ≤ wr.heap.size

def PiRel (w : World) (Bm m : Nat) (A : Option Addr) (a b : Int) (xs : List It) (ps : List Int) (x0 x1 : Int) (lb : Nat) (o i : Value) (wr : World) : Prop :=
  ∃ j : Nat, j ≤ 2 ∧ i = .int .i64 (j : Nat) ∧ w.grownBy wr none ∧ Own wr (w.heap.size + 1) 27 [.int .i64 a, .int .i64 b] ∧ Mine wr Bm o (ps ++ inside a b ([x0, x1].take j)).length (ps ++ inside a b ([x0, x1].take j)) ∧ Elts itemE wr Bm A m xs ∧ Bm ≤ wr.heap.size ∧ Own wr lb 3 (ints [x0, x1]) ∧ ∀ g, o.ownBlock = some g → g ≠ lb

set_option maxHeartbeats 4000000 in
theorem TPoints_any (A : Option Addr) (n c : Nat) (ns : List Nd) (r : Int) (FA : Option Addr) (fn fc : Nat) (free : List Int) (a b : Int) (w : World) {B : Nat} (h : Tre w B A n ns FA fn free) (hB : B ≤ w.heap.size) : Calls Try.prog 13 #[.agg #[.slice A n c, .int .i64 r, .slice FA fn fc], .agg #[.int .i64 a, .int .i64 b]] w (SelPost w (pointsV (allF ns r free) a b) (spanZ (allF ns r free) a b)) := by
  have HB := Lib.hid (box2 (w := w) (T := 25) (U := 27) [.slice A n c, .int .i64 r, .slice FA fn fc] [.int .i64 a, .int .i64 b] (World.grownBy.refl _ none))
  obtain ⟨V, hV0⟩ : ∃ V, allF ns r free = V := ⟨_, rfl⟩
  have CM : Hid (∀ wx, w.grownBy wx none → Calls Try.prog 12 #[.agg #[.slice A n c, .int .i64 r, .slice FA fn fc], .agg #[.int .i64 a, .int .i64 b]] wx (RowRes wx (meetsV V a b) (spanZ V a b))) := fun wx g => by
    rw [← hV0]
    exact TMeets_any A n c ns r FA fn fc free a b wx (h.grown hB g) (Nat.le_trans hB g.size)
  rw [hV0]
  have HV0 := Lib.hid hV0
  clear h hV0
  cases hsp : spanE2 V a b
  · have e1 : meetsV V a b = [] ∧ spanZ V a b = 1700 ∧ pointsV V a b = [] := by simp [meetsV, spanZ, pointsV, hsp]
    rw [e1.1, e1.2.1] at CM
    rw [e1.2.1, e1.2.2]
    clear e1 hsp
    go_enter Try.func13, Try.ntmps13
    go_upto_region 1 with fail
    obtain ⟨G0, o1, o2⟩ := HB.out
    have G := Lib.hid G0
    obtain ⟨c0, c1, c2⟩ := o1.three
    obtain ⟨e0, e1⟩ := o2.two
    clear HB G0 o1 o2
    generalize (w.alloc (.cells #[.slice A n c, .int .i64 r, .slice FA fn fc] 25)).alloc (.cells #[.int .i64 a, .int .i64 b] 27) = w1 at *
    go_wp2_with fail
    refine (CM.out w1 G.out).mono ?_
    rintro e w2 ⟨v, rfl, m, g2⟩
    have G2 := Lib.hid (grown_trans G.out g2)
    clear c0 c1 c2 e0 e1 m g2
    go_wp2
    go_ret2
    exact ⟨_, rfl, Mine.nil _ _, G2.out⟩
  · obtain ⟨ys, rfl⟩ : ∃ ys, V = some ys := by
      cases V with
      | none => simp [spanE2] at hsp
      | some ys => exact ⟨ys, rfl⟩
    have hspan : spanMay a b = true := by simpa [spanE2] using hsp
    obtain ⟨T, hT, hys⟩ := of_all HV0.out
    have hit : ∀ x ∈ ys, itB x = true := fun x hx => by rw [← hys] at hx; exact Tr.sum_it hT.ok x hx
    have hlen : ys.length ≤ 32 := by
      have := Tr.sum_len ns T
      have := hT.all
      have := hT.few
      rw [← hys]
      omega
    obtain ⟨xs, hxs⟩ : ∃ xs, meetsF a b ys = xs := ⟨_, rfl⟩
    have e1 : meetsV (some ys) a b = xs ∧ spanZ (some ys) a b = 0 ∧ pointsV (some ys) a b = pts a b (bothI xs) := by
      refine ⟨by simp [meetsV, hsp, hxs], by simp [spanZ, hsp], ?_⟩
      rw [← hxs, points_is hit hspan]
      simp [pointsV, hsp]
    have hxl : xs.length ≤ 32 := by rw [← hxs]; exact Nat.le_trans (meetsF_le a b ys) hlen
    have HIT : Hid (∀ k, k < xs.length → 0 ≤ (it xs k).1 ∧ (it xs k).1 ≤ 4096 ∧ 0 ≤ (it xs k).2.1 ∧ (it xs k).2.1 ≤ 4096) := fun k hk => by
      have hm : it xs k ∈ xs := it_mem hk rfl
      have hm2 : it xs k ∈ meetsF a b ys := by rw [hxs]; exact hm
      have := hit _ (List.mem_filter.1 hm2).1
      simp only [itB, Bool.and_eq_true, span_may] at this
      omega
    rw [e1.1, e1.2.1] at CM
    rw [e1.2.1, e1.2.2]
    clear e1 hsp hspan hT hys hit hlen hxs HV0
    obtain ⟨m, hm⟩ : ∃ m, xs.length = m := ⟨_, rfl⟩
    have HM := Lib.hid hm
    rw [hm] at hxl
    clear hm
    go_enter Try.func13, Try.ntmps13
    go_upto_region 1 with fail
    obtain ⟨G0, o1, o2⟩ := HB.out
    have G := Lib.hid G0
    have O2 := Lib.hid o2
    obtain ⟨c0, c1, c2⟩ := o1.three
    obtain ⟨e0, e1⟩ := o2.two
    clear HB G0 o1 o2
    generalize (w.alloc (.cells #[.slice A n c, .int .i64 r, .slice FA fn fc] 25)).alloc (.cells #[.int .i64 a, .int .i64 b] 27) = w1 at *
    go_wp2_with fail
    refine (CM.out w1 G.out).mono ?_
    rintro e w2 ⟨v, rfl, mv, g2⟩
    rw [HM.out] at mv
    obtain ⟨A2, cc, rfl, _, _, hrow⟩ := mv.row
    have hs2 : w.heap.size + 1 < w2.heap.size := by have := O2.out.lt; have := g2.size; omega
    have HS : Hid (PoRel w w2.heap.size m A2 a b xs (.slice none 0 0) (.int .i64 0) w2) := ⟨0, Nat.zero_le _, rfl, grown_trans G.out g2, O2.out.kept g2, Mine.nil _ _, hrow, Nat.le_refl _⟩
    clear c0 c1 c2 e0 e1 mv g2 G O2 hrow CM
    generalize hBm : w2.heap.size = Bm at *
    go_wp2
    go_loopw [8, 24] (fun o i wr => PoRel w Bm m A2 a b xs o i wr) (fun _ i _ => m - (intOf i).toNat)
    case atStart => exact HS.out
    case round =>
      clear HS
      obtain ⟨k, hk, rfl, hg, ho, hmine, hr, hbm⟩ := hrel
      have G := Lib.hid hg
      have O := Lib.hid ho
      have M := Lib.hid hmine
      have R := Lib.hid hr
      clear hg ho hmine hr
      by_cases hlt : k < m
      · obtain ⟨b2, off, rfl, hb2, hcell⟩ := R.out.its (by omega)
        obtain ⟨d0, d1, d2⟩ := hcell k hlt
        have hit := HIT.out k (by rw [HM.out]; exact hlt)
        have HST := Lib.hid (both_step (xs := xs) (k := k) (by rw [HM.out]; exact hlt) a b)
        have hpl : (inside a b (bothI (xs.take k))).length ≤ 2 * k := by
          have h1 := inside_le a b (bothI (xs.take k))
          rw [both_len, List.length_take] at h1
          omega
        generalize it xs k = x at *
        obtain ⟨x0, x1, x2⟩ := x
        simp only at d0 d1 d2 hit HST
        generalize hps : inside a b (bothI (xs.take k)) = ps at *
        clear hcell hps
        have k5 : wr.grownBy ((wr.alloc (.cells #[.int .i64 x0, .int .i64 x1, .int .i64 x2] 50)).alloc (.cells #[.int .i64 x0, .int .i64 x1] 3)) none := grown_trans (grow0 wr _) (grow0 _ _)
        have hsz : (wr.alloc (.cells #[.int .i64 x0, .int .i64 x1, .int .i64 x2] 50)).heap.size = wr.heap.size + 1 := by simp
        have OL : Hid (Own ((wr.alloc (.cells #[.int .i64 x0, .int .i64 x1, .int .i64 x2] 50)).alloc (.cells #[.int .i64 x0, .int .i64 x1] 3)) (wr.heap.size + 1) 3 (ints [x0, x1])) := by
          have h := Own.new (wr.alloc (.cells #[.int .i64 x0, .int .i64 x1, .int .i64 x2] 50)) 3 [.int .i64 x0, .int .i64 x1]
          rw [hsz] at h
          exact h
        have HS : Hid (PiRel w Bm m (some ⟨b2, off, none⟩) a b xs ps x0 x1 (wr.heap.size + 1) _ (.int .i64 0) ((wr.alloc (.cells #[.int .i64 x0, .int .i64 x1, .int .i64 x2] 50)).alloc (.cells #[.int .i64 x0, .int .i64 x1] 3))) :=
          ⟨0, Nat.zero_le _, rfl, grown_trans G.out k5, O.out.kept k5, by simpa [inside] using M.out.kept k5, R.out.grown hbm k5, Nat.le_trans hbm k5.size, OL.out, fun g hg => by have := M.out.own_lt g hg; omega⟩
        have hbm2 : Bm < wr.heap.size + 1 := by omega
        obtain ⟨e0, e1⟩ := O.out.two
        clear k5 OL hsz
        go_wp2
        clear d0 d1 d2 e0 e1
        generalize wr.heap.size + 1 = lb at *
        generalize (wr.alloc (.cells #[.int .i64 x0, .int .i64 x1, .int .i64 x2] 50)).alloc (.cells #[.int .i64 x0, .int .i64 x1] 3) = w5 at *
        clear G O M R
        go_loopw [8, 36] (fun o i ww => PiRel w Bm m (some ⟨b2, off, none⟩) a b xs ps x0 x1 lb o i ww) (fun _ i _ => 2 - (intOf i).toNat)
        case atStart => exact HS.out
        case round =>
          clear HS
          obtain ⟨j, hj, rfl, hg, ho, hmine, hr, hbm3, hol, hapart⟩ := hrel
          have G := Lib.hid hg
          have O := Lib.hid ho
          have M := Lib.hid hmine
          have R := Lib.hid hr
          have OL := Lib.hid hol
          have AP := Lib.hid hapart
          clear hg ho hmine hr hol hapart
          by_cases hjl : j < 2
          · have l0 := OL.out.cell j
            rw [ints_get [x0, x1] j hjl] at l0
            have IS := Lib.hid (inside_step (a := a) (b := b) (l := [x0, x1]) (j := j) hjl)
            have hpb : 0 ≤ [x0, x1][j]?.getD 0 ∧ [x0, x1][j]?.getD 0 ≤ 4096 := by
              rcases j with _ | _ | j
              · simpa using ⟨hit.1, hit.2.1⟩
              · simpa using ⟨hit.2.2.1, hit.2.2.2⟩
              · omega
            have hlen2 : (ps ++ inside a b ([x0, x1].take j)).length ≤ 2 * k + 2 := by
              have h1 := inside_le a b ([x0, x1].take j)
              rw [List.length_take] at h1
              rw [List.length_append]
              simp only [List.length_cons, List.length_nil] at h1
              omega
            generalize [x0, x1][j]?.getD 0 = p at *
            generalize hqs : ps ++ inside a b ([x0, x1].take j) = qs at *
            have IS2 : Hid (ps ++ inside a b ([x0, x1].take (j + 1)) = qs ++ (if a < p ∧ p < b then [p] else [])) := by rw [Hid, IS.out, ← hqs, List.append_assoc]
            clear IS hqs
            obtain ⟨e0, e1⟩ := O.out.two
            by_cases h1 : a < p
            · by_cases h2 : p < b
              · rw [if_pos ⟨h1, h2⟩] at IS2
                have M1 := Lib.hid (M.out.kept (grow0 wr (.cells #[.int .i64 p] 3)))
                have HROW : Hid (Row (wr.alloc (.cells #[.int .i64 p] 3)) (wr.heap.size + 1) (some ⟨wr.heap.size, 0, none⟩) 1 [p]) := Row.newAt (w := wr) (g := wr.heap.size) (n := 1) (vs := #[.int .i64 p]) [p] rfl rfl rfl (by simp) (by simp; omega)
                go_wp2_with (first | (at_builtin; refine wpList_app _ rfl _ _ rfl Bm _ _ _ rfl M1.out _ 1 1 [p] rfl HROW.out (by simp) (by omega) (by simp; omega) ?_))
                intro v6 w6 m6 g6 n6
                have hge := M.out.own_ge
                have M6 : Hid (Mine w6 Bm v6 (ps ++ inside a b ([x0, x1].take (j + 1))).length (ps ++ inside a b ([x0, x1].take (j + 1)))) := by
                  rw [Hid, IS2.out, List.length_append]
                  exact m6
                have G6 := Lib.hid (grown_none (grown_trans G.out (grow0 wr (.cells #[.int .i64 p] 3))) g6 (fun g hg => by have := hge g hg; omega))
                have O6 := Lib.hid ((O.out.alloc (.cells #[.int .i64 p] 3)).kept' g6 (fun e => by have := hge _ e; omega))
                have R6 := Lib.hid ((R.out.grown hbm3 (grow0 wr (.cells #[.int .i64 p] 3))).grownR (by simp; omega) g6 (fun j e => hge j e))
                have L6 := Lib.hid ((OL.out.alloc (.cells #[.int .i64 p] 3)).kept' g6 (fun e => AP.out _ e rfl))
                have A6 : Hid (∀ g, v6.ownBlock = some g → g ≠ lb) := fun g hg => by
                  rcases n6 with e | e
                  · exact AP.out g (e ▸ hg)
                  · rw [e] at hg
                    injection hg with hg
                    have : (wr.alloc (.cells #[.int .i64 p] 3)).heap.size = wr.heap.size + 1 := by simp
                    have := OL.out.lt
                    omega
                have B6 : Hid (Bm ≤ w6.heap.size) := by have := g6.size; simp at this; rw [Hid]; omega
                clear m6 g6 n6 e0 e1 l0 M1 HROW hge
                go_wp2
                go_roundw
                case rel => exact ⟨j + 1, by omega, by go_num, G6.out, O6.out, M6.out, R6.out, B6.out, L6.out, A6.out⟩
                case measure => simp [intOf]; omega
              · rw [if_neg (fun e => h2 e.2), List.append_nil] at IS2
                go_wp2
                go_roundw
                case rel => exact ⟨j + 1, by omega, by go_num, G.out, O.out, by rw [IS2.out]; exact M.out, R.out, hbm3, OL.out, AP.out⟩
                case measure => simp [intOf]; omega
            · rw [if_neg (fun e => h1 e.1), List.append_nil] at IS2
              go_wp2
              go_roundw
              case rel => exact ⟨j + 1, by omega, by go_num, G.out, O.out, by rw [IS2.out]; exact M.out, R.out, hbm3, OL.out, AP.out⟩
              case measure => simp [intOf]; omega
          · obtain rfl : j = 2 := by omega
            have HN : Hid (ps ++ inside a b ([x0, x1].take 2) = inside a b (bothI (xs.take (k + 1)))) := by rw [Hid, HST.out]; rfl
            go_wp2
            go_roundw
            case rel => exact ⟨k + 1, by omega, by go_num, G.out, O.out, by rw [← HN.out]; exact M.out, R.out, hbm3⟩
            case measure => simp [intOf]; omega
      · obtain rfl : k = m := by omega
        have E : Hid (inside a b (bothI (xs.take k)) = inside a b (bothI xs)) := by rw [Hid, ← HM.out, List.take_length]
        rw [E.out] at M
        have hl : (inside a b (bothI xs)).length ≤ 100 := by
          have h1 := inside_le a b (bothI xs)
          rw [both_len, HM.out] at h1
          omega
        clear R
        go_wp2_with fail
        refine (Sort_any _ _ (inside a b (bothI xs)) wr M.out (by omega)).mono ?_
        rintro e w6 ⟨rfl, m6, g6⟩
        have hge := M.out.own_ge
        have G6 := Lib.hid (grown_none G.out g6 (fun g hg => by have := hge g hg; omega))
        have M6 := Lib.hid m6
        clear m6 g6
        go_wp2_with fail
        refine (Compact_any _ _ (sortI (inside a b (bothI xs))) w6 M6.out (by omega)).mono ?_
        rintro e w7 ⟨v7, rfl, m7, _, g7⟩
        have G7 := Lib.hid (grown_none G6.out g7 (fun g hg => by have := hge g hg; omega))
        have M7 := Lib.hid m7
        clear m7 g7 hge
        go_wp2
        go_ret2
        exact ⟨v7, rfl, M7.out.wide (by omega), G7.out⟩

end Go.Proofs.Ytgfehlmiejnonaa
