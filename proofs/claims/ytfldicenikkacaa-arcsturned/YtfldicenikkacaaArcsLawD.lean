/-
  The law ArcsPairs, walked.
-/
import Derived.Test.YtfldicenikkacaaArcsLawC
import Derived.Test.YtfldicenikkacaaMathArcsB
namespace Go.Proofs.Ytfldicenikkacaa
open Go.RowKit

theorem Own.of_made {w : World} {base g n : Nat} {T : TypeId} {xs : List Value} (h : w.ownsRow base T 1 (.slice (some ⟨g, 0, none⟩) n n) n xs) : Own w g T xs := by
  rcases h.2 with ⟨hv, _⟩ | ⟨g', cap, cur, hv, _, hh, _, _, hsz, htk⟩
  · cases hv
  · injection hv with e1 e2 e3
    injection e1 with e1
    injection e1 with e1 _
    subst e1 e3
    have : cur.toList.take (n * 1) = cur.toList := List.take_of_length_le (by simp [hsz])
    rw [this] at htk
    unfold Own
    rw [← htk]
    exact hh

def seenV (m : Nat) (xs : List Int) : List Value := (List.range m).map fun a : Nat => .int .i64 ((xs.count (a : Int) : Nat) : Int)

theorem seen_nil (m : Nat) : List.replicate m (Value.int .i64 0) = seenV m [] := by
  unfold seenV
  refine List.ext_getElem? fun i => ?_
  by_cases h : i < m
  · simp [h]
  · simp [h]

theorem seen_get {m a : Nat} (xs : List Int) (h : a < m) : (seenV m xs)[a]? = some (.int .i64 ((xs.count (a : Int) : Nat) : Int)) := by
  simp [seenV, h]

theorem seen_put {m a : Nat} (xs : List Int) (h : a < m) : (seenV m xs).set a (.int .i64 (((xs.count (a : Int) : Nat) : Int) + 1)) = seenV m (xs ++ [(a : Int)]) := by
  refine List.ext_getElem? fun i => ?_
  by_cases hi : i < m
  · by_cases e : a = i
    · subst e
      rw [List.getElem?_set_self (by simp [seenV, h]), seen_get _ h, List.count_append]
      simp
    · rw [List.getElem?_set_ne e, seen_get _ hi, seen_get _ hi, List.count_append]
      have : ((a : Nat) : Int) ≠ (i : Int) := by omega
      simp [this]
  · rw [List.getElem?_eq_none (by simp [seenV]; omega), List.getElem?_eq_none (by simp [seenV]; omega)]

theorem take_step {xs : List Int} {i : Nat} (h : i < xs.length) : xs.take (i + 1) = xs.take i ++ [xs[i]?.getD 0] := by
  rw [List.take_add_one, List.getElem?_eq_getElem h]
  rfl

theorem ord_nat {ls : List Lk} {n v i : Nat} (h : i < (ordA ls n v).length) : ∃ a : Nat, a < 2 * n ∧ (ordA ls n v)[i]?.getD 0 = (a : Int) := by
  have hm := ord_mem ls n v ((ordA ls n v)[i]?.getD 0) (by rw [List.getElem?_eq_getElem h]; exact List.getElem_mem h)
  exact ⟨((ordA ls n v)[i]?.getD 0).toNat, by omega, by omega⟩

theorem count_take (xs : List Int) (i : Nat) (a : Int) : (xs.take i).count a ≤ xs.count a := (List.take_sublist i xs).count_le a

def SeenRel (w : World) (p q vn m2 : Nat) (A : Option Addr) (n c : Nat) (ls : List Lk) (Ax Ay Az : Option Addr) (cx cy cz : Nat) (i : Value) (wr : World) : Prop :=
  ∃ (k : Nat), k ≤ m2 ∧ i = .int .i64 (k : Nat) ∧ w.grownBy wr none ∧ Own wr p 24 [.int .i64 (vn : Nat), .slice A n c] ∧
    Own wr q 48 [.slice Ax (vn + 1) cx, .slice Ay m2 cy, .slice Az m2 cz] ∧ Rows3 wr q Ax Ay Az (startsA ls n (vn + 1)) (ordA ls n vn) (headsA ls (2 * n)) ∧ Own wr (q + 1) 3 (seenV m2 ((ordA ls n vn).take k))

def CheckRel (w : World) (p q vn m2 : Nat) (A : Option Addr) (n c : Nat) (ls : List Lk) (Ax Ay Az : Option Addr) (cx cy cz : Nat) (i : Value) (wr : World) : Prop :=
  ∃ (k : Nat), k ≤ n ∧ i = .int .i64 (k : Nat) ∧ w.grownBy wr none ∧ Own wr p 24 [.int .i64 (vn : Nat), .slice A n c] ∧
    Own wr q 48 [.slice Ax (vn + 1) cx, .slice Ay m2 cy, .slice Az m2 cz] ∧ Rows3 wr q Ax Ay Az (startsA ls n (vn + 1)) (ordA ls n vn) (headsA ls (2 * n)) ∧ Own wr (q + 1) 3 (seenV m2 (ordA ls n vn))

set_option maxRecDepth 20000 in
set_option maxHeartbeats 4000000 in
theorem ArcsPairs_walk (V : Int) (A : Option Addr) (n c : Nat) (ls : List Lk) (w : World) (h : InG w A n c ls) :
    Calls Try.prog 7 #[.agg #[.int .i64 V, .slice A n c]] w (LawPost w) := by
  obtain ⟨hs, hnc, hc, hnil⟩ := h
  have HR := Lib.hid hs
  have HL := Lib.hid hs.len
  have HR1 := Lib.hid (hs.grown (Nat.le_refl _) (grow0 w (.cells #[.int .i64 V, .slice A n c] 24)))
  clear hs hnil
  cases hm : mayG V ls
  · go_enter Try.func7, Try.ntmps7
    go_wp2_with fail
    refine (Build_no V A n c ls _ HR1.out (by simp) hm).mono ?_
    rintro e w1 ⟨x, y, z, rfl, ta, k⟩
    obtain ⟨Ax, cx, rfl, _⟩ := ta.S.sl
    obtain ⟨Ay, cy, rfl, _⟩ := ta.O.sl
    obtain ⟨Az, cz, rfl, _⟩ := ta.H.sl
    have G := Lib.hid (grown_alloc (grown_trans (grow0 _ _) k) (.cells #[.slice Ax 0 cx, .slice Ay 0 cy, .slice Az 0 cz] 48))
    clear ta k
    go_wp2_with fail
    refine (Num0_any _ _).mono ?_
    rintro e w2 ⟨rfl, rfl⟩
    go_wp2
    go_ret
    exact ⟨rfl, below_of G.out⟩
  · have h16 := may_small hm
    rw [HL.out] at h16
    obtain ⟨vn, rfl⟩ : ∃ vn : Nat, V = (vn : Nat) := ⟨V.toNat, by omega⟩
    have HM := Lib.hid hm
    obtain ⟨okS', okO', okH'⟩ := may_ok hm HL.out
    have okS := Lib.hid okS'
    have okO := Lib.hid okO'
    have okH := Lib.hid okH'
    have hls := starts_len ls n (vn + 1)
    obtain ⟨m2, hm2⟩ : ∃ m2 : Nat, m2 = 2 * n := ⟨_, rfl⟩
    have hlo : (ordA ls n vn).length = m2 := by have := ord_all hm; rw [HL.out] at this; rw [hm2]; exact this
    have hlh : (headsA ls (2 * n)).length = m2 := by rw [hm2]; exact heads_len ls (2 * n)
    have HONE : Hid (∀ a : Nat, a < m2 → (ordA ls n vn).count (a : Int) = 1) := fun a ha => by have := once hm (a := a) (by rw [HL.out]; omega); rw [HL.out] at this; exact this
    have m2a : m2 ≤ 2 * n := by omega
    have m2b : 2 * n ≤ m2 := by omega
    clear hm okS' okO' okH' hm2
    go_enter Try.func7, Try.ntmps7
    go_wp2_with fail
    refine (Build_may vn A n c ls _ HR1.out (by simp) HM.out).mono ?_
    rintro e w1 ⟨x, y, z, rfl, ta, k⟩
    obtain ⟨g1, ob⟩ := box1 [.int .i64 (vn : Nat), .slice A n c] k
    have b1 := ob.lt
    obtain ⟨Ax, Ay, Az, cx, cy, cz, rfl, rfl, rfl, ra⟩ := ta.rows okS.out okO.out okH.out
    rw [hls, hlo, hlh]
    have k2 := grow0 w1 (.cells #[.slice Ax (vn + 1) cx, .slice Ay m2 cy, .slice Az m2 cz] 48)
    have RA := Lib.hid (ra.grown (Nat.le_refl _) k2)
    have G := Lib.hid (grown_trans g1 k2)
    have OB := Lib.hid (ob.kept k2)
    have OA := Lib.hid (Own.new w1 48 [.slice Ax (vn + 1) cx, .slice Ay m2 cy, .slice Az m2 cz])
    clear k k2 g1 ob ta ra HR1
    obtain ⟨p0, p1⟩ := OB.out.two
    obtain ⟨a0, a1, a2⟩ := OA.out.three
    have hmi : (m2 : Int) = 2 * (n : Int) := by omega
    have hne : ((m2 : Int) != 2 * (n : Int)) = false := by simp [hmi]
    clear hmi
    obtain ⟨i0, hi, hz0, hz1, hz2⟩ := info_parts info3
    have HI := Lib.hid hi
    have HZ0 := Lib.hid hz0
    have HZ1 := Lib.hid hz1
    have HZ2 := Lib.hid hz2
    clear hi hz0 hz1 hz2
    go_wp2_with fail
    refine (Num0_any _ _).mono ?_
    rintro e w2 ⟨rfl, rfl⟩
    go_upto_region 6 with fail
    go_wp2_with (first | (refine wpList_make_full _ rfl _ _ 26 rfl (w1.heap.size + 1) 3 i0 (.int .i64 0) 1 Try.underlying26 HI.out HZ0.out HZ1.out .i64 .i64 (2 * (n : Int)) (2 * (n : Int)) m2 rfl rfl (by omega) (by omega) (by rw [HZ2.out]; omega) (by unfold maxLen; omega) (by simp) ?_))
    intro w3 hmk k3
    rw [toList_madeCells_one, seen_nil] at hmk
    have OS : Hid (Own w3 (w1.heap.size + 1) 3 (seenV m2 [])) := Own.of_made hmk
    have HS : Hid (SeenRel w w.heap.size w1.heap.size vn m2 A n c ls Ax Ay Az cx cy cz (.int .i64 0) w3) :=
      ⟨0, Nat.zero_le _, rfl, grown_trans G.out k3, OB.out.kept k3, OA.out.kept k3, RA.out.grown (by simp) k3, OS.out⟩
    clear hmk OB OA RA G p0 p1 a0 a1 a2 HI HZ0 HZ1 HZ2 k3 OS
    go_wp2
    go_loopw [6] (fun i wr => SeenRel w w.heap.size w1.heap.size vn m2 A n c ls Ax Ay Az cx cy cz i wr) (fun i _ => m2 - (intOf i).toNat)
    case atStart => exact HS.out
    case round =>
      clear HS
      obtain ⟨k, hk, rfl, hg, ob, oa, ra, os⟩ := hrel
      have G := Lib.hid hg
      have s1 := hg.size
      have OB := Lib.hid ob
      have OA := Lib.hid oa
      have RA := Lib.hid ra
      have OS := Lib.hid os
      have l2 := oa.lt
      have l3 := os.lt
      obtain ⟨a0, a1, a2⟩ := OA.out.three
      obtain ⟨p0, p1⟩ := OB.out.two
      clear hg ob oa ra os
      by_cases hlt : k < m2
      · obtain ⟨a, ha, hx⟩ := ord_nat (ls := ls) (n := n) (v := vn) (i := k) (by omega)
        have ha : a < m2 := by omega
        have ro := RA.out.O
        rw [hlo] at ro
        obtain ⟨b, off, hA, hb, hcell⟩ := ro.at_ (by omega)
        subst hA
        have d := hcell k hlt
        rw [hx] at d
        have st := OS.out.cell a
        rw [seen_get _ ha] at st
        have hcn := count_take (ordA ls n vn) k (a : Int)
        rw [HONE.out a ha] at hcn
        have f := OS.out.frozen a
        have HP := Lib.hid (seen_put ((ordA ls n vn).take k) ha)
        have HT := Lib.hid (take_step (xs := ordA ls n vn) (i := k) (by omega))
        rw [hx] at HT
        rw [← HT.out] at HP
        clear ro hcell hx HT
        generalize ((ordA ls n vn).take k).count (a : Int) = cn at *
        have t0 : ¬ (a : Int) < 0 := by omega
        have t1 : ¬ (m2 : Int) ≤ (a : Int) := by omega
        go_wp2
        go_roundw
        case rel => exact ⟨k + 1, by omega, by go_num, grown_new G.out (by omega) _, OB.out.setOther (by omega) _, OA.out.setOther (by omega) _, RA.out.grown' (by omega) (grown_set (World.grownBy.refl _ (some (w1.heap.size + 1))) _) (fun g hg => by injection hg with hg; omega), by rw [← HP.out]; exact OS.out.put _⟩
        case measure => simp [intOf]; omega
      · obtain rfl : m2 = k := by omega
        have HS : Hid (CheckRel w w.heap.size w1.heap.size vn m2 A n c ls Ax Ay Az cx cy cz (.int .i64 0) wr) :=
          ⟨0, Nat.zero_le _, rfl, G.out, OB.out, OA.out, RA.out, by have := OS.out; rw [List.take_of_length_le (by omega)] at this; exact this⟩
        clear OB OA RA G OS
        go_wp2
        go_loopw [7] (fun i wr => CheckRel w w.heap.size w1.heap.size vn m2 A n c ls Ax Ay Az cx cy cz i wr) (fun i _ => n - (intOf i).toNat)
        case atStart => exact HS.out
        case round =>
          clear HS p0 p1 a0 a1 a2 l2 l3 s1
          obtain ⟨k, hk2, rfl, hg, ob, oa, ra, os⟩ := hrel
          have G := Lib.hid hg
          have s1 := hg.size
          have OB := Lib.hid ob
          have OA := Lib.hid oa
          have RA := Lib.hid ra
          have OS := Lib.hid os
          have l2 := oa.lt
          have l3 := os.lt
          obtain ⟨a0, a1, a2⟩ := OA.out.three
          obtain ⟨p0, p1⟩ := OB.out.two
          by_cases hlt : k < n
          · have rh := RA.out.H
            rw [hlh] at rh
            obtain ⟨b, off, hA, hb, hcell⟩ := rh.at_ (by omega)
            subst hA
            obtain ⟨b2, off2, hA2, hb2, hcell2⟩ := HR.out.cells (by omega)
            subst hA2
            obtain ⟨d0, d1, _⟩ := hcell2 k hlt
            have d0 := kept hg d0
            have d1 := kept hg d1
            have e0 := hcell (2 * k) (by omega)
            have e1 := hcell (2 * k + 1) (by omega)
            rw [heads_at ls (2 * n) (2 * k) (by omega), head_even] at e0
            rw [heads_at ls (2 * n) (2 * k + 1) (by omega), head_odd] at e1
            have st0 : wr.cell? ⟨w1.heap.size + 1, 2 * k, none⟩ = some (.int .i64 1) := by rw [OS.out.cell (2 * k), seen_get _ (by omega), HONE.out _ (by omega)]; rfl
            have st1 : wr.cell? ⟨w1.heap.size + 1, 2 * k + 1, none⟩ = some (.int .i64 1) := by rw [OS.out.cell (2 * k + 1), seen_get _ (by omega), HONE.out _ (by omega)]; rfl
            clear rh hcell hcell2 hg ob oa ra os hlo hlh hls
            generalize at3 ls k = l at *
            obtain ⟨f, t, cp⟩ := l
            simp only at d0 d1 e0 e1
            have x0 : IntKind.i64.wrap (2 * (k : Int)) = 2 * (k : Int) := IntWalk.i64_in _ (by omega)
            have x1 : IntKind.i64.wrap (2 * (k : Int) + 1) = 2 * (k : Int) + 1 := IntWalk.i64_in _ (by omega)
            have y0 : (2 * (k : Int)).toNat = 2 * k := by omega
            have y1 : (2 * (k : Int) + 1).toNat = 2 * k + 1 := by omega
            have z0 : (0 : Int) ≤ 2 * (k : Int) := by omega
            have z1 : (0 : Int) ≤ 2 * (k : Int) + 1 := by omega
            have z2 : 2 * (k : Int) < (m2 : Int) := by omega
            have z3 : 2 * (k : Int) + 1 < (m2 : Int) := by omega
            go_wp2
            go_quiet (fail)
            go_wp2
            go_roundw
            case rel => exact ⟨k + 1, by omega, by go_num, grown_drewN G.out _, OB.out.drewN _, OA.out.drewN _, RA.out.grown (by omega) (grown_drewN (World.grownBy.refl _ _) _), OS.out.drewN _⟩
            case measure => simp [intOf]; omega
          · clear hg ob oa ra os
            go_wp2_with fail
            refine (awake5_any _).mono ?_
            rintro e w4 ⟨rfl, k4⟩
            have G := Lib.hid (grown_trans G.out k4)
            clear k4
            go_wp2
            go_ret
            exact ⟨rfl, below_of G.out⟩

end Go.Proofs.Ytfldicenikkacaa
