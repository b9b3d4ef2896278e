/-
  The reference's There, Without, InsertError; SameItems. The reference's InsertError and With. SameItems; the reference's Meets of items. Rows of items and trees written over. Two trees that are the same. CopyTree. The reference's Points of items. What package tree tells, told over allF.
-/
import Derived.Test.YtgfehlmiejnonaaTreeC
import Derived.Test.YtgfehlmiejnonaaSpanB

set_option maxRecDepth 20000
namespace Go.Proofs.Ytgfehlmiejnonaa
open Go.RowKit

theorem it_mem {xs : List It} {k : Nat} {x : It} (hk : k < xs.length) (h : it xs k = x) : x ∈ xs := by
  subst h
  unfold it
  rw [List.getElem?_eq_getElem hk]
  exact List.getElem_mem hk

theorem it_none {xs : List It} {x : It} (h : ∀ i, i < xs.length → it xs i ≠ x) : x ∉ xs := by
  intro hx
  obtain ⟨i, hi, rfl⟩ := List.getElem_of_mem hx
  exact h i hi (by simp [it, hi])

def ThereRel (w : World) (n : Nat) (xs : List It) (x : It) (i : Value) (wr : World) : Prop :=
  ∃ k : Nat, k ≤ n ∧ i = .int .i64 (k : Nat) ∧ w.grownBy wr none ∧ Own wr w.heap.size 50 [.int .i64 x.1, .int .i64 x.2.1, .int .i64 x.2.2] ∧ ∀ i, i < k → it xs i ≠ x

set_option maxHeartbeats 1000000 in
theorem There_any (x0 x1 x2 : Int) (A : Option Addr) (n c : Nat) (xs : List It) (w : World) {B : Nat} (h : Elts itemE w B A n xs) (hB : B ≤ w.heap.size) :
    Calls Try.prog 29 #[.slice A n c, .agg #[.int .i64 x0, .int .i64 x1, .int .i64 x2]] w (Says w (.bool (decide ((x0, x1, x2) ∈ xs)))) := by
  have hn := h.small
  have HLEN := Lib.hid h.len
  have HR := Lib.hid h
  have HS : Hid (ThereRel w n xs (x0, x1, x2) (.int .i64 0) (w.alloc (.cells #[.int .i64 x0, .int .i64 x1, .int .i64 x2] 50))) := ⟨0, Nat.zero_le _, rfl, grow0 _ _, Own.new w 50 [.int .i64 x0, .int .i64 x1, .int .i64 x2], fun i hi => absurd hi (Nat.not_lt_zero _)⟩
  clear h
  go_enter Try.func29, Try.ntmps29
  go_wp2
  go_loopw [5] (fun i wr => ThereRel w n xs (x0, x1, x2) i wr) (fun i _ => n - (intOf i).toNat)
  case atStart => exact HS.out
  case round =>
    clear HS
    obtain ⟨k, hk, rfl, hg, ho, hall⟩ := hrel
    have G := Lib.hid hg
    have O := Lib.hid ho
    have HALL := Lib.hid hall
    obtain ⟨c0, c1, c2⟩ := ho.three
    clear hg ho hall
    by_cases hlt : k < n
    · obtain ⟨b, off, rfl, _, hcell⟩ := (HR.out.grown hB G.out).its (by omega)
      obtain ⟨d0, d1, d2⟩ := hcell k hlt
      have HM := Lib.hid (fun h => it_mem (xs := xs) (k := k) (x := (x0, x1, x2)) (by rw [HLEN.out]; exact hlt) h)
      have HX : Hid (it xs k ≠ (x0, x1, x2) → ∀ i, i < k + 1 → it xs i ≠ (x0, x1, x2)) := fun hx i hi => by
        rcases Nat.lt_or_ge i k with h | h
        · exact HALL.out i h
        · rw [show i = k by omega]; exact hx
      clear hcell HALL
      generalize it xs k = y at *
      by_cases hxy : y = (x0, x1, x2)
      · have E : Hid (decide ((x0, x1, x2) ∈ xs) = true) := by rw [Hid]; exact decide_eq_true (HM.out hxy)
        subst hxy
        clear HM HX
        go_wp2
        go_quiet (fail)
        go_wp2
        go_ret
        exact ⟨ret_bool E.out, by first | exact G.out | exact grown_drew G.out | exact grown_drewN G.out _⟩
      · have HX2 := Lib.hid (HX.out hxy)
        obtain ⟨y0, y1, y2⟩ := y
        simp only at d0 d1 d2
        have hb : ¬ (y0 = x0 ∧ y1 = x1 ∧ y2 = x2) := by simpa using hxy
        clear hxy HM HX
        by_cases z0 : y0 = x0
        · have t0 : (y0 == x0) = true := by simpa using z0
          by_cases z1 : y1 = x1
          · have t1 : (y1 == x1) = true := by simpa using z1
            have z2 : (y2 == x2) = false := by simpa using fun e => hb ⟨z0, z1, e⟩
            clear hb z0 z1
            go_wp2
            go_quiet (fail)
            go_wp2
            go_roundw
            case rel => exact ⟨k + 1, by omega, by go_num, (by first | exact G.out | exact grown_drew G.out | exact grown_drewN G.out _), (by first | exact O.out | exact O.out.drewN _), HX2.out⟩
            case measure => simp [intOf]; omega
          · have z2 : (y1 == x1) = false := by simpa using z1
            clear hb z0 z1
            go_wp2
            go_quiet (fail)
            go_wp2
            go_roundw
            case rel => exact ⟨k + 1, by omega, by go_num, (by first | exact G.out | exact grown_drew G.out | exact grown_drewN G.out _), (by first | exact O.out | exact O.out.drewN _), HX2.out⟩
            case measure => simp [intOf]; omega
        · have z2 : (y0 == x0) = false := by simpa using z0
          clear hb z0
          go_wp2
          go_quiet (fail)
          go_wp2
          go_roundw
          case rel => exact ⟨k + 1, by omega, by go_num, (by first | exact G.out | exact grown_drew G.out | exact grown_drewN G.out _), (by first | exact O.out | exact O.out.drewN _), HX2.out⟩
          case measure => simp [intOf]; omega
    · obtain rfl : k = n := by omega
      have E : Hid (decide ((x0, x1, x2) ∈ xs) = false) := by rw [Hid]; exact decide_eq_false (it_none fun i hi => HALL.out i (by rw [HLEN.out] at hi; exact hi))
      go_wp2
      go_ret
      exact ⟨ret_bool E.out, G.out⟩

def WoRel (w : World) (n : Nat) (xs : List It) (x : It) (o i : Value) (wr : World) : Prop :=
  ∃ k : Nat, k ≤ n ∧ i = .int .i64 (k : Nat) ∧ w.grownBy wr none ∧ Own wr w.heap.size 50 [.int .i64 x.1, .int .i64 x.2.1, .int .i64 x.2.2] ∧ MineE itemE wr (w.heap.size + 1) o (withoutF x (xs.take k)).length (withoutF x (xs.take k))

theorem it_take {xs : List It} {k : Nat} (h : k < xs.length) : xs.take (k + 1) = xs.take k ++ [it xs k] := by
  rw [List.take_add_one, it, List.getElem?_eq_getElem h]
  rfl

theorem wo_here {xs : List It} {k : Nat} {x : It} (h : k < xs.length) (e : it xs k = x) : withoutF x (xs.take (k + 1)) = withoutF x (xs.take k) := by
  rw [it_take h, withoutF, List.filter_append, e]
  simp [withoutF]

theorem wo_next {xs : List It} {k : Nat} {x : It} (h : k < xs.length) (e : it xs k ≠ x) : withoutF x (xs.take (k + 1)) = withoutF x (xs.take k) ++ [it xs k] := by
  rw [it_take h, withoutF, List.filter_append]
  simp [withoutF, e]

theorem wo_len (x : It) (xs : List It) : (withoutF x xs).length ≤ xs.length := List.length_filter_le _ _

theorem Own.itemLit {w : World} (x0 x1 x2 : Int) : Elts itemE (w.alloc (.cells #[.int .i64 x0, .int .i64 x1, .int .i64 x2] 50)) (w.heap.size + 1) (some ⟨w.heap.size, 0, none⟩) 1 [(x0, x1, x2)] :=
  Elts.lit (E := itemE) (n := 1) [(x0, x1, x2)] rfl rfl rfl (by simp)

def RowPost (w : World) (xs : List It) (e : Ending) (w' : World) : Prop := ∃ v, e = .returned v ∧ MineE itemE w' w.heap.size v xs.length xs ∧ w.grownBy w' none

set_option maxHeartbeats 2000000 in
theorem Without_any (x0 x1 x2 : Int) (A : Option Addr) (n c : Nat) (xs : List It) (w : World) {B : Nat} (h : Elts itemE w B A n xs) (hB : B ≤ w.heap.size) (h32 : n ≤ 1000) :
    Calls Try.prog 30 #[.slice A n c, .agg #[.int .i64 x0, .int .i64 x1, .int .i64 x2]] w (RowPost w (withoutF (x0, x1, x2) xs)) := by
  have HLEN := Lib.hid h.len
  have HR := Lib.hid h
  have HS : Hid (WoRel w n xs (x0, x1, x2) (.slice none 0 0) (.int .i64 0) (w.alloc (.cells #[.int .i64 x0, .int .i64 x1, .int .i64 x2] 50))) := ⟨0, Nat.zero_le _, rfl, grow0 _ _, Own.new w 50 [.int .i64 x0, .int .i64 x1, .int .i64 x2], MineE.nil _ _ _⟩
  clear h
  go_enter Try.func30, Try.ntmps30
  go_wp2
  go_loopw [5, 6] (fun o i wr => WoRel w n xs (x0, x1, x2) o i wr) (fun _ i _ => n - (intOf i).toNat)
  case atStart => exact HS.out
  case round =>
    clear HS
    obtain ⟨k, hk, rfl, hg, ho, hm⟩ := hrel
    have G := Lib.hid hg
    have O := Lib.hid ho
    have M := Lib.hid hm
    obtain ⟨c0, c1, c2⟩ := ho.three
    clear hg ho hm
    by_cases hlt : k < n
    · obtain ⟨b, off, rfl, _, hcell⟩ := (HR.out.grown hB G.out).its (by omega)
      obtain ⟨d0, d1, d2⟩ := hcell k hlt
      have HW := Lib.hid (wo_here (xs := xs) (k := k) (x := (x0, x1, x2)) (by rw [HLEN.out]; exact hlt))
      have HN := Lib.hid (wo_next (xs := xs) (k := k) (x := (x0, x1, x2)) (by rw [HLEN.out]; exact hlt))
      have hl := wo_len (x0, x1, x2) (xs.take k)
      have hl2 : (xs.take k).length ≤ k := by simp; omega
      clear hcell
      generalize it xs k = y at *
      by_cases hxy : y = (x0, x1, x2)
      · have E := Lib.hid (HW.out hxy)
        subst hxy
        clear HW HN
        go_wp2
        go_quiet (fail)
        go_wp2
        go_roundw
        case rel => exact ⟨k + 1, by omega, by go_num, (by first | exact G.out | exact grown_drew G.out | exact grown_drewN G.out _), (by first | exact O.out | exact O.out.drewN _), by rw [E.out]; (first | exact M.out | exact M.out.kept (grown_drew (World.grownBy.refl _ _)) | exact M.out.kept (grown_drewN (World.grownBy.refl _ _) _))⟩
        case measure => simp [intOf]; omega
      · have E := Lib.hid (HN.out hxy)
        obtain ⟨y0, y1, y2⟩ := y
        simp only at d0 d1 d2
        have hb : ¬ (y0 = x0 ∧ y1 = x1 ∧ y2 = x2) := by simpa using hxy
        clear hxy HW HN
        generalize withoutF (x0, x1, x2) (xs.take k) = os at *
        by_cases z0 : y0 = x0
        · have t0 : (y0 == x0) = true := by simpa using z0
          by_cases z1 : y1 = x1
          · have t1 : (y1 == x1) = true := by simpa using z1
            have z2 : (y2 == x2) = false := by simpa using fun e => hb ⟨z0, z1, e⟩
            clear hb z0 z1
            go_wp2
            go_quiet (fail)
            have kd : wr.grownBy (wr.drewN nq) none := grown_drewN (World.grownBy.refl _ _) _
            have G := Lib.hid (grown_trans G.out kd)
            have O := Lib.hid (O.out.kept kd)
            have M := Lib.hid (M.out.kept kd)
            have d0 := kept kd d0
            have d1 := kept kd d1
            have d2 := kept kd d2
            have c0 := kept kd c0
            have c1 := kept kd c1
            have c2 := kept kd c2
            generalize wr.drewN nq = wq at *
            have MG := Lib.hid (M.out.kept (grow0 wq (.cells #[.int .i64 y0, .int .i64 y1, .int .i64 y2] 50)))
            have hs := G.out.size
            go_wp2_with (first | (at_builtin; refine wpList_appE itemE _ rfl _ _ rfl (w.heap.size + 1) _ os.length os rfl MG.out (B := wq.heap.size + 1) (some ⟨wq.heap.size, 0, none⟩) 1 1 [(y0, y1, y2)] rfl (Own.itemLit y0 y1 y2) (by simp) (by unfold maxLen; omega) (by show (os.length + 1) * 24 ≤ _; omega) (by have := O.out.lt; simp; omega) ?_))
            intro v1 w3 m3 g3 _
            have G3 := Lib.hid (grown_none (grown_alloc G.out (.cells #[.int .i64 y0, .int .i64 y1, .int .i64 y2] 50)) g3 (fun g hg => by have := MG.out.own_ge g hg; omega))
            have O3 := Lib.hid (Own.kept' (O.out.alloc (.cells #[.int .i64 y0, .int .i64 y1, .int .i64 y2] 50)) g3 (fun e => by have := MG.out.own_ge _ e; omega))
            have M3 := Lib.hid m3
            clear m3 g3
            go_wp2
            go_roundw
            case rel => exact ⟨k + 1, by omega, by go_num, G3.out, O3.out, by rw [E.out]; simpa using M3.out⟩
            case measure => simp [intOf]; omega
          · have z2 : (y1 == x1) = false := by simpa using z1
            clear hb z0 z1
            go_wp2
            go_quiet (fail)
            have kd : wr.grownBy (wr.drewN nq) none := grown_drewN (World.grownBy.refl _ _) _
            have G := Lib.hid (grown_trans G.out kd)
            have O := Lib.hid (O.out.kept kd)
            have M := Lib.hid (M.out.kept kd)
            have d0 := kept kd d0
            have d1 := kept kd d1
            have d2 := kept kd d2
            have c0 := kept kd c0
            have c1 := kept kd c1
            have c2 := kept kd c2
            generalize wr.drewN nq = wq at *
            have MG := Lib.hid (M.out.kept (grow0 wq (.cells #[.int .i64 y0, .int .i64 y1, .int .i64 y2] 50)))
            have hs := G.out.size
            go_wp2_with (first | (at_builtin; refine wpList_appE itemE _ rfl _ _ rfl (w.heap.size + 1) _ os.length os rfl MG.out (B := wq.heap.size + 1) (some ⟨wq.heap.size, 0, none⟩) 1 1 [(y0, y1, y2)] rfl (Own.itemLit y0 y1 y2) (by simp) (by unfold maxLen; omega) (by show (os.length + 1) * 24 ≤ _; omega) (by have := O.out.lt; simp; omega) ?_))
            intro v1 w3 m3 g3 _
            have G3 := Lib.hid (grown_none (grown_alloc G.out (.cells #[.int .i64 y0, .int .i64 y1, .int .i64 y2] 50)) g3 (fun g hg => by have := MG.out.own_ge g hg; omega))
            have O3 := Lib.hid (Own.kept' (O.out.alloc (.cells #[.int .i64 y0, .int .i64 y1, .int .i64 y2] 50)) g3 (fun e => by have := MG.out.own_ge _ e; omega))
            have M3 := Lib.hid m3
            clear m3 g3
            go_wp2
            go_roundw
            case rel => exact ⟨k + 1, by omega, by go_num, G3.out, O3.out, by rw [E.out]; simpa using M3.out⟩
            case measure => simp [intOf]; omega
        · have z2 : (y0 == x0) = false := by simpa using z0
          clear hb z0
          go_wp2
          go_quiet (fail)
          have kd : wr.grownBy (wr.drewN nq) none := grown_drewN (World.grownBy.refl _ _) _
          have G := Lib.hid (grown_trans G.out kd)
          have O := Lib.hid (O.out.kept kd)
          have M := Lib.hid (M.out.kept kd)
          have d0 := kept kd d0
          have d1 := kept kd d1
          have d2 := kept kd d2
          have c0 := kept kd c0
          have c1 := kept kd c1
          have c2 := kept kd c2
          generalize wr.drewN nq = wq at *
          have MG := Lib.hid (M.out.kept (grow0 wq (.cells #[.int .i64 y0, .int .i64 y1, .int .i64 y2] 50)))
          have hs := G.out.size
          go_wp2_with (first | (at_builtin; refine wpList_appE itemE _ rfl _ _ rfl (w.heap.size + 1) _ os.length os rfl MG.out (B := wq.heap.size + 1) (some ⟨wq.heap.size, 0, none⟩) 1 1 [(y0, y1, y2)] rfl (Own.itemLit y0 y1 y2) (by simp) (by unfold maxLen; omega) (by show (os.length + 1) * 24 ≤ _; omega) (by have := O.out.lt; simp; omega) ?_))
          intro v1 w3 m3 g3 _
          have G3 := Lib.hid (grown_none (grown_alloc G.out (.cells #[.int .i64 y0, .int .i64 y1, .int .i64 y2] 50)) g3 (fun g hg => by have := MG.out.own_ge g hg; omega))
          have O3 := Lib.hid (Own.kept' (O.out.alloc (.cells #[.int .i64 y0, .int .i64 y1, .int .i64 y2] 50)) g3 (fun e => by have := MG.out.own_ge _ e; omega))
          have M3 := Lib.hid m3
          clear m3 g3
          go_wp2
          go_roundw
          case rel => exact ⟨k + 1, by omega, by go_num, G3.out, O3.out, by rw [E.out]; simpa using M3.out⟩
          case measure => simp [intOf]; omega
    · obtain rfl : k = n := by omega
      have E : Hid (withoutF (x0, x1, x2) (xs.take k) = withoutF (x0, x1, x2) xs) := by rw [Hid, ← HLEN.out, List.take_length]
      go_wp2
      go_ret
      have m := M.out
      rw [E.out] at m
      exact ⟨_, rfl, m.wide (by omega), G.out⟩

end Go.Proofs.Ytgfehlmiejnonaa

set_option maxRecDepth 20000
namespace Go.Proofs.Ytgfehlmiejnonaa
open Go.RowKit

set_option maxHeartbeats 2000000 in
theorem InsertError_any (ns : List Nd) (n : Nat) (r : Int) (A : Option Addr) (c : Nat) (free : List Int) (FA : Option Addr) (fn fc : Nat) (x0 x1 x2 : Int) (w : World) {B B' : Nat} (h : Elts nodeE w B A n ns) (hB : B ≤ w.heap.size) (hf : Row w B' FA fn free) (hB' : B' ≤ w.heap.size) :
    Calls Try.prog 25 #[.agg #[.slice A n c, .int .i64 r, .slice FA fn fc], .agg #[.int .i64 x0, .int .i64 x1, .int .i64 x2]] w (Says w (.int .i64 (insE (allF ns r free) (x0, x1, x2)))) := by
  have GB := Lib.hid (box2 (w := w) (T := 25) (U := 50) [.slice A n c, .int .i64 r, .slice FA fn fc] [.int .i64 x0, .int .i64 x1, .int .i64 x2] (World.grownBy.refl _ none))
  have HR := Lib.hid (h.grown hB GB.out.1)
  have HF := Lib.hid (hf.grown hB' GB.out.1)
  clear h hf
  go_enter Try.func25, Try.ntmps25
  go_wp2_with fail
  refine (RAll_any ns n r A c free FA fn fc _ HR.out (by simp; omega) HF.out (by simp; omega)).mono ?_
  rintro e w1 ⟨v1, rfl, m1, k1⟩
  obtain ⟨g1, _, o2⟩ := box2 [.slice A n c, .int .i64 r, .slice FA fn fc] [.int .i64 x0, .int .i64 x1, .int .i64 x2] k1
  have G := Lib.hid g1
  have O := Lib.hid o2
  have M := Lib.hid m1
  obtain ⟨c0, c1, c2⟩ := o2.three
  clear k1 g1 o2 m1 HR HF GB
  generalize allF ns r free = V at *
  cases V with
  | none =>
    go_wp2
    go_ret
    exact ⟨rfl, G.out⟩
  | some xs =>
    simp only [Option.getD_some] at M
    obtain ⟨A1, k1, rfl, _, _, r1⟩ := M.out.row
    have R1 := Lib.hid r1
    have HL := Lib.hid r1.len
    have hsm := r1.small
    clear r1 M
    go_wp2_with fail
    refine (ItemMay_any x0 x1 x2 _).mono ?_
    rintro e w2 ⟨rfl, g2⟩
    have G := Lib.hid (grown_trans G.out g2)
    have O := Lib.hid (O.out.kept g2)
    have R1 := Lib.hid (R1.out.grown (Nat.le_refl _) g2)
    have hs2 := g2.size
    clear g2 c0 c1 c2
    obtain ⟨c0, c1, c2⟩ := O.out.three
    cases hi : itB (x0, x1, x2)
    · have E : Hid (insE (some xs) (x0, x1, x2) = 1700) := by rw [Hid, insE, if_pos hi]
      go_wp2
      go_ret
      rw [E.out]
      exact ⟨rfl, G.out⟩
    · go_wp2_with fail
      refine (There_any x0 x1 x2 A1 xs.length k1 xs _ R1.out hs2).mono ?_
      rintro e w3 ⟨rfl, g3⟩
      have G := Lib.hid (grown_trans G.out g3)
      clear g3 c0 c1 c2 R1 O
      by_cases hm : (x0, x1, x2) ∈ xs
      · have E : Hid (insE (some xs) (x0, x1, x2) = 1701) := by rw [Hid, insE, if_neg (by simp [hi]), if_pos hm]
        have hd : decide ((x0, x1, x2) ∈ xs) = true := decide_eq_true hm
        rw [hd]
        go_wp2
        go_ret
        rw [E.out]
        exact ⟨rfl, G.out⟩
      · have hd : decide ((x0, x1, x2) ∈ xs) = false := decide_eq_false hm
        rw [hd]
        by_cases hl : xs.length = 32
        · have E : Hid (insE (some xs) (x0, x1, x2) = 1703) := by rw [Hid, insE, if_neg (by simp [hi]), if_neg hm, if_pos hl]
          have hb : ((xs.length : Int) == 32) = true := by simp [hl]
          clear hl hm hd HL
          go_wp2
          go_ret
          rw [E.out]
          exact ⟨rfl, G.out⟩
        · have E : Hid (insE (some xs) (x0, x1, x2) = 0) := by rw [Hid, insE, if_neg (by simp [hi]), if_neg hm, if_neg hl]
          have hb : ((xs.length : Int) == 32) = false := by simp; omega
          clear hl hm hd HL
          go_wp2
          go_ret
          rw [E.out]
          exact ⟨rfl, G.out⟩

theorem with_take {x : It} {xs : List It} {k : Nat} (h : k < xs.length) (e : lessB x (it xs k) = false) (q : withF x xs = xs.take k ++ withF x (xs.drop k)) : withF x xs = xs.take (k + 1) ++ withF x (xs.drop (k + 1)) := by
  have e1 : xs.drop k = it xs k :: xs.drop (k + 1) := by
    rw [List.drop_eq_getElem_cons h, it, List.getElem?_eq_getElem h]
    rfl
  rw [q, it_take h, e1, withF, if_neg (by simp [e])]
  simp

theorem with_put {x : It} {xs : List It} {k : Nat} (h : k < xs.length) (e : lessB x (it xs k) = true) (q : withF x xs = xs.take k ++ withF x (xs.drop k)) : withF x xs = (xs.take k ++ [x] ++ [it xs k]) ++ xs.drop (k + 1) := by
  have e1 : xs.drop k = it xs k :: xs.drop (k + 1) := by
    rw [List.drop_eq_getElem_cons h, it, List.getElem?_eq_getElem h]
    rfl
  rw [q, e1, withF, if_pos e]
  simp

theorem with_more {os : List It} {xs : List It} {k : Nat} (h : k < xs.length) : os ++ xs.drop k = (os ++ [it xs k]) ++ xs.drop (k + 1) := by
  have e1 : xs.drop k = it xs k :: xs.drop (k + 1) := by
    rw [List.drop_eq_getElem_cons h, it, List.getElem?_eq_getElem h]
    rfl
  rw [e1]
  simp

def WithRel (w : World) (n : Nat) (xs : List It) (x : It) (o p i : Value) (wr : World) : Prop :=
  ∃ (k : Nat) (q : Bool) (os : List It), k ≤ n ∧ i = .int .i64 (k : Nat) ∧ p = .bool q ∧ w.grownBy wr none ∧ Own wr w.heap.size 50 [.int .i64 x.1, .int .i64 x.2.1, .int .i64 x.2.2] ∧ MineE itemE wr (w.heap.size + 1) o os.length os ∧ os.length ≤ k + 1 ∧
    (q = true → withF x xs = os ++ xs.drop k) ∧ (q = false → os = xs.take k ∧ withF x xs = xs.take k ++ withF x (xs.drop k))

set_option maxHeartbeats 4000000 in
theorem With_any (x0 x1 x2 : Int) (A : Option Addr) (n c : Nat) (xs : List It) (w : World) {B : Nat} (h : Elts itemE w B A n xs) (hB : B ≤ w.heap.size) (h32 : n ≤ 1000) :
    Calls Try.prog 26 #[.slice A n c, .agg #[.int .i64 x0, .int .i64 x1, .int .i64 x2]] w (RowPost w (withF (x0, x1, x2) xs)) := by
  have HLEN := Lib.hid h.len
  have HR := Lib.hid h
  have HS : Hid (WithRel w n xs (x0, x1, x2) (.slice none 0 0) (.bool false) (.int .i64 0) (w.alloc (.cells #[.int .i64 x0, .int .i64 x1, .int .i64 x2] 50))) := ⟨0, false, [], Nat.zero_le _, rfl, rfl, grow0 _ _, Own.new w 50 [.int .i64 x0, .int .i64 x1, .int .i64 x2], MineE.nil _ _ _, Nat.zero_le _, fun e => (by cases e), fun _ => ⟨rfl, rfl⟩⟩
  clear h
  go_enter Try.func26, Try.ntmps26
  go_wp2
  go_loopw [5, 6, 7] (fun o p i wr => WithRel w n xs (x0, x1, x2) o p i wr) (fun _ _ i _ => n - (intOf i).toNat)
  case atStart => exact HS.out
  case round =>
    clear HS
    obtain ⟨k, q, os, hk, rfl, rfl, hg, ho, hm, hol, hyes, hno⟩ := hrel
    have G := Lib.hid hg
    have O := Lib.hid ho
    have M := Lib.hid hm
    have HY := Lib.hid hyes
    have HN := Lib.hid hno
    obtain ⟨c0, c1, c2⟩ := ho.three
    have hs0 := ho.lt
    clear hg ho hm hyes hno
    by_cases hlt : k < n
    · obtain ⟨b, off, rfl, _, hcell⟩ := (HR.out.grown hB G.out).its (by omega)
      obtain ⟨d0, d1, d2⟩ := hcell k hlt
      have WM := Lib.hid (with_more (os := os) (xs := xs) (k := k) (by rw [HLEN.out]; exact hlt))
      have WT := Lib.hid (with_take (x := (x0, x1, x2)) (xs := xs) (k := k) (by rw [HLEN.out]; exact hlt))
      have WP := Lib.hid (with_put (x := (x0, x1, x2)) (xs := xs) (k := k) (by rw [HLEN.out]; exact hlt))
      have IT := Lib.hid (it_take (xs := xs) (k := k) (by rw [HLEN.out]; exact hlt))
      clear hcell
      obtain ⟨y, hy⟩ : ∃ y, it xs k = y := ⟨_, rfl⟩
      rw [hy] at d0 d1 d2 WM WT WP IT
      obtain ⟨y0, y1, y2⟩ := y
      have HIT := Lib.hid hy
      clear hy
      simp only at d0 d1 d2
      cases q
      case true =>
        clear HN WT WP IT
        go_wp2
        go_quiet (fail)
        have kd : wr.grownBy (wr.drewN nq) none := grown_drewN (World.grownBy.refl _ _) _
        have G := Lib.hid (grown_trans G.out kd)
        have O := Lib.hid (O.out.kept kd)
        have M := Lib.hid (M.out.kept kd)
        have d0 := kept kd d0
        have d1 := kept kd d1
        have d2 := kept kd d2
        clear kd c0 c1 c2 hs0
        generalize wr.drewN nq = wq at *
        have MG := Lib.hid (M.out.kept (grow0 wq (.cells #[.int .i64 y0, .int .i64 y1, .int .i64 y2] 50)))
        have hol3 := O.out.lt
        go_wp2_with (first | (at_builtin; refine wpList_appE itemE _ rfl _ _ rfl (w.heap.size + 1) _ (os).length (os) rfl MG.out (B := wq.heap.size + 1) (some ⟨wq.heap.size, 0, none⟩) 1 1 [(y0, y1, y2)] rfl (Own.itemLit y0 y1 y2) (by simp) (by unfold maxLen; first | omega | (simp; omega)) (by show ((os).length + 1) * 24 ≤ _; first | omega | (simp only [List.length_append, List.length_cons, List.length_nil]; omega)) (by first | omega | (simp; omega) | simp) ?_))
        intro v3 w3 m3 g3 _
        have G := Lib.hid (grown_none (grown_alloc G.out (.cells #[.int .i64 y0, .int .i64 y1, .int .i64 y2] 50)) g3 (fun g hg => by have := MG.out.own_ge g hg; omega))
        have O := Lib.hid (Own.kept' (O.out.alloc (.cells #[.int .i64 y0, .int .i64 y1, .int .i64 y2] 50)) g3 (fun e => by have := MG.out.own_ge _ e; omega))
        have M := Lib.hid m3
        clear m3 g3 MG hol3
        go_wp2
        go_roundw
        case rel => exact ⟨k + 1, true, os ++ [(y0, y1, y2)], by omega, by go_num, rfl, G.out, O.out, by simpa using M.out, by simp; omega, fun _ => by rw [HY.out trivial, WM.out], fun e => (by cases e)⟩
        case measure => simp [intOf]; omega
      case false =>
        have HS : Hid (wr.cell? ⟨b, off + k * 3, none⟩ = some (.int .i64 y0) ∧ wr.cell? ⟨b, off + k * 3 + 1, none⟩ = some (.int .i64 y1) ∧ wr.cell? ⟨b, off + k * 3 + 2, none⟩ = some (.int .i64 y2) ∧ wr.cell? ⟨w.heap.size, 0, none⟩ = some (.int .i64 x0) ∧ wr.cell? ⟨w.heap.size, 0 + 1, none⟩ = some (.int .i64 x1) ∧ wr.cell? ⟨w.heap.size, 0 + 2, none⟩ = some (.int .i64 x2)) := ⟨d0, d1, d2, c0, c1, c2⟩
        have GK : Hid (wr.grownBy wr none) := World.grownBy.refl _ _
        cases hq : lessB (x0, x1, x2) (y0, y1, y2)
        case false =>
          have CL : Hid (∀ wx : World, Calls Try.prog 36 #[.agg #[.int .i64 x0, .int .i64 x1, .int .i64 x2], .agg #[.int .i64 y0, .int .i64 y1, .int .i64 y2]] wx (Says wx (.bool false))) := fun wx => by
            have h := Less_any x0 x1 x2 y0 y1 y2 wx
            rw [hq] at h
            exact h
          clear d0 d1 d2 c0 c1 c2
          go_wp2_with fail
          go_region_held3 (fun w' : World => w'.cell? ⟨b, off + k * 3, none⟩ = some (.int .i64 y0) ∧ w'.cell? ⟨b, off + k * 3 + 1, none⟩ = some (.int .i64 y1) ∧ w'.cell? ⟨b, off + k * 3 + 2, none⟩ = some (.int .i64 y2) ∧ w'.cell? ⟨w.heap.size, 0, none⟩ = some (.int .i64 x0) ∧ w'.cell? ⟨w.heap.size, 0 + 1, none⟩ = some (.int .i64 x1) ∧ w'.cell? ⟨w.heap.size, 0 + 2, none⟩ = some (.int .i64 x2))
              (exact HS.out)
              (first
                | (go_at_call 36; refine (CL.out _).mono ?_; rintro e w8 ⟨rfl, g⟩; have GK : Hid (wr.grownBy w8 none) := (by first | exact grown_trans GK.out g | exact grown_trans (grown_drew GK.out) g | exact grown_trans (grown_drewN GK.out _) g); have HS := Lib.hid (held6 g HS.out); clear g))
          have G := Lib.hid (grown_trans G.out GK.out)
          have O := Lib.hid (O.out.kept GK.out)
          have M := Lib.hid (M.out.kept GK.out)
          obtain ⟨d0, d1, d2, c0, c1, c2⟩ := HS.out
          clear HS GK hs0
          have MG := Lib.hid (M.out.kept (grow0 w8 (.cells #[.int .i64 y0, .int .i64 y1, .int .i64 y2] 50)))
          have hol3 := O.out.lt
          go_wp2_with (first | (at_builtin; refine wpList_appE itemE _ rfl _ _ rfl (w.heap.size + 1) _ (os).length (os) rfl MG.out (B := w8.heap.size + 1) (some ⟨w8.heap.size, 0, none⟩) 1 1 [(y0, y1, y2)] rfl (Own.itemLit y0 y1 y2) (by simp) (by unfold maxLen; first | omega | (simp; omega)) (by show ((os).length + 1) * 24 ≤ _; first | omega | (simp only [List.length_append, List.length_cons, List.length_nil]; omega)) (by first | omega | (simp; omega) | simp) ?_))
          intro v3 w3 m3 g3 _
          have G := Lib.hid (grown_none (grown_alloc G.out (.cells #[.int .i64 y0, .int .i64 y1, .int .i64 y2] 50)) g3 (fun g hg => by have := MG.out.own_ge g hg; omega))
          have O := Lib.hid (Own.kept' (O.out.alloc (.cells #[.int .i64 y0, .int .i64 y1, .int .i64 y2] 50)) g3 (fun e => by have := MG.out.own_ge _ e; omega))
          have M := Lib.hid m3
          clear m3 g3 MG hol3
          go_wp2
          go_roundw
          case rel => exact ⟨k + 1, false, os ++ [(y0, y1, y2)], by omega, by go_num, rfl, G.out, O.out, by simpa using M.out, by simp; omega, fun e => (by cases e), fun _ => ⟨by rw [IT.out, (HN.out trivial).1], WT.out hq (HN.out trivial).2⟩⟩
          case measure => simp [intOf]; omega
        case true =>
          have CL : Hid (∀ wx : World, Calls Try.prog 36 #[.agg #[.int .i64 x0, .int .i64 x1, .int .i64 x2], .agg #[.int .i64 y0, .int .i64 y1, .int .i64 y2]] wx (Says wx (.bool true))) := fun wx => by
            have h := Less_any x0 x1 x2 y0 y1 y2 wx
            rw [hq] at h
            exact h
          clear d0 d1 d2 c0 c1 c2
          go_wp2_with fail
          go_region_held3 (fun w' : World => w'.cell? ⟨b, off + k * 3, none⟩ = some (.int .i64 y0) ∧ w'.cell? ⟨b, off + k * 3 + 1, none⟩ = some (.int .i64 y1) ∧ w'.cell? ⟨b, off + k * 3 + 2, none⟩ = some (.int .i64 y2) ∧ w'.cell? ⟨w.heap.size, 0, none⟩ = some (.int .i64 x0) ∧ w'.cell? ⟨w.heap.size, 0 + 1, none⟩ = some (.int .i64 x1) ∧ w'.cell? ⟨w.heap.size, 0 + 2, none⟩ = some (.int .i64 x2))
              (exact HS.out)
              (first
                | (go_at_call 36; refine (CL.out _).mono ?_; rintro e w8 ⟨rfl, g⟩; have GK : Hid (wr.grownBy w8 none) := (by first | exact grown_trans GK.out g | exact grown_trans (grown_drew GK.out) g | exact grown_trans (grown_drewN GK.out _) g); have HS := Lib.hid (held6 g HS.out); clear g))
          have G := Lib.hid (grown_trans G.out GK.out)
          have O := Lib.hid (O.out.kept GK.out)
          have M := Lib.hid (M.out.kept GK.out)
          obtain ⟨d0, d1, d2, c0, c1, c2⟩ := HS.out
          clear HS GK hs0
          clear d0 d1 d2
          have MG := Lib.hid (M.out.kept (grow0 w8 (.cells #[.int .i64 x0, .int .i64 x1, .int .i64 x2] 50)))
          have hol3 := O.out.lt
          go_wp2_with (first | (at_builtin; refine wpList_appE itemE _ rfl _ _ rfl (w.heap.size + 1) _ (os).length (os) rfl MG.out (B := w8.heap.size + 1) (some ⟨w8.heap.size, 0, none⟩) 1 1 [(x0, x1, x2)] rfl (Own.itemLit x0 x1 x2) (by simp) (by unfold maxLen; first | omega | (simp; omega)) (by show ((os).length + 1) * 24 ≤ _; first | omega | (simp only [List.length_append, List.length_cons, List.length_nil]; omega)) (by first | omega | (simp; omega) | simp) ?_))
          intro v3 w3 m3 g3 _
          have G := Lib.hid (grown_none (grown_alloc G.out (.cells #[.int .i64 x0, .int .i64 x1, .int .i64 x2] 50)) g3 (fun g hg => by have := MG.out.own_ge g hg; omega))
          have O := Lib.hid (Own.kept' (O.out.alloc (.cells #[.int .i64 x0, .int .i64 x1, .int .i64 x2] 50)) g3 (fun e => by have := MG.out.own_ge _ e; omega))
          have M := Lib.hid m3
          clear m3 g3 MG hol3
          obtain ⟨b', off', hA', _, hcell⟩ := (HR.out.grown hB G.out).its (by omega)
          injection hA' with hA'
          injection hA' with e1 e2
          subst e1 e2
          obtain ⟨d0, d1, d2⟩ := hcell k hlt
          rw [HIT.out] at d0 d1 d2
          simp only at d0 d1 d2
          clear hcell
          have MG := Lib.hid (M.out.kept (grow0 w3 (.cells #[.int .i64 y0, .int .i64 y1, .int .i64 y2] 50)))
          have hol3 := O.out.lt
          go_wp2_with (first | (at_builtin; refine wpList_appE itemE _ rfl _ _ rfl (w.heap.size + 1) _ (os.length + 1) (os ++ [(x0, x1, x2)]) rfl MG.out (B := w3.heap.size + 1) (some ⟨w3.heap.size, 0, none⟩) 1 1 [(y0, y1, y2)] rfl (Own.itemLit y0 y1 y2) (by simp) (by unfold maxLen; first | omega | (simp; omega)) (by show (os.length + 1 + 1) * 24 ≤ _; first | omega | (simp only [List.length_append, List.length_cons, List.length_nil]; omega)) (by first | omega | (simp; omega) | simp) ?_))
          intro v4 w4 m3 g3 _
          have G := Lib.hid (grown_none (grown_alloc G.out (.cells #[.int .i64 y0, .int .i64 y1, .int .i64 y2] 50)) g3 (fun g hg => by have := MG.out.own_ge g hg; omega))
          have O := Lib.hid (Own.kept' (O.out.alloc (.cells #[.int .i64 y0, .int .i64 y1, .int .i64 y2] 50)) g3 (fun e => by have := MG.out.own_ge _ e; omega))
          have M := Lib.hid m3
          clear m3 g3 MG hol3
          go_wp2
          go_roundw
          case rel => exact ⟨k + 1, true, os ++ [(x0, x1, x2)] ++ [(y0, y1, y2)], by omega, by go_num, rfl, G.out, O.out, by simpa using M.out, by have e := congrArg List.length (HN.out trivial).1; simp at e ⊢; omega, fun _ => by rw [WP.out hq (HN.out trivial).2, (HN.out trivial).1], fun e => (by cases e)⟩
          case measure => simp [intOf]; omega
    · obtain rfl : k = n := by omega
      cases q
      case true =>
        have E : Hid (withF (x0, x1, x2) xs = os) := by
          have h := HY.out rfl
          rw [Hid, h, ← HLEN.out, List.drop_length, List.append_nil]
        clear HY HN
        go_wp2
        go_ret
        rw [E.out]
        exact ⟨_, rfl, M.out.wide (by omega), G.out⟩
      case false =>
        have E : Hid (withF (x0, x1, x2) xs = os ++ [(x0, x1, x2)]) := by
          have h := HN.out rfl
          rw [Hid, h.2, h.1, ← HLEN.out, List.drop_length]
          rfl
        clear HY HN
        go_upto_region 11 with fail
        have MG := Lib.hid (M.out.kept (grow0 wr (.cells #[.int .i64 x0, .int .i64 x1, .int .i64 x2] 50)))
        have hol3 := O.out.lt
        go_wp2_with (first | (at_builtin; refine wpList_appE itemE _ rfl _ _ rfl (w.heap.size + 1) _ (os).length (os) rfl MG.out (B := wr.heap.size + 1) (some ⟨wr.heap.size, 0, none⟩) 1 1 [(x0, x1, x2)] rfl (Own.itemLit x0 x1 x2) (by simp) (by unfold maxLen; first | omega | (simp; omega)) (by show ((os).length + 1) * 24 ≤ _; first | omega | (simp only [List.length_append, List.length_cons, List.length_nil]; omega)) (by first | omega | (simp; omega) | simp) ?_))
        intro v3 w3 m3 g3 _
        have G := Lib.hid (grown_none (grown_alloc G.out (.cells #[.int .i64 x0, .int .i64 x1, .int .i64 x2] 50)) g3 (fun g hg => by have := MG.out.own_ge g hg; omega))
        have O := Lib.hid (Own.kept' (O.out.alloc (.cells #[.int .i64 x0, .int .i64 x1, .int .i64 x2] 50)) g3 (fun e => by have := MG.out.own_ge _ e; omega))
        have M := Lib.hid m3
        clear m3 g3 MG hol3
        go_wp2
        go_ret
        rw [E.out]
        have m := M.out
        exact ⟨_, rfl, (show MineE itemE w3 (w.heap.size + 1) v3 (os ++ [(x0, x1, x2)]).length (os ++ [(x0, x1, x2)]) by simpa using m).wide (by omega), G.out⟩

end Go.Proofs.Ytgfehlmiejnonaa

set_option maxRecDepth 20000
namespace Go.Proofs.Ytgfehlmiejnonaa
open Go.RowKit

theorem items_ne {xs ys : List It} {k : Nat} (h : it xs k ≠ it ys k) : xs ≠ ys := fun e => h (by rw [e])
theorem items_eq {xs ys : List It} (hl : xs.length = ys.length) (h : ∀ i, i < xs.length → it xs i = it ys i) : xs = ys := by
  refine List.ext_getElem hl fun i h1 h2 => ?_
  have := h i h1
  simpa [it, h1, h2] using this

def SameIRelT (w : World) (n : Nat) (xs ys : List It) (i : Value) (wr : World) : Prop :=
  ∃ k : Nat, k ≤ n ∧ i = .int .i64 (k : Nat) ∧ w.grownBy wr none ∧ ∀ i, i < k → it xs i = it ys i

set_option maxHeartbeats 1000000 in
theorem SameItems_any (A : Option Addr) (n c : Nat) (xs : List It) (A' : Option Addr) (n' c' : Nat) (ys : List It) (w : World) {B B' : Nat} (h : Elts itemE w B A n xs) (hB : B ≤ w.heap.size) (h' : Elts itemE w B' A' n' ys) (hB' : B' ≤ w.heap.size) :
    Calls Try.prog 18 #[.slice A n c, .slice A' n' c'] w (Says w (.bool (decide (xs = ys)))) := by
  have hn := h.small
  have hn' := h'.small
  have HL := Lib.hid h.len
  have HL' := Lib.hid h'.len
  have HR := Lib.hid h
  have HR' := Lib.hid h'
  clear h h'
  by_cases hne : n = n'
  · subst hne
    go_enter Try.func18, Try.ntmps18
    go_wp2
    go_loopw [5] (fun i wr => SameIRelT w n xs ys i wr) (fun i _ => n - (intOf i).toNat)
    case atStart => exact ⟨0, Nat.zero_le _, rfl, World.grownBy.refl _ _, fun i hi => absurd hi (Nat.not_lt_zero _)⟩
    case round =>
      obtain ⟨k, hk, rfl, hg, hall⟩ := hrel
      have G := Lib.hid hg
      have HALL := Lib.hid hall
      clear hg hall
      by_cases hlt : k < n
      · obtain ⟨b, off, rfl, _, hcell⟩ := (HR.out.grown hB G.out).its (by omega)
        obtain ⟨b', off', rfl, _, hcell'⟩ := (HR'.out.grown hB' G.out).its (by omega)
        obtain ⟨d0, d1, d2⟩ := hcell k hlt
        obtain ⟨p0, p1, p2⟩ := hcell' k hlt
        have HN := Lib.hid (items_ne (xs := xs) (ys := ys) (k := k))
        have HX : Hid (it xs k = it ys k → ∀ i, i < k + 1 → it xs i = it ys i) := fun hx i hi => by
          rcases Nat.lt_or_ge i k with h | h
          · exact HALL.out i h
          · rw [show i = k by omega]; exact hx
        clear hcell hcell' HALL
        generalize it xs k = y at *
        generalize it ys k = x at *
        by_cases hxy : y = x
        · have HX2 := Lib.hid (HX.out hxy)
          clear HX HN
          subst hxy
          go_wp2
          go_quiet (fail)
          go_wp2
          go_roundw
          case rel => exact ⟨k + 1, by omega, by go_num, (by first | exact G.out | exact grown_drew G.out | exact grown_drewN G.out _), HX2.out⟩
          case measure => simp [intOf]; omega
        · have E : Hid (decide (xs = ys) = false) := by rw [Hid]; exact decide_eq_false (HN.out hxy)
          obtain ⟨y0, y1, y2⟩ := y
          obtain ⟨x0, x1, x2⟩ := x
          simp only at d0 d1 d2 p0 p1 p2
          have hb : ¬ (y0 = x0 ∧ y1 = x1 ∧ y2 = x2) := by simpa using hxy
          clear hxy HN HX
          by_cases z0 : y0 = x0
          · have t0 : (y0 == x0) = true := by simpa using z0
            by_cases z1 : y1 = x1
            · have t1 : (y1 == x1) = true := by simpa using z1
              have z2 : (y2 == x2) = false := by simpa using fun e => hb ⟨z0, z1, e⟩
              clear hb z0 z1
              go_wp2
              go_quiet (fail)
              go_wp2
              go_ret
              exact ⟨ret_bool E.out, by first | exact G.out | exact grown_drew G.out | exact grown_drewN G.out _⟩
            · have z2 : (y1 == x1) = false := by simpa using z1
              clear hb z0 z1
              go_wp2
              go_quiet (fail)
              go_wp2
              go_ret
              exact ⟨ret_bool E.out, by first | exact G.out | exact grown_drew G.out | exact grown_drewN G.out _⟩
          · have z2 : (y0 == x0) = false := by simpa using z0
            clear hb z0
            go_wp2
            go_quiet (fail)
            go_wp2
            go_ret
            exact ⟨ret_bool E.out, by first | exact G.out | exact grown_drew G.out | exact grown_drewN G.out _⟩
      · have E : Hid (decide (xs = ys) = true) := by rw [Hid]; exact decide_eq_true (items_eq (by rw [HL.out, HL'.out]) (fun i hi => HALL.out i (by rw [HL.out] at hi; omega)))
        go_wp2
        go_ret
        exact ⟨ret_bool E.out, G.out⟩
  · have hb : ((n : Int) != (n' : Int)) = true := by simp; omega
    have E : Hid (decide (xs = ys) = false) := by rw [Hid]; exact decide_eq_false fun e => hne (by rw [← HL.out, ← HL'.out, e])
    go_enter Try.func18, Try.ntmps18
    go_wp2
    go_ret
    exact ⟨ret_bool E.out, World.grownBy.refl _ _⟩

theorem RMeets1_any (a b c d : Int) (w : World) : Calls Try.prog 44 #[.agg #[.int .i64 a, .int .i64 b], .agg #[.int .i64 c, .int .i64 d]] w (Says w (.bool (meets a b c d))) := by
  go_enter Try.func44, Try.ntmps44
  go_wp2_with fail
  refine (BothRef_any a b c d _).mono ?_
  rintro e w1 ⟨rfl, k⟩
  obtain ⟨g1, _, _⟩ := boxes2 k
  have G := Lib.hid g1
  clear k g1
  simp only [span]
  go_wp2
  go_ret
  exact ⟨rfl, by first | exact G.out | exact grown_trans G.out (grow0 _ _)⟩

theorem mt_next {xs : List It} {k : Nat} {a b : Int} (h : k < xs.length) : meetsF a b (xs.take (k + 1)) = if meets (it xs k).1 (it xs k).2.1 a b = true then meetsF a b (xs.take k) ++ [it xs k] else meetsF a b (xs.take k) := by
  rw [it_take h, meetsF, List.filter_append]
  by_cases q : meets (it xs k).1 (it xs k).2.1 a b = true
  · simp [meetsF, q]
  · simp [meetsF, q]

theorem held4d {w w1 : World} {x0 x1 y0 y1 : Value} (g : w.grownBy w1 none) {ba bb o p : Nat} (h : w.cell? ⟨ba, o, none⟩ = some x0 ∧ w.cell? ⟨ba, o + 1, none⟩ = some x1 ∧ w.cell? ⟨bb, p, none⟩ = some y0 ∧ w.cell? ⟨bb, p + 1, none⟩ = some y1) :
    w1.cell? ⟨ba, o, none⟩ = some x0 ∧ w1.cell? ⟨ba, o + 1, none⟩ = some x1 ∧ w1.cell? ⟨bb, p, none⟩ = some y0 ∧ w1.cell? ⟨bb, p + 1, none⟩ = some y1 :=
  ⟨kept g h.1, kept g h.2.1, kept g h.2.2.1, kept g h.2.2.2⟩

def MtRel (w : World) (n : Nat) (xs : List It) (a b : Int) (o i : Value) (wr : World) : Prop :=
  ∃ k : Nat, k ≤ n ∧ i = .int .i64 (k : Nat) ∧ w.grownBy wr none ∧ Own wr w.heap.size 27 [.int .i64 a, .int .i64 b] ∧ MineE itemE wr (w.heap.size + 1) o (meetsF a b (xs.take k)).length (meetsF a b (xs.take k))

set_option maxHeartbeats 2000000 in
theorem RMeetsI_any (a b : Int) (A : Option Addr) (n c : Nat) (xs : List It) (w : World) {B : Nat} (h : Elts itemE w B A n xs) (hB : B ≤ w.heap.size) (h32 : n ≤ 1000) :
    Calls Try.prog 21 #[.slice A n c, .agg #[.int .i64 a, .int .i64 b]] w (RowPost w (meetsF a b xs)) := by
  have HLEN := Lib.hid h.len
  have HR := Lib.hid h
  have HS : Hid (MtRel w n xs a b (.slice none 0 0) (.int .i64 0) (w.alloc (.cells #[.int .i64 a, .int .i64 b] 27))) := ⟨0, Nat.zero_le _, rfl, grow0 _ _, Own.new w 27 [.int .i64 a, .int .i64 b], MineE.nil _ _ _⟩
  clear h
  go_enter Try.func21, Try.ntmps21
  go_wp2
  go_loopw [5, 6] (fun o i wr => MtRel w n xs a b o i wr) (fun _ i _ => n - (intOf i).toNat)
  case atStart => exact HS.out
  case round =>
    clear HS
    obtain ⟨k, hk, rfl, hg, ho, hm⟩ := hrel
    have G := Lib.hid hg
    have O := Lib.hid ho
    have M := Lib.hid hm
    obtain ⟨c0, c1⟩ := ho.two
    clear hg ho hm
    by_cases hlt : k < n
    · obtain ⟨bb, off, rfl, _, hcell⟩ := (HR.out.grown hB G.out).its (by omega)
      obtain ⟨d0, d1, d2⟩ := hcell k hlt
      have HN := Lib.hid (mt_next (xs := xs) (k := k) (a := a) (b := b) (by rw [HLEN.out]; exact hlt))
      have hl : (meetsF a b (xs.take k)).length ≤ k := Nat.le_trans (List.length_filter_le _ _) (by simp; omega)
      clear hcell
      generalize it xs k = y at *
      obtain ⟨y0, y1, y2⟩ := y
      simp only at d0 d1 d2 HN
      generalize meetsF a b (xs.take k) = os at *
      have HS : Hid (wr.cell? ⟨bb, off + k * 3, none⟩ = some (.int .i64 y0) ∧ wr.cell? ⟨bb, off + k * 3 + 1, none⟩ = some (.int .i64 y1) ∧ wr.cell? ⟨w.heap.size, 0, none⟩ = some (.int .i64 a) ∧ wr.cell? ⟨w.heap.size, 0 + 1, none⟩ = some (.int .i64 b)) := ⟨d0, d1, c0, c1⟩
      have D2 := Lib.hid d2
      have GK : Hid (wr.grownBy wr none) := World.grownBy.refl _ _
      cases hq : meets y0 y1 a b
      case false =>
        have E := HN.out
        rw [hq] at E
        have E2 := Lib.hid E
        have CL : Hid (∀ wx : World, Calls Try.prog 44 #[.agg #[.int .i64 y0, .int .i64 y1], .agg #[.int .i64 a, .int .i64 b]] wx (Says wx (.bool false))) := fun wx => by
          have h := RMeets1_any y0 y1 a b wx
          rw [hq] at h
          exact h
        clear d0 d1 d2 c0 c1 E HN hq
        go_wp2_with fail
        go_region_held3 (fun w' : World => w'.cell? ⟨bb, off + k * 3, none⟩ = some (.int .i64 y0) ∧ w'.cell? ⟨bb, off + k * 3 + 1, none⟩ = some (.int .i64 y1) ∧ w'.cell? ⟨w.heap.size, 0, none⟩ = some (.int .i64 a) ∧ w'.cell? ⟨w.heap.size, 0 + 1, none⟩ = some (.int .i64 b))
          (exact HS.out)
          (first
            | (go_at_call 44; refine (CL.out _).mono ?_; rintro e w8 ⟨rfl, g⟩; have GK : Hid (wr.grownBy w8 none) := (by first | exact grown_trans GK.out g | exact grown_trans (grown_drew GK.out) g | exact grown_trans (grown_drewN GK.out _) g); have HS := Lib.hid (held4d g HS.out); clear g))
        go_wp2
        go_roundw
        case rel => exact ⟨k + 1, by omega, by go_num, grown_trans G.out GK.out, O.out.kept GK.out, by rw [E2.out]; exact M.out.kept GK.out⟩
        case measure => simp [intOf]; omega
      case true =>
        have E := HN.out
        rw [hq] at E
        have E2 := Lib.hid E
        have CL : Hid (∀ wx : World, Calls Try.prog 44 #[.agg #[.int .i64 y0, .int .i64 y1], .agg #[.int .i64 a, .int .i64 b]] wx (Says wx (.bool true))) := fun wx => by
          have h := RMeets1_any y0 y1 a b wx
          rw [hq] at h
          exact h
        clear d0 d1 d2 c0 c1 E HN hq
        go_wp2_with fail
        go_region_held3 (fun w' : World => w'.cell? ⟨bb, off + k * 3, none⟩ = some (.int .i64 y0) ∧ w'.cell? ⟨bb, off + k * 3 + 1, none⟩ = some (.int .i64 y1) ∧ w'.cell? ⟨w.heap.size, 0, none⟩ = some (.int .i64 a) ∧ w'.cell? ⟨w.heap.size, 0 + 1, none⟩ = some (.int .i64 b))
          (exact HS.out)
          (first
            | (go_at_call 44; refine (CL.out _).mono ?_; rintro e w8 ⟨rfl, g⟩; have GK : Hid (wr.grownBy w8 none) := (by first | exact grown_trans GK.out g | exact grown_trans (grown_drew GK.out) g | exact grown_trans (grown_drewN GK.out _) g); have HS := Lib.hid (held4d g HS.out); clear g))
        have G := Lib.hid (grown_trans G.out GK.out)
        have O := Lib.hid (O.out.kept GK.out)
        have M := Lib.hid (M.out.kept GK.out)
        obtain ⟨d0, d1, c0, c1⟩ := HS.out
        have d2 := kept GK.out D2.out
        have MG := Lib.hid (M.out.kept (grow0 w8 (.cells #[.int .i64 y0, .int .i64 y1, .int .i64 y2] 50)))
        have hol3 := O.out.lt
        clear HS D2 c0 c1
        go_wp2_with (first | (at_builtin; refine wpList_appE itemE _ rfl _ _ rfl (w.heap.size + 1) _ os.length os rfl MG.out (B := w8.heap.size + 1) (some ⟨w8.heap.size, 0, none⟩) 1 1 [(y0, y1, y2)] rfl (Own.itemLit y0 y1 y2) (by simp) (by unfold maxLen; omega) (by show (os.length + 1) * 24 ≤ _; omega) (by simp; omega) ?_))
        intro v1 w3 m3 g3 _
        have G3 := Lib.hid (grown_none (grown_alloc G.out (.cells #[.int .i64 y0, .int .i64 y1, .int .i64 y2] 50)) g3 (fun g hg => by have := MG.out.own_ge g hg; omega))
        have O3 := Lib.hid (Own.kept' (O.out.alloc (.cells #[.int .i64 y0, .int .i64 y1, .int .i64 y2] 50)) g3 (fun e => by have := MG.out.own_ge _ e; omega))
        have M3 := Lib.hid m3
        clear m3 g3
        go_wp2
        go_roundw
        case rel => exact ⟨k + 1, by omega, by go_num, G3.out, O3.out, by rw [E2.out]; simpa using M3.out⟩
        case measure => simp [intOf]; omega
    · obtain rfl : k = n := by omega
      have E : Hid (meetsF a b (xs.take k) = meetsF a b xs) := by rw [Hid, ← HLEN.out, List.take_length]
      go_wp2
      go_ret
      have m := M.out
      rw [E.out] at m
      exact ⟨_, rfl, m.wide (by omega), G.out⟩

end Go.Proofs.Ytgfehlmiejnonaa

set_option maxRecDepth 20000
namespace Go.Proofs.Ytgfehlmiejnonaa
open Go.RowKit

def SpoilRelI (w : World) (g n cap : Nat) (i : Value) (wr : World) : Prop :=
  ∃ k cur, k ≤ n ∧ i = .int .i64 (k : Nat) ∧ w.grownBy wr (some g) ∧ wr.heap[g]? = some (.cells cur 50 (0, 0)) ∧ cur.size = cap * 3

set_option maxHeartbeats 1000000 in
theorem SpoilItems_any (v : Value) (n : Nat) (xs : List It) (w : World) {base : Nat} (h : MineE itemE w base v n xs) :
    Calls Try.prog 19 #[v] w (SpoilIPost w v.ownBlock) := by
  rcases h.2 with ⟨rfl, rfl⟩ | ⟨g, cap, cur, rfl, _, hh, hnc, hm, hsz, _⟩
  · clear h
    go_enter Try.func19, Try.ntmps19
    go_wp2
    go_rounds 1
    go_end0
    exact ⟨rfl, World.grownBy.refl w _⟩
  · have hbig : n ≤ 9223372036854775807 := by unfold maxLen at hm; omega
    have HS : Hid (SpoilRelI w g n cap (.int .i64 0) w) := ⟨0, cur, Nat.zero_le _, rfl, World.grownBy.refl w _, hh, hsz⟩
    clear h hh hsz hm
    go_enter Try.func19, Try.ntmps19
    go_wp2
    go_loopw [2] (fun i wr => SpoilRelI w g n cap i wr) (fun i _ => n - (intOf i).toNat)
    case atStart => exact HS.out
    case round =>
      clear HS
      obtain ⟨k, cur, hk, rfl, hg, hh, hsz⟩ := hrel
      have G := Lib.hid hg
      clear hg
      by_cases hlt : k < n
      · obtain ⟨u0, c0, f0⟩ := block_get (i := k * 3) hh (by omega)
        obtain ⟨u1, c1, f1⟩ := block_get (i := k * 3 + 1) hh (by omega)
        obtain ⟨u2, c2, f2⟩ := block_get (i := k * 3 + 2) hh (by omega)
        obtain ⟨cur1, hh1, hs1⟩ := block_set (i := k * 3) hh (.int .i64 0)
        obtain ⟨cur2, hh2, hs2⟩ := block_set (i := k * 3 + 1) hh1 (.int .i64 0)
        obtain ⟨cur3, hh3, hs3⟩ := block_set (i := k * 3 + 2) hh2 (.int .i64 (-3))
        have HH3 := Lib.hid hh3
        have hs : cur3.size = cap * 3 := by omega
        clear hh hh1 hh2 hh3
        go_wp2
        go_roundw
        case rel => exact ⟨k + 1, cur3, by omega, by go_num, grown_set (grown_set (grown_set G.out _) _) _, HH3.out, hs⟩
        case measure => simp [intOf]; omega
      · go_wp2
        go_end0
        exact ⟨rfl, G.out⟩

def SpoilRelT (w0 : World) (q g n cap : Nat) (A : Value) (r : Int) (F : Value) (i : Value) (wr : World) : Prop :=
  ∃ k cur, k ≤ n ∧ i = .int .i64 (k : Nat) ∧ w0.grownBy wr none ∧ Own wr q 25 [A, .int .i64 r, F] ∧ wr.heap[g]? = some (.cells cur 64 (0, 0)) ∧ cur.size = cap * 7

/-- A tree of rows made behind w0, written over: what was there ahead of w0 is as it was. -/
def KeptPost (w0 : World) (e : Ending) (w' : World) : Prop := e = .returned (.tuple #[]) ∧ w0.grownBy w' none

set_option maxHeartbeats 2000000 in
theorem SpoilTree_any (w0 : World) (v : Value) (n : Nat) (ns : List Nd) (r : Int) (fv : Value) (fn : Nat) (free : List Int) (w : World) (hg : w0.grownBy w none) (h : MineE nodeE w w0.heap.size v n ns) (hf : Mine w w0.heap.size fv fn free) (hap : ∀ k, v.ownBlock = some k → fv.ownBlock ≠ some k) :
    Calls Try.prog 27 #[.agg #[v, .int .i64 r, fv]] w (KeptPost w0) := by
  have HF := Lib.hid (hf.kept (grow0 w (.cells #[v, .int .i64 r, fv] 25)))
  have OQ := Lib.hid (Own.new w 25 [v, .int .i64 r, fv])
  have G := Lib.hid (grown_alloc hg (.cells #[v, .int .i64 r, fv] 25))
  have FG := Lib.hid hf.own_ge
  have FL := Lib.hid hf.own_lt
  have hs0 := hg.size
  have HG0 := Lib.hid hs0
  rcases h.2 with ⟨rfl, rfl⟩ | ⟨g, cap, cur, rfl, hb, hh, hnc, hm, hsz, _⟩
  · obtain ⟨c0, c1, c2⟩ := OQ.out.three
    clear h hf hap hg
    go_enter Try.func27, Try.ntmps27
    go_wp2_with fail
    refine (SpoilInts_any fv fn free _ HF.out).mono ?_
    rintro e w1 ⟨rfl, k⟩
    have G1 := Lib.hid (grown_none G.out k FG.out)
    have O1 := Lib.hid (OQ.out.kept' k (fun e => by have := FL.out _ e; omega))
    clear k c0 c1 c2
    obtain ⟨c0, c1, c2⟩ := O1.out.three
    go_wp2
    go_rounds 1
    go_end0
    exact ⟨rfl, G1.out⟩
  · have hbig : n ≤ 9223372036854775807 := by unfold maxLen at hm; omega
    have hlt := (Array.getElem?_eq_some_iff.1 hh).1
    have hh1 : (w.alloc (.cells #[.slice (some ⟨g, 0, none⟩) n cap, .int .i64 r, fv] 25)).heap[g]? = some (.cells cur 64 (0, 0)) := (Below.heap_alloc w _ g hlt).trans hh
    have HH := Lib.hid hh1
    have HAP := Lib.hid hap
    have HSZ : Hid (cur.size = cap * 7) := hsz
    obtain ⟨c0, c1, c2⟩ := OQ.out.three
    clear h hf hap hg hh hh1 hm hsz
    go_enter Try.func27, Try.ntmps27
    go_wp2_with fail
    refine (SpoilInts_any fv fn free _ HF.out).mono ?_
    rintro e w1 ⟨rfl, k⟩
    have G1 := Lib.hid (grown_none G.out k FG.out)
    have O1 := Lib.hid (OQ.out.kept' k (fun e => by have := FL.out _ e; omega))
    have hh2 : w1.heap[g]? = some (.cells cur 64 (0, 0)) := (k.block g (by simp; omega) (fun e => HAP.out g rfl e.symm)).trans HH.out
    have HS : Hid (SpoilRelT w0 w.heap.size g n cap (.slice (some ⟨g, 0, none⟩) n cap) r fv (.int .i64 0) w1) := ⟨0, cur, Nat.zero_le _, rfl, G1.out, O1.out, hh2, HSZ.out⟩
    clear k c0 c1 c2 HF OQ G HH HAP HSZ G1 hh2
    obtain ⟨c0, c1, c2⟩ := O1.out.three
    clear O1
    go_wp2
    go_loopw [2] (fun i wr => SpoilRelT w0 w.heap.size g n cap (.slice (some ⟨g, 0, none⟩) n cap) r fv i wr) (fun i _ => n - (intOf i).toNat)
    case atStart => exact HS.out
    case round =>
      clear HS c0 c1 c2
      obtain ⟨k, cur, hk, rfl, hg, ho, hh, hsz⟩ := hrel
      obtain ⟨c0, c1, c2⟩ := ho.three
      have G := Lib.hid hg
      have O := Lib.hid ho
      clear hg ho
      by_cases hlt2 : k < n
      · obtain ⟨u0, a0, f0⟩ := block_get (i := k * 7) hh (by omega)
        obtain ⟨u1, a1, f1⟩ := block_get (i := k * 7 + 1) hh (by omega)
        obtain ⟨u2, a2, f2⟩ := block_get (i := k * 7 + 2) hh (by omega)
        obtain ⟨u3, a3, f3⟩ := block_get (i := k * 7 + 3) hh (by omega)
        obtain ⟨u4, a4, f4⟩ := block_get (i := k * 7 + 4) hh (by omega)
        obtain ⟨u5, a5, f5⟩ := block_get (i := k * 7 + 5) hh (by omega)
        obtain ⟨u6, a6, f6⟩ := block_get (i := k * 7 + 6) hh (by omega)
        obtain ⟨cur1, hh1, hs1⟩ := block_set (i := k * 7) hh (.int .i64 0)
        obtain ⟨cur2, hh2, hs2⟩ := block_set (i := k * 7 + 1) hh1 (.int .i64 0)
        obtain ⟨cur3, hh3, hs3⟩ := block_set (i := k * 7 + 2) hh2 (.int .i64 0)
        obtain ⟨cur4, hh4, hs4⟩ := block_set (i := k * 7 + 3) hh3 (.int .i64 (-9))
        obtain ⟨cur5, hh5, hs5⟩ := block_set (i := k * 7 + 4) hh4 (.int .i64 (-9))
        obtain ⟨cur6, hh6, hs6⟩ := block_set (i := k * 7 + 5) hh5 (.int .i64 0)
        obtain ⟨cur7, hh7, hs7⟩ := block_set (i := k * 7 + 6) hh6 (.int .i64 0)
        have HH7 := Lib.hid hh7
        have hs : cur7.size = cap * 7 := by omega
        clear hh hh1 hh2 hh3 hh4 hh5 hh6 hh7
        go_wp2
        go_roundw
        case rel => exact ⟨k + 1, cur7, by omega, by go_num, grown_new (grown_new (grown_new (grown_new (grown_new (grown_new (grown_new G.out hb _) hb _) hb _) hb _) hb _) hb _) hb _, ((((((O.out.setOther (by omega) _).setOther (by omega) _).setOther (by omega) _).setOther (by omega) _).setOther (by omega) _).setOther (by omega) _).setOther (by omega) _, HH7.out, hs⟩
        case measure => simp [intOf]; omega
      · go_wp2
        go_end0
        exact ⟨rfl, G.out⟩

end Go.Proofs.Ytgfehlmiejnonaa

set_option maxRecDepth 20000
namespace Go.Proofs.Ytgfehlmiejnonaa
open Go.RowKit

def SameTRel (w : World) (A A' : Option Addr) (n c c' : Nat) (r : Int) (FA FA' : Option Addr) (fn fc fc' : Nat) (i : Value) (wr : World) : Prop :=
  ∃ k : Nat, k ≤ n ∧ i = .int .i64 (k : Nat) ∧ w.grownBy wr none ∧ Own wr w.heap.size 25 [.slice A n c, .int .i64 r, .slice FA fn fc] ∧ Own wr (w.heap.size + 1) 25 [.slice A' n c', .int .i64 r, .slice FA' fn fc']

set_option maxHeartbeats 2000000 in
theorem SameTree_same (A A' : Option Addr) (n c c' : Nat) (ns : List Nd) (r : Int) (FA FA' : Option Addr) (fn fc fc' : Nat) (free : List Int) (w : World) {B B' B1 B2 : Nat} (h : Elts nodeE w B A n ns) (hB : B ≤ w.heap.size) (h' : Elts nodeE w B' A' n ns) (hB' : B' ≤ w.heap.size) (hf : Row w B1 FA fn free) (hB1 : B1 ≤ w.heap.size) (hf' : Row w B2 FA' fn free) (hB2 : B2 ≤ w.heap.size) :
    Calls Try.prog 15 #[.agg #[.slice A n c, .int .i64 r, .slice FA fn fc], .agg #[.slice A' n c', .int .i64 r, .slice FA' fn fc']] w (Says w (.bool true)) := by
  have hn := h.small
  have hfn := hf.small
  have HR := Lib.hid h
  have HR' := Lib.hid h'
  obtain ⟨g0, o1, o2⟩ := box2 [.slice A n c, .int .i64 r, .slice FA fn fc] [.slice A' n c', .int .i64 r, .slice FA' fn fc'] (World.grownBy.refl ((w.alloc (.cells #[.slice A n c, .int .i64 r, .slice FA fn fc] 25)).alloc (.cells #[.slice A' n c', .int .i64 r, .slice FA' fn fc'] 25)) none)
  have HF := Lib.hid (hf.grown hB1 g0)
  have HF' := Lib.hid (hf'.grown hB2 g0)
  have G := Lib.hid g0
  have O1 := Lib.hid o1
  have O2 := Lib.hid o2
  have hrr : (r != r) = false := not_same
  obtain ⟨c0, c1, c2⟩ := o1.three
  obtain ⟨p0, p1, p2⟩ := o2.three
  clear h h' hf hf' g0 o1 o2
  go_enter Try.func15, Try.ntmps15
  go_upto_region 1 with fail
  generalize (w.alloc (.cells #[.slice A n c, .int .i64 r, .slice FA fn fc] 25)).alloc (.cells #[.slice A' n c', .int .i64 r, .slice FA' fn fc'] 25) = w1 at *
  go_wp2_with fail
  refine (same_says (SameInts0_any FA fn fc free FA' fn fc' free _ HF.out HF'.out)).mono ?_
  rw [sameB_refl]
  rintro e w2 ⟨rfl, g2⟩
  have HS : Hid (SameTRel w A A' n c c' r FA FA' fn fc fc' (.int .i64 0) w2) := ⟨0, Nat.zero_le _, rfl, grown_trans G.out g2, O1.out.kept g2, O2.out.kept g2⟩
  have c0 := kept g2 c0
  have c1 := kept g2 c1
  have c2 := kept g2 c2
  have p0 := kept g2 p0
  have p1 := kept g2 p1
  have p2 := kept g2 p2
  clear g2 HF HF' G O1 O2
  go_wp2
  go_loopw [5] (fun i wr => SameTRel w A A' n c c' r FA FA' fn fc fc' i wr) (fun i _ => n - (intOf i).toNat)
  case atStart => exact HS.out
  case round =>
    clear HS c0 c1 c2 p0 p1 p2
    obtain ⟨k, hk, rfl, hg, o1, o2⟩ := hrel
    have G := Lib.hid hg
    obtain ⟨c0, c1, c2⟩ := o1.three
    obtain ⟨p0, p1, p2⟩ := o2.three
    have O1 := Lib.hid o1
    have O2 := Lib.hid o2
    clear o1 o2
    by_cases hlt : k < n
    · obtain ⟨b, off, rfl, _, hcell⟩ := (HR.out.grown hB hg).nds (by omega)
      obtain ⟨b', off', rfl, _, hcell'⟩ := (HR'.out.grown hB' hg).nds (by omega)
      obtain ⟨d0, d1, d2, d3, d4, d5, d6⟩ := hcell k hlt
      obtain ⟨e0, e1, e2, e3, e4, e5, e6⟩ := hcell' k hlt
      clear hcell hcell' hg
      generalize nd ns k = x at *
      obtain ⟨⟨x0, x1, x2⟩, x3, x4, x5, x6⟩ := x
      simp only at d0 d1 d2 d3 d4 d5 d6 e0 e1 e2 e3 e4 e5 e6
      go_wp2
      go_quiet (fail)
      go_wp2
      go_roundw
      case rel => exact ⟨k + 1, by omega, by go_num, grown_drewN G.out _, O1.out.drewN _, O2.out.drewN _⟩
      case measure => simp [intOf]; omega
    · clear hg
      go_wp2
      go_ret
      exact ⟨rfl, G.out⟩

end Go.Proofs.Ytgfehlmiejnonaa

set_option maxRecDepth 20000
namespace Go.Proofs.Ytgfehlmiejnonaa
open Go.RowKit

theorem apart_T {E : Elt Nd} {w : World} {b b' n m : Nat} {v v' : Value} {xs : List Nd} {ys : List Int} (h : MineE E w b v n xs) (k : Mine w b' v' m ys) (hT : E.T ≠ 3) : ∀ g, v.ownBlock = some g → v'.ownBlock ≠ some g := by
  intro g hg hg'
  rcases h.2 with ⟨rfl, _⟩ | ⟨g1, cap, cur, rfl, _, hh, _⟩
  · simp [Value.ownBlock] at hg
  rcases k.2 with ⟨rfl, _⟩ | ⟨g2, cap2, cur2, rfl, _, hh2, _⟩
  · simp [Value.ownBlock] at hg'
  simp only [Value.ownBlock, Option.some.injEq] at hg hg'
  subst hg hg'
  rw [hh] at hh2
  injection hh2 with e
  injection e with _ e _
  exact hT e

theorem results_tree {fn : Func} {t : Tmp} (h : fn.results = #[.cell t 25]) (tmps : Array Value) (w : World) {g : Nat} {x y z : Value} (hp : tmps[t]?.getD undef = .pointer (some ⟨g, 0, none⟩))
   (c0 : w.cell? ⟨g, 0, none⟩ = some x) (c1 : w.cell? ⟨g, 1, none⟩ = some y) (c2 : w.cell? ⟨g, 2, none⟩ = some z) :
    (results fn tmps).run Try.prog w = .ok (.agg #[x, y, z]) w := by
  simp [results, h, hp, c0, c1, c2, go_sem]

theorem post_tree {fn : Func} {t : Tmp} {R : Ending → World → Prop} {a : Act} {w : World} (h : fn.results = #[.cell t 25]) {g : Nat} {x y z : Value} (hp : a.tmps[t]?.getD undef = .pointer (some ⟨g, 0, none⟩))
   (c0 : w.cell? ⟨g, 0, none⟩ = some x) (c1 : w.cell? ⟨g, 1, none⟩ = some y) (c2 : w.cell? ⟨g, 2, none⟩ = some z) (hd : a.defers = []) (hR : R (.returned (.agg #[x, y, z])) w) : bodyPost Try.prog fn R .ret a w :=
  bodyPost_ret (results_tree h a.tmps w hp c0 c1 c2) hd hR

/-- A tree of rows of the call's own. -/
def TreePost (w : World) (ns : List Nd) (r : Int) (free : List Int) (e : Ending) (w' : World) : Prop :=
  ∃ v f, e = .returned (.agg #[v, .int .i64 r, f]) ∧ MineE nodeE w' w.heap.size v ns.length ns ∧ Mine w' w.heap.size f free.length free ∧ w.grownBy w' none

theorem own_put3 {w : World} {g : Nat} {T : TypeId} {a b c x y z : Value} (h : Own w g T [a, b, c]) : Own (((w.setCell ⟨g, 0, none⟩ x).setCell ⟨g, 1, none⟩ y).setCell ⟨g, 2, none⟩ z) g T [x, y, z] := ((h.put (i := 0) x).put (i := 1) y).put (i := 2) z

theorem held3t {w w1 : World} {q : Nat} {x y z : Value} {row : Option Nat} (g : w.grownBy w1 row) (hr : row ≠ some q) (h : w.cell? ⟨q, 0, none⟩ = some x ∧ w.cell? ⟨q, 1, none⟩ = some y ∧ w.cell? ⟨q, 2, none⟩ = some z) :
    w1.cell? ⟨q, 0, none⟩ = some x ∧ w1.cell? ⟨q, 1, none⟩ = some y ∧ w1.cell? ⟨q, 2, none⟩ = some z := ⟨far g hr h.1, far g hr h.2.1, far g hr h.2.2⟩

set_option maxHeartbeats 2000000 in
theorem CopyTree_any (A : Option Addr) (n c : Nat) (ns : List Nd) (r : Int) (FA : Option Addr) (fn fc : Nat) (free : List Int) (w : World) {B B' : Nat} (h : Elts nodeE w B A n ns) (hB : B ≤ w.heap.size) (hf : Row w B' FA fn free) (hB' : B' ≤ w.heap.size) (hnil : A = none → c = 0) (hfnil : FA = none → fc = 0) (hr : n * 56 ≤ 140737488355328) (hfr : fn * 8 ≤ 140737488355328) :
    Calls Try.prog 9 #[.agg #[.slice A n c, .int .i64 r, .slice FA fn fc]] w (TreePost w ns r free) := by
  obtain ⟨g0, o1, o2⟩ := box2 [.slice A n c, .int .i64 r, .slice FA fn fc] [.slice none 0 0, .int .i64 0, .slice none 0 0] (World.grownBy.refl ((w.alloc (.cells #[.slice A n c, .int .i64 r, .slice FA fn fc] 25)).alloc (.cells #[.slice none 0 0, .int .i64 0, .slice none 0 0] 25)) none)
  have hsz : ((w.alloc (.cells #[.slice A n c, .int .i64 r, .slice FA fn fc] 25)).alloc (.cells #[.slice none 0 0, .int .i64 0, .slice none 0 0] 25)).heap.size = w.heap.size + 2 := by simp
  have HNIL := Lib.hid hnil
  have HFNIL := Lib.hid hfnil
  have HLEN := Lib.hid h.len
  have HFL := Lib.hid hf.len
  clear hnil hfnil
  go_enter Try.func9, Try.ntmps9
  go_upto_region 1 with fail
  generalize ((w.alloc (.cells #[.slice A n c, .int .i64 r, .slice FA fn fc] 25)).alloc (.cells #[.slice none 0 0, .int .i64 0, .slice none 0 0] 25)) = w2 at *
  have HR := Lib.hid (h.grown hB g0)
  have HF := Lib.hid (hf.grown hB' g0)
  have G := Lib.hid g0
  have O2 := Lib.hid o2
  have HS := Lib.hid o1.three
  obtain ⟨c0, c1, c2⟩ := o1.three
  clear h hf g0 o1 o2
  have kd : w2.grownBy (w2.alloc (.cells #[] 64)).drew none := grown_drew (grow0 _ _)
  have hmine : MineE nodeE (w2.alloc (.cells #[] 64)).drew (w.heap.size + 2) (.slice (some ⟨w.heap.size + 2, 0, none⟩) 0 0) 0 [] := MineE.lit (E := nodeE) (w := w2.drew) (base := w.heap.size + 2) (g := w.heap.size + 2) [] 0 hsz.symm rfl rfl (by show _ ≤ w2.heap.size; omega) (by simp)
  have HM := Lib.hid hmine
  have HR1 := Lib.hid (HR.out.grown (by omega) kd)
  have HF1 := Lib.hid (HF.out.grown (by omega) kd)
  have HS1 := Lib.hid (held3t kd (by simp) HS.out)
  have GA := Lib.hid (grown_trans G.out kd)
  have OA := Lib.hid (O2.out.kept kd)
  have hs3 : (w2.alloc (.cells #[] 64)).drew.heap.size = w.heap.size + 3 := by show (w2.alloc (.cells #[] 64)).heap.size = _; simp [hsz]
  clear hmine kd HR HF HS G O2
  go_region_held3 (fun w' : World => w'.cell? ⟨w.heap.size, 0, none⟩ = some (.slice A n c) ∧ w'.cell? ⟨w.heap.size, 1, none⟩ = some (.int .i64 r) ∧ w'.cell? ⟨w.heap.size, 2, none⟩ = some (.slice FA fn fc)) (first | exact HS1.out | go_keep)
    (first
      | (go_at_call 34; refine (CopyInts_any FA fn fc free _ HF1.out (by omega) HFNIL.out hfr).mono ?_; rintro e w8 ⟨vf, rfl, hc, kb⟩; have k := grown_of_below kb; have HC := Lib.hid hc; have HM8 := Lib.hid (HM3.out.kept k); have HS1 := Lib.hid (held3t k (by simp) HS1.out); have OA8 := Lib.hid (OA.out.kept k); have GA8 := Lib.hid (grown_trans GA.out k); obtain ⟨A2, c4, rfl, _⟩ := hc.sl; obtain ⟨e0, e1, e2⟩ := OA8.out.three; have t0 := OA8.out.frozen 0; have t1 := OA8.out.frozen 1; have t2 := OA8.out.frozen 2; clear hc kb k)
      | (refine step_appE nodeE rfl _ _ (by rfl) (w.heap.size + 2) _ 0 [] (by rfl) HM.out A n c ns (by rfl) HR1.out HNIL.out (by unfold maxLen; omega) (by show _ * 56 ≤ _; omega) (by omega) ?_; intro v1 w3 hm3 hg3; have HS1 := Lib.hid (held3t hg3 (by simp [Value.ownBlock]) HS1.out); have OA := Lib.hid (OA.out.kept' hg3 (by simp [Value.ownBlock])); have HF1 := Lib.hid (HF1.out.grown' (by omega) hg3 (by intro g hg; simp [Value.ownBlock] at hg; omega)); have GA := Lib.hid (grown_none GA.out hg3 (by intro g hg; simp [Value.ownBlock] at hg; omega)); have hs4 := hg3.size; have hm4 : MineE nodeE w3 (w.heap.size + 2) v1 n ns := (by simpa using hm3); have HM3 := Lib.hid hm4; obtain ⟨A1, c3, rfl, _, _, _⟩ := hm4.row; clear hm3 hm4 hg3))
  clear HS1 c0 c1 c2
  all_goals go_wp2
  have o3 := own_put3 (x := .slice A1 n c3) (y := .int .i64 r) (z := .slice A2 fn c4) OA8.out
  refine post_tree rfl rfl o3.three.1 o3.three.2.1 o3.three.2.2 rfl ⟨_, _, rfl, ?_, ?_, ?_⟩
  · have hap : ∀ g, (Value.slice A1 n c3).ownBlock = some g → some (w.heap.size + 1) ≠ some g := by
      intro g hg e
      have := HM8.out.own_ge g hg
      injection e with e
      omega
    have hk : ∀ (w : World) (i : Nat) (u : Value) (p : Nat), w.grownBy (w.setCell ⟨p, i, none⟩ u) (some p) := fun w i u p => grown_set (World.grownBy.refl _ (some p)) _
    rw [HLEN.out]
    exact (((HM8.out.kept' (hk _ _ _ _) hap).kept' (hk _ _ _ _) hap).kept' (hk _ _ _ _) hap).wide (by omega)
  · have hap : ∀ g, (Value.slice A2 fn c4).ownBlock = some g → some (w.heap.size + 1) ≠ some g := by
      intro g hg e
      have := HC.out.own_ge g hg
      injection e with e
      omega
    have hk : ∀ (w : World) (i : Nat) (u : Value) (p : Nat), w.grownBy (w.setCell ⟨p, i, none⟩ u) (some p) := fun w i u p => grown_set (World.grownBy.refl _ (some p)) _
    rw [HFL.out]
    exact (((HC.out.kept' (hk _ _ _ _) hap).kept' (hk _ _ _ _) hap).kept' (hk _ _ _ _) hap).wide (by omega)
  · exact grown_new (grown_new (grown_new GA8.out (by omega) _) (by omega) _) (by omega) _

end Go.Proofs.Ytgfehlmiejnonaa

set_option maxRecDepth 20000
namespace Go.Proofs.Ytgfehlmiejnonaa
open Go.RowKit

def ptsK (a : Int) (xs : List It) (k : Nat) : List Int := ((List.range k).map fun i : Nat => a + 1 + (i : Int)).filter (hitB xs)

theorem ptsK_next (a : Int) (xs : List It) (k : Nat) : ptsK a xs (k + 1) = if hitB xs (a + 1 + k) = true then ptsK a xs k ++ [a + 1 + (k : Int)] else ptsK a xs k := by
  rw [ptsK, List.range_succ, List.map_append, List.filter_append]
  by_cases q : hitB xs (a + 1 + k) = true
  · simp [ptsK, q]
  · simp [ptsK, q]

theorem ptsK_len (a : Int) (xs : List It) (k : Nat) : (ptsK a xs k).length ≤ k := Nat.le_trans (List.length_filter_le _ _) (by simp)

theorem hit_next {xs : List It} {j : Nat} {t : Int} (h : j < xs.length) : hitB (xs.take (j + 1)) t = (hitB (xs.take j) t || (decide ((it xs j).1 = t) || decide ((it xs j).2.1 = t))) := by
  rw [it_take h, hitB, List.any_append]
  simp [hitB]

def IntPost (w : World) (xs : List Int) (e : Ending) (w' : World) : Prop := ∃ v, e = .returned v ∧ Mine w' w.heap.size v xs.length xs ∧ w.grownBy w' none

def PtRel (w : World) (a b : Int) (xs : List It) (o i : Value) (wr : World) : Prop :=
  ∃ k : Nat, (k : Int) ≤ b - (a + 1) ∧ i = .int .i64 (a + 1 + (k : Int)) ∧ w.grownBy wr none ∧ Own wr w.heap.size 27 [.int .i64 a, .int .i64 b] ∧ Mine wr (w.heap.size + 1) o (ptsK a xs k).length (ptsK a xs k)

def HitRel (xs : List It) (n : Nat) (t : Int) (w0 : World) (u i : Value) (wr : World) : Prop :=
  ∃ j : Nat, j ≤ n ∧ i = .int .i64 (j : Nat) ∧ u = .bool (hitB (xs.take j) t) ∧ wr = w0

set_option maxHeartbeats 2000000 in
theorem RPoints_any (a b : Int) (A : Option Addr) (n c : Nat) (xs : List It) (w : World) {B : Nat} (h : Elts itemE w B A n xs) (hB : B ≤ w.heap.size) (hs : spanMay a b = true) :
    Calls Try.prog 23 #[.slice A n c, .agg #[.int .i64 a, .int .i64 b]] w (IntPost w (pointsF a b xs)) := by
  obtain ⟨ha, hab, hb⟩ := span_may.1 hs
  have hn := h.small
  have HLEN := Lib.hid h.len
  have HR := Lib.hid h
  have HS : Hid (PtRel w a b xs (.slice none 0 0) (.int .i64 (a + 1 + ((0 : Nat) : Int))) (w.alloc (.cells #[.int .i64 a, .int .i64 b] 27))) := ⟨0, by omega, rfl, grow0 _ _, Own.new w 27 [.int .i64 a, .int .i64 b], Mine.nil _ _⟩
  rw [show a + 1 + ((0 : Nat) : Int) = a + 1 by omega] at HS
  have hw0 : IntKind.i64.wrap (a + 1) = a + 1 := IntWalk.i64_in _ (by omega)
  clear h hs
  go_enter Try.func23, Try.ntmps23
  go_wp2
  go_loopw [5, 6] (fun o i wr => PtRel w a b xs o i wr) (fun _ i _ => (b - intOf i).toNat)
  case atStart => exact HS.out
  case round =>
    clear HS
    obtain ⟨k, hk, rfl, hg, ho, hm⟩ := hrel
    have G := Lib.hid hg
    have O := Lib.hid ho
    have M := Lib.hid hm
    obtain ⟨c0, c1⟩ := ho.two
    have HN := Lib.hid (ptsK_next a xs k)
    have hl := ptsK_len a xs k
    have hka : (a + 1 + (k : Int)) + 1 = a + 1 + ((k + 1 : Nat) : Int) := by omega
    have HKA := Lib.hid hka
    have HK0 : Hid ((k : Int) = (a + 1 + (k : Int)) - (a + 1)) := by rw [Hid]; omega
    clear hg ho hm hka
    by_cases hlt : a + 1 + (k : Int) < b
    · obtain ⟨t, ht⟩ : ∃ t, a + 1 + (k : Int) = t := ⟨_, rfl⟩
      have HT := Lib.hid ht
      have HT2 : Hid (t + 1 = a + 1 + ((k + 1 : Nat) : Int)) := by rw [Hid, ← ht]; exact HKA.out
      rw [ht] at hlt HN
      rw [ht]
      have hwt : IntKind.i64.wrap (t + 1) = t + 1 := IntWalk.i64_in _ (by omega)
      have hkb : k ≤ 4096 := by omega
      have ht0 : 0 ≤ t := by omega
      have hkm : Hid (((k + 1 : Nat) : Int) ≤ b - (a + 1)) := by rw [Hid]; omega
      generalize ptsK a xs k = os at *
      have HI : Hid (HitRel xs n t wr (.bool false) (.int .i64 0) wr) := ⟨0, Nat.zero_le _, rfl, rfl, rfl⟩
      clear ht hk HKA HK0
      go_wp2
      go_loopw [7, 8] (fun u i wi => HitRel xs n t wr u i wi) (fun _ i _ => n - (intOf i).toNat)
      case atStart => exact HI.out
      case round =>
        clear HI
        obtain ⟨j, hj, rfl, rfl, rfl⟩ := hrel
        by_cases hjn : j < n
        · obtain ⟨bb, off, rfl, _, hcell⟩ := (HR.out.grown hB G.out).its (by omega)
          obtain ⟨d0, d1, d2⟩ := hcell j hjn
          have HH := Lib.hid (hit_next (xs := xs) (j := j) (t := t) (by rw [HLEN.out]; exact hjn))
          clear hcell d2
          generalize it xs j = y at *
          obtain ⟨y0, y1, y2⟩ := y
          simp only at d0 d1 HH
          generalize hitB (xs.take j) t = q at *
          cases q
          case true =>
            go_wp2
            go_roundw
            case rel => exact ⟨j + 1, by omega, by go_num, by rw [HH.out]; rfl, rfl⟩
            case measure => simp [intOf]; omega
          case false =>
            by_cases e0 : y0 = t
            · have t0 : (y0 == t) = true := by simpa using e0
              have E : Hid (hitB (xs.take (j + 1)) t = true) := by rw [Hid, HH.out]; simp [e0]
              clear HH e0
              go_wp2
              go_roundw
              case rel => exact ⟨j + 1, by omega, by go_num, by rw [E.out], rfl⟩
              case measure => simp [intOf]; omega
            · have t0 : (y0 == t) = false := by simpa using e0
              by_cases e1 : y1 = t
              · have t1 : (y1 == t) = true := by simpa using e1
                have E : Hid (hitB (xs.take (j + 1)) t = true) := by rw [Hid, HH.out]; simp [e1]
                clear HH e0 e1
                go_wp2
                go_roundw
                case rel => exact ⟨j + 1, by omega, by go_num, by rw [E.out], rfl⟩
                case measure => simp [intOf]; omega
              · have t1 : (y1 == t) = false := by simpa using e1
                have E : Hid (hitB (xs.take (j + 1)) t = false) := by rw [Hid, HH.out]; simp [e0, e1]
                clear HH e0 e1
                go_wp2
                go_roundw
                case rel => exact ⟨j + 1, by omega, by go_num, by rw [E.out], rfl⟩
                case measure => simp [intOf]; omega
        · obtain rfl : j = n := by omega
          have EQ : Hid (hitB (xs.take j) t = hitB xs t) := by rw [Hid, ← HLEN.out, List.take_length]
          have EN := HN.out
          rw [← EQ.out] at EN
          have EN := Lib.hid EN
          clear HN EQ
          generalize hitB (xs.take j) t = q at *
          cases q
          case false =>
            go_wp2
            go_roundw
            case rel => exact ⟨k + 1, hkm.out, by rw [HT2.out], G.out, O.out, by rw [EN.out]; exact M.out⟩
            case measure => simp only [intOf]; omega
          case true =>
            have MG := Lib.hid (M.out.kept (grow0 wr (.cells #[.int .i64 t] 3)))
            have HROW := Lib.hid (Row.newAt (w := wr) (g := wr.heap.size) (n := 1) (vs := #[.int .i64 t]) [t] (by simp) rfl rfl (by simp) (by simp; omega))
            have hol := O.out.lt
            go_wp2_with (first | (at_builtin; refine wpList_app _ rfl _ _ rfl (w.heap.size + 1) _ os.length os rfl MG.out _ 1 1 [t] rfl HROW.out (by simp) (by omega) (by simp; omega) ?_))
            intro v1 w3 m3 g3 _
            have G3 := Lib.hid (grown_none (grown_alloc G.out (.cells #[.int .i64 t] 3)) g3 (fun g hg => by have := MG.out.own_ge g hg; omega))
            have O3 := Lib.hid (Own.kept' (O.out.alloc (.cells #[.int .i64 t] 3)) g3 (fun e => by have := MG.out.own_ge _ e; omega))
            have M3 := Lib.hid m3
            clear m3 g3
            go_wp2
            go_roundw
            case rel => exact ⟨k + 1, hkm.out, by rw [HT2.out], G3.out, O3.out, by rw [EN.out, if_pos trivial]; simpa using M3.out⟩
            case measure => simp only [intOf]; omega
    · have E : Hid (ptsK a xs k = pointsF a b xs) := by
        rw [Hid, pointsF, ptsK, show (b - (a + 1)).toNat = k by omega]
      go_wp2
      go_ret
      have m := M.out
      rw [E.out] at m
      exact ⟨_, rfl, m.wide (by omega), G.out⟩

end Go.Proofs.Ytgfehlmiejnonaa

set_option maxRecDepth 20000
namespace Go.Proofs.Ytgfehlmiejnonaa
open Go.RowKit

def delE (V : Option (List It)) (x : It) : Int :=
  match V with
  | none => 1700
  | some xs => if x ∈ xs then 0 else 1702
def InsIs (V : Option (List It)) (x : It) (ns : List Nd) (r : Int) (free : List Int) (z : Int) : Prop :=
  z = insE V x ∧ (z ≠ 0 → ns = [] ∧ r = 0 ∧ free = []) ∧ (z = 0 → ∃ xs, V = some xs ∧ allF ns r free = some (withF x xs))
def DelIs (V : Option (List It)) (x : It) (ns : List Nd) (r : Int) (free : List Int) (z : Int) : Prop :=
  z = delE V x ∧ (z ≠ 0 → ns = [] ∧ r = 0 ∧ free = []) ∧ (z = 0 → ∃ xs, V = some xs ∧ allF ns r free = some (withoutF x xs))

/-- A tree of the call's own and a number. -/
def TreeRes (w : World) (P : List Nd → Int → List Int → Int → Prop) (e : Ending) (w' : World) : Prop :=
  ∃ ns r free z v f, P ns r free z ∧ e = .returned (.tuple #[.agg #[v, .int .i64 r, f], .int .i64 z]) ∧ MineE nodeE w' w.heap.size v ns.length ns ∧ Mine w' w.heap.size f free.length free ∧ w.grownBy w' none

def NewPost (w : World) (e : Ending) (w' : World) : Prop :=
  ∃ ns r free v f, allF ns r free = some [] ∧ e = .returned (.agg #[v, .int .i64 r, f]) ∧ MineE nodeE w' w.heap.size v ns.length ns ∧ Mine w' w.heap.size f free.length free ∧ w.grownBy w' none

def RowRes (w : World) (xs : List It) (z : Int) (e : Ending) (w' : World) : Prop := ∃ v, e = .returned (.tuple #[v, .int .i64 z]) ∧ MineE itemE w' w.heap.size v xs.length xs ∧ w.grownBy w' none

def formE (V : Option (List It)) : Int := if V.isSome = true then 0 else 1700
def spanE2 (V : Option (List It)) (a b : Int) : Bool := V.isSome && spanMay a b
def meetsV (V : Option (List It)) (a b : Int) : List It := if spanE2 V a b = true then meetsF a b (V.getD []) else []
def pointsV (V : Option (List It)) (a b : Int) : List Int := if spanE2 V a b = true then pointsF a b (V.getD []) else []
def spanZ (V : Option (List It)) (a b : Int) : Int := if spanE2 V a b = true then 0 else 1700

theorem free_ok {ns : List Nd} {r : Int} {free : List Int} {xs : List It} (h : allF ns r free = some xs) : okI free := by
  obtain ⟨T, t, _⟩ := of_all h
  intro i
  by_cases hi : i < free.length
  · have hm : free[i]?.getD 0 ∈ free := by
      rw [List.getElem?_eq_getElem hi]
      exact List.getElem_mem hi
    have := t.spare _ hm
    have := t.few
    omega
  · rw [List.getElem?_eq_none (by omega)]
    decide

theorem okI_nil : okI [] := fun i => by simp

/-- Both rows of a tree. -/
structure Tre (w : World) (B : Nat) (A : Option Addr) (n : Nat) (ns : List Nd) (FA : Option Addr) (fn : Nat) (free : List Int) : Prop where
  nodes : Elts nodeE w B A n ns
  free : Row w B FA fn free

theorem Tre.grown {w w' : World} {B : Nat} {A : Option Addr} {n : Nat} {ns : List Nd} {FA : Option Addr} {fn : Nat} {free : List Int} (h : Tre w B A n ns FA fn free) (hB : B ≤ w.heap.size) (k : w.grownBy w' none) : Tre w' B A n ns FA fn free :=
  ⟨h.nodes.grown hB k, h.free.grown hB k⟩

/-- The rows of a tree that a call made. -/
theorem tre_of {w : World} {b : Nat} {v f : Value} {ns : List Nd} {free : List Int} (h : MineE nodeE w b v ns.length ns) (k : Mine w b f free.length free) (ok : okI free) :
    ∃ A c FA fc, v = .slice A ns.length c ∧ f = .slice FA free.length fc ∧ (A = none → c = 0) ∧ (FA = none → fc = 0) ∧ Tre w w.heap.size A ns.length ns FA free.length free := by
  obtain ⟨A, c, rfl, _, h1, h2⟩ := h.row
  obtain ⟨FA, fc, rfl, _, k1, k2⟩ := k.rowN ok
  exact ⟨A, c, FA, fc, rfl, rfl, h1, k1, h2, k2⟩

def InT (w : World) (A : Option Addr) (n c : Nat) (ns : List Nd) (FA : Option Addr) (fn fc : Nat) (free : List Int) : Prop :=
  Tre w w.heap.size A n ns FA fn free ∧ n ≤ c ∧ c * 56 ≤ 140737488351232 ∧ (A = none → c = 0) ∧ fn ≤ fc ∧ fc * 8 ≤ 140737488351232 ∧ (FA = none → fc = 0)

def InI (W : World) (A : Option Addr) (n c : Nat) (xs : List It) : Prop := Elts itemE W W.heap.size A n xs ∧ n ≤ c ∧ c * 24 ≤ 140737488351232 ∧ (A = none → c = 0)

end Go.Proofs.Ytgfehlmiejnonaa
