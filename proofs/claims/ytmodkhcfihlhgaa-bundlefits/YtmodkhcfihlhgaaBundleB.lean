/-
  Rows of paths compared; rates together; whether paths are sound; meters in a row.
-/
import Derived.Test.YtmodkhcfihlhgaaBundleA
namespace Go.Proofs.Ytmodkhcfihlhgaa
open Go.RowKit

def SPRel (w : World) (n : Nat) (i : Value) (wr : World) : Prop := ∃ k : Nat, k ≤ n ∧ i = .int .i64 (k : Nat) ∧ w.grownBy wr none

set_option maxRecDepth 20000 in
set_option maxHeartbeats 1000000 in
theorem SamePaths_same (A A' : Option Addr) (n c c' : Nat) (ps : List Pth) (w : World) {B B' : Nat} (h : Pths w B A n ps) (h' : Pths w B' A' n ps) :
    Calls Try.prog 65 #[.slice A n c, .slice A' n c'] w (Says w (.bool true)) := by
  have hn := h.small
  have HP := Lib.hid h
  have HP' := Lib.hid h'
  clear h h'
  have hnn : ((n : Int) != (n : Int)) = false := by simp
  have HS : Hid (SPRel w n (.int .i64 0) w) := ⟨0, Nat.zero_le _, rfl, World.grownBy.refl w none⟩
  go_enter Try.func65, Try.ntmps65
  go_wp2
  go_loopw [5] (fun i wr => SPRel w n i wr) (fun i _ => n - (intOf i).toNat)
  case atStart => exact HS.out
  case round =>
    clear HS hnn
    obtain ⟨k, hk, rfl, hg⟩ := hrel
    have G := Lib.hid hg
    by_cases hlt : k < n
    · obtain ⟨b, off, X, m, d, hA, hb, c0, c1, hrow⟩ := HP.out.at_ k hlt
      obtain ⟨b', off', X', m', d', hA', hb', c0', c1', hrow'⟩ := HP'.out.at_ k hlt
      subst hA hA'
      obtain rfl : m' = m := by have := hrow.len; have := hrow'.len; omega
      have hm := hrow.small
      have HR := Lib.hid hrow
      have HR' := Lib.hid hrow'
      have HC0 := Lib.hid c0
      have HC1 := Lib.hid c1
      have HC1' := Lib.hid c1'
      have d0 := kept hg c0
      have d1 := kept hg c1
      have d0' := kept hg c0'
      have d1' := kept hg c1'
      clear hg hrow hrow' c0 c1 c0' c1'
      generalize rt ps k = r at *
      generalize lk ps k = xs at *
      have hrr : (r != r) = false := by simp
      have hmm : ((m' : Int) != (m' : Int)) = false := by simp
      go_wp2_with fail
      go_quiet (fail)
      have HS : Hid (SPRel w m' (.int .i64 0) (wr.drewN nq)) := ⟨0, Nat.zero_le _, rfl, grown_drewN G.out _⟩
      clear hrr hmm d0 d1 d0' d1'
      go_wp2
      go_loopw [6] (fun i wr => SPRel w m' i wr) (fun i _ => m' - (intOf i).toNat)
      case atStart => exact HS.out
      case round =>
        clear HS G
        obtain ⟨j, hj, rfl, hg⟩ := hrel
        have G := Lib.hid hg
        have d1 := kept hg HC1.out
        have d1' := kept hg HC1'.out
        by_cases hlj : j < m'
        · obtain ⟨p, q, hX, hp, hcell⟩ := HR.out.at_ (by omega)
          obtain ⟨p', q', hX', hp', hcell'⟩ := HR'.out.at_ (by omega)
          subst hX hX'
          have e0 := kept hg (hcell j hlj)
          have e0' := kept hg (hcell' j hlj)
          clear hcell hcell' hg
          generalize xs[j]?.getD 0 = y at *
          have hyy : (y != y) = false := by simp
          go_wp2_with fail
          go_quiet (fail)
          clear hyy
          go_wp2
          go_roundw
          case rel => exact ⟨j + 1, by omega, by go_num, grown_drewN G.out _⟩
          case measure => simp [intOf]; omega
        · obtain rfl : j = m' := by omega
          clear hg
          go_wp2
          go_roundw
          case rel => exact ⟨k + 1, by omega, by go_num, G.out⟩
          case measure => simp [intOf]; omega
    · clear hg
      go_wp2
      go_ret
      exact ⟨rfl, G.out⟩

theorem SamePaths0_same (A A' : Option Addr) (n c c' : Nat) (ps : List Pth) (w : World) {B B' : Nat} (h : Pths w B A n ps) (h' : Pths w B' A' n ps) :
    Calls Try.prog 26 #[.slice A n c, .slice A' n c'] w (Says w (.bool true)) := by
  have HP := Lib.hid h
  have HP' := Lib.hid h'
  clear h h'
  go_enter Try.func26, Try.ntmps26
  go_wp2_with fail
  refine (SamePaths_same A A' n c c' ps _ HP.out HP'.out).mono ?_
  rintro e w1 ⟨rfl, g1⟩
  have G := Lib.hid g1
  clear g1
  go_wp2
  go_ret
  exact ⟨rfl, G.out⟩

def TogRel (w : World) (n : Nat) (ps : List Pth) (o i : Value) (wr : World) : Prop :=
  ∃ k : Nat, k ≤ n ∧ i = .int .i64 (k : Nat) ∧ w.grownBy wr none ∧ Mine wr w.heap.size o k (ratesOf (ps.take k))

theorem rates_app {ps : List Pth} {k : Nat} (h : k < ps.length) : ratesOf (ps.take (k + 1)) = ratesOf (ps.take k) ++ [rt ps k] := by
  rw [ptake_next h, ratesOf, List.map_append]
  rfl

theorem rates_ok {ps : List Pth} (h : ∀ i, bd64 (rt ps i)) (k : Nat) : okI (ratesOf (ps.take k)) := by
  intro i
  by_cases hi : i < (ratesOf (ps.take k)).length
  · have hi2 : i < (ps.take k).length := by simpa [ratesOf] using hi
    have hi3 : i < ps.length := by simp at hi2; omega
    rw [List.getElem?_eq_getElem hi]
    have := h i
    rw [rt, at2_eq hi3] at this
    simpa [ratesOf, bd64] using this
  · rw [List.getElem?_eq_none (by omega)]; simp

theorem together_any (A : Option Addr) (n c : Nat) (ps : List Pth) (w : World) {B : Nat} (h : Pths w B A n ps) (h16 : n ≤ 16) :
    Calls Try.prog 63 #[.slice A n c] w (Says w (.tuple #[.int .i64 (sumV (ratesOf ps)), .bool (sumB (ratesOf ps))])) := by
  have HP := Lib.hid h
  have HL := Lib.hid h.len
  clear h
  have HS : Hid (TogRel w n ps (.slice none 0 0) (.int .i64 0) w) := ⟨0, Nat.zero_le _, rfl, World.grownBy.refl w none, Mine.nil _ _⟩
  go_enter Try.func63, Try.ntmps63
  go_wp2
  go_loopw [4, 9] (fun o i wr => TogRel w n ps o i wr) (fun _ i _ => n - (intOf i).toNat)
  case atStart => exact HS.out
  case round =>
    clear HS
    obtain ⟨k, hk, rfl, hg, hmine⟩ := hrel
    have G := Lib.hid hg
    have HM := Lib.hid hmine
    by_cases hlt : k < n
    · obtain ⟨b, off, X, m, d, hA, hb, c0, c1, hrow⟩ := HP.out.at_ k hlt
      subst hA
      have hsz := hg.size
      have d0 := kept hg c0
      have d1 := kept hg c1
      have hrb := HP.out.ok k
      have HN := Lib.hid (rates_app (ps := ps) (k := k) (by rw [HL.out]; exact hlt))
      clear hg hmine c0 c1 hrow
      generalize rt ps k = r at *
      go_wp2_with (first | (at_builtin; refine wpList_app _ rfl _ _ rfl w.heap.size _ k _ rfl ((HM.out.kept (grow0 _ _)).kept (grow0 _ _)) _ 1 1 [r] rfl (Row.newAt [r] (by simp) rfl rfl (by simp) (by simp; exact hrb)) (by simp) (by omega) (by simp; omega) ?_))
      intro v1 w3 hm1 hg3 _
      have G3 := Lib.hid (grown_none (grown_alloc (grown_alloc G.out _) _) hg3 HM.out.own_ge)
      have HM3 := Lib.hid hm1
      clear hm1 hg3
      go_wp2
      go_roundw
      case rel => exact ⟨k + 1, by omega, by go_num, G3.out, by rw [HN.out]; exact HM3.out⟩
      case measure => simp [intOf]; omega
    · obtain rfl : k = n := by omega
      have e : ps.take k = ps := List.take_of_length_le (by rw [HL.out]; exact Nat.le_refl _)
      have hok := rates_ok HP.out.ok k
      rw [e] at hmine hok
      obtain ⟨A1, c1, rfl, _, hr⟩ := hmine.row hok
      have HR := Lib.hid hr
      clear hg hmine hok e hr
      go_wp2_with fail
      refine (Sum_any A1 k c1 _ _ HR.out).mono ?_
      rintro e w1 ⟨rfl, rfl⟩
      generalize sumV (ratesOf ps) = sv at *
      generalize sumB (ratesOf ps) = sb at *
      go_wp2
      go_ret2
      exact ⟨rfl, G.out⟩

theorem zero_isV {V : Int} {L : List Lk} (h : mayG V L = true) : isV V 0 = true := by
  have := may_small h
  exact isV_yes (by omega) (by omega)

theorem walk_form_is {V : Int} {L : List Lk} (h : mayG V L = true) (xs : List Int) : (walkE V L 0 xs == 600) = !linksR L.length xs := by
  have e : formW V L 0 xs = linksR L.length xs := by
    rw [formW, h, zero_isV h, linksR]
    rfl
  rw [walkE, e]
  cases linksR L.length xs
  · rfl
  · cases chain L 0 xs <;> rfl

def SoundRel (w : World) (V : Int) (A : Option Addr) (n c m : Nat) (ps : List Pth) (i : Value) (wr : World) : Prop :=
  ∃ k : Nat, k ≤ m ∧ i = .int .i64 (k : Nat) ∧ w.grownBy wr none ∧ Own wr w.heap.size 24 [.int .i64 V, .slice A n c] ∧ soundL n (ps.take k) = true

set_option maxHeartbeats 1000000 in
theorem areSound_any (V : Int) (A : Option Addr) (n c : Nat) (L : List Lk) (P : Option Addr) (m d : Nat) (ps : List Pth) (w : World) {B B' : Nat} (h : Lks w B A n L) (hB : B ≤ w.heap.size) (hp : Pths w B' P m ps) (hB' : B' ≤ w.heap.size) (hmay : mayG V L = true) :
    Calls Try.prog 55 #[.agg #[.int .i64 V, .slice A n c], .slice P m d] w (Says w (.bool (soundL n ps))) := by
  have hm := hp.small
  have HL := Lib.hid h.len
  have HLP := Lib.hid hp.len
  have HR := Lib.hid h
  have HP := Lib.hid hp
  have HMAY := Lib.hid hmay
  clear h hp hmay
  have HS : Hid (SoundRel w V A n c m ps (.int .i64 0) (w.alloc (.cells #[.int .i64 V, .slice A n c] 24))) := ⟨0, Nat.zero_le _, rfl, grow0 _ _, Own.new w 24 [.int .i64 V, .slice A n c], rfl⟩
  go_enter Try.func55, Try.ntmps55
  go_wp2
  go_loopw [11] (fun i wr => SoundRel w V A n c m ps i wr) (fun i _ => m - (intOf i).toNat)
  case atStart => exact HS.out
  case round =>
    clear HS
    obtain ⟨k, hk, rfl, hg, ob, hall⟩ := hrel
    have G := Lib.hid hg
    have HA := Lib.hid hall
    obtain ⟨c0, c1⟩ := ob.two
    have l1 := ob.lt
    have O := Lib.hid ob
    by_cases hlt : k < m
    · obtain ⟨b, off, X, q, d2, hA, hb, e0, e1, hrow⟩ := HP.out.at_ k hlt
      subst hA
      have hsz := hg.size
      have d0 := kept hg e0
      have d1 := kept hg e1
      have HN := Lib.hid (sound_take (n := n) (ps := ps) (k := k) (by rw [HLP.out]; exact hlt))
      have HX := Lib.hid (sound_stop (n := n) (ps := ps) (k := k) (by rw [HLP.out]; exact hlt))
      have HE : Hid (soundB n (at2 ps k) = (rateB (rt ps k) && linksR n (lk ps k))) := rfl
      have HW : Hid ((walkE V L 0 (lk ps k) == 600) = !linksR n (lk ps k)) := by rw [← HL.out]; exact walk_form_is HMAY.out _
      have HRB := Lib.hid (HR.out.grown hB (grown_alloc hg (.cells #[.int .i64 (rt ps k), .slice X q d2] 51)))
      have HRW := Lib.hid (hrow.grown hB' (grown_alloc hg (.cells #[.int .i64 (rt ps k), .slice X q d2] 51)))
      clear hg hall ob e0 e1 hrow
      generalize rt ps k = r at *
      generalize lk ps k = xs at *
      generalize at2 ps k = p at *
      go_wp2_with fail
      refine (Walk_any V 0 A n c L X q d2 xs _ HRB.out (by simp; omega) HRW.out (by simp; omega)).mono ?_
      rintro e w2 ⟨v, rfl, _, g2⟩
      obtain ⟨g3, o3⟩ := box1 [.int .i64 r, .slice X q d2] g2
      have G2 := Lib.hid (grown_trans G.out g3)
      have O2 := Lib.hid (O.out.kept g3)
      obtain ⟨f0, f1⟩ := o3.two
      clear g2 g3 o3 c0 c1 d0 d1 HRB HRW
      by_cases h0 : r < 0
      · have E : Hid (soundL n ps = false) := HX.out (by rw [HE.out, rateB]; simp; omega)
        clear HN HX HE HW
        generalize walkE V L 0 xs = z at *
        go_wp2
        go_ret
        exact ⟨ret_bool E.out, G2.out⟩
      · by_cases h1 : 4611686018427387904 < r
        · have E : Hid (soundL n ps = false) := HX.out (by rw [HE.out, rateB]; simp; omega)
          clear HN HX HE HW
          generalize walkE V L 0 xs = z at *
          go_wp2
          go_ret
          exact ⟨ret_bool E.out, G2.out⟩
        · have hrb : Hid (rateB r = true) := by simp [Hid, rateB]; omega
          cases hl : linksR n xs
          · have E : Hid (soundL n ps = false) := HX.out (by rw [HE.out, hl]; simp)
            have hz : (walkE V L 0 xs == 600) = true := by rw [HW.out, hl]; rfl
            clear HN HX HE HW hl
            generalize walkE V L 0 xs = z at *
            go_wp2
            go_ret
            exact ⟨ret_bool E.out, G2.out⟩
          · have E : Hid (soundL n (ps.take (k + 1)) = true) := by rw [Hid, HN.out, HA.out, HE.out, hl, hrb.out]; rfl
            have hz : (walkE V L 0 xs == 600) = false := by rw [HW.out, hl]; rfl
            clear HN HX HE HW hl
            generalize walkE V L 0 xs = z at *
            go_wp2
            go_roundw
            case rel => exact ⟨k + 1, by omega, by go_num, G2.out, O2.out, E.out⟩
            case measure => simp [intOf]; omega
    · obtain rfl : k = m := by omega
      have E : Hid (soundL n ps = true) := by
        have := HA.out
        rwa [List.take_of_length_le (by rw [HLP.out]; exact Nat.le_refl _)] at this
      clear hg hall ob
      go_wp2
      go_ret
      exact ⟨ret_bool E.out, G.out⟩

theorem Own.setAt {w : World} {g : Nat} {T : TypeId} {vs : List Value} (h : Own w g T vs) (i : Nat) (u : Value) : Own (w.setCell ⟨g, i, none⟩ u) g T (vs.set i u) := by
  unfold Own at h ⊢
  simp [World.setCell, Array.getElem?_modify, h]

theorem ints_set (ms : List Int) (i : Nat) (x : Int) : (ints ms).set i (.int .i64 x) = ints (ms.set i x) := by simp [ints, List.map_set]

theorem TotalAt_any (g i : Nat) (t : Int) (w : World) (hc : w.cell? ⟨g, i, none⟩ = some (.int .i64 t)) :
    Calls Try.prog 57 #[.pointer (some ⟨g, i, none⟩)] w fun e w' => e = .returned (.int .i64 t) ∧ w = w' := by
  go_enter Try.func57, Try.ntmps57
  go_wp2
  go_ret
  exact ⟨rfl, rfl⟩

def AddAtPost (w : World) (g i : Nat) (T : TypeId) (ms xs : List Int) (t : Int) (e : Ending) (w' : World) : Prop :=
  e = .returned (.bool (addB t xs)) ∧ Own w' g T (ints (ms.set i (addV t xs))) ∧ w.grownBy w' (some g)

theorem set_same (ms : List Int) (i : Nat) (hi : i < ms.length) : ms.set i (ms[i]?.getD 0) = ms := by simp [hi]

theorem MeterAddAt_any (g i : Nat) (T : TypeId) (ms : List Int) (A : Option Addr) (n c : Nat) (xs : List Int) (w : World) {B : Nat} (h : Row w B A n xs)
    (ho : Own w g T (ints ms)) (hi : i < ms.length) (h0 : 0 ≤ ms[i]?.getD 0) (h1 : ms[i]?.getD 0 ≤ 4611686018427387904) :
    Calls Try.prog 56 #[.pointer (some ⟨g, i, none⟩), .slice A n c] w (AddAtPost w g i T ms xs (ms[i]?.getD 0)) := by
  have hc : w.cell? ⟨g, i, none⟩ = some (.int .i64 (ms[i]?.getD 0)) := by rw [ho.cell i, ints_get ms i hi]
  have hf : w.frozen? ⟨g, i, none⟩ = false := ho.frozen i
  have hg := ho.lt
  have HO := Lib.hid ho
  have HR := Lib.hid h
  have hb := sumV_bd xs
  have HSM := Lib.hid (set_same ms i hi)
  clear ho h hi
  generalize ms[i]?.getD 0 = t at *
  cases hs : sumB xs with
  | false =>
    have HS := Lib.hid hs
    clear hs
    go_enter Try.func56, Try.ntmps56
    go_wp2_with fail
    refine (Sum_any A n c xs _ HR.out).mono ?_
    rintro e w' ⟨rfl, rfl⟩
    rw [HS.out]
    go_wp2
    go_ret
    have := add_none t xs h0 h1 HS.out
    refine ⟨ret_bool this.2, by rw [this.1, HSM.out]; exact HO.out, World.grownBy.refl _ _⟩
  | true =>
    have HS := Lib.hid hs
    clear hs
    have hadd := Lib.hid (add_some t xs h0 h1 HS.out)
    have HRow := Lib.hid (Row.two (w := w) t (sumV xs) (by omega) (by omega))
    go_enter Try.func56, Try.ntmps56
    go_wp2_with fail
    refine (Sum_any A n c xs _ HR.out).mono ?_
    rintro e w' ⟨rfl, rfl⟩
    rw [HS.out]
    go_wp2_with fail
    refine (Sum_any _ 2 2 [t, sumV xs] _ HRow.out).mono ?_
    rintro e w' ⟨rfl, rfl⟩
    cases hs2 : sumB [t, sumV xs] with
    | false =>
      go_wp2
      go_ret
      have := hadd.out.2 hs2
      exact ⟨ret_bool this.2, by rw [this.1, HSM.out]; exact HO.out.alloc _, World.grownBy_alloc _ _ _⟩
    | true =>
      go_wp2
      go_ret
      have := hadd.out.1 hs2
      exact ⟨ret_bool this.2, by rw [this.1, ← ints_set]; exact (HO.out.setAt _ _).alloc _, grown_alloc (grown_set (World.grownBy.refl _ _) _) _⟩

end Go.Proofs.Ytmodkhcfihlhgaa
