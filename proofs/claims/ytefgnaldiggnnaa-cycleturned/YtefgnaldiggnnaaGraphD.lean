/-
  The reference's GraphMay, Out, In, Total.
-/
import Derived.Test.YtefgnaldiggnnaaGraphC
set_option maxRecDepth 20000
namespace Go.Proofs.Ytefgnaldiggnnaa
open Go.RowKit

theorem may_none {V : Int} {ls : List Lk} (h : totalOf V ls = none) : mayG V ls = false := by simp [mayG, h]
theorem may_some {V s : Int} {ls : List Lk} (h : totalOf V ls = some s) : mayG V ls = true := by simp [mayG, h]
theorem may_form {V : Int} {ls : List Lk} {n : Nat} (hl : ls.length = n) (h : V < 2 ∨ 8 < V ∨ 16 < n) : mayG V ls = false := by
  have := (tot_form hl h).2
  cases hm : mayG V ls
  · rfl
  · simp [totE, hm] at this

def RMayRel (w : World) (V : Int) (A : Option Addr) (n c : Nat) (ls : List Lk) (a i : Value) (wr : World) : Prop :=
  ∃ (k : Nat) (acc : Int), k ≤ n ∧ a = .int .i64 acc ∧ i = .int .i64 (k : Nat) ∧ w.grownBy wr none ∧ Own wr w.heap.size 24 [.int .i64 V, .slice A n c] ∧
    capsFrom V acc (ls.drop k) = totalOf V ls ∧ 0 ≤ acc ∧ acc ≤ 4611686018427387904

theorem RMay_any (V : Int) (A : Option Addr) (n c : Nat) (ls : List Lk) (w : World) {B : Nat} (h : Lks w B A n ls) :
    Calls Try.prog 26 #[.agg #[.int .i64 V, .slice A n c]] w (Says w (.bool (mayG V ls))) := by
  have hn := h.small
  have hlen := h.len
  by_cases h1 : V < 2
  · have E := Lib.hid (may_form (V := V) hlen (.inl h1))
    clear h hlen
    go_enter Try.func26, Try.ntmps26
    go_wp2
    go_ret
    exact ⟨ret_bool E.out, grow0 _ _⟩
  by_cases h2 : 8 < V
  · have E := Lib.hid (may_form (V := V) hlen (.inr (.inl h2)))
    clear h hlen
    go_enter Try.func26, Try.ntmps26
    go_wp2
    go_ret
    exact ⟨ret_bool E.out, grow0 _ _⟩
  by_cases h3 : 16 < n
  · have E := Lib.hid (may_form (V := V) hlen (.inr (.inr h3)))
    clear h hlen
    go_enter Try.func26, Try.ntmps26
    go_wp2
    go_ret
    exact ⟨ret_bool E.out, grow0 _ _⟩
  have hn16 : ¬ (16 : Int) < (n : Int) := by omega
  have hd16 : decide ((16 : Int) < (n : Int)) = false := by simp; omega
  have HGO := Lib.hid (tot_go (V := V) hlen (by omega) (by omega) (by omega))
  have HL := Lib.hid hlen
  have HR := Lib.hid h
  have HS : Hid (RMayRel w V A n c ls (.int .i64 0) (.int .i64 0) (w.alloc (.cells #[.int .i64 V, .slice A n c] 24))) := by
    obtain ⟨a, b⟩ := box1 [.int .i64 V, .slice A n c] (World.grownBy.refl (w.alloc (.cells #[.int .i64 V, .slice A n c] 24)) none)
    exact ⟨0, 0, Nat.zero_le _, rfl, rfl, a, b, by rw [HGO.out]; rfl, by omega, by omega⟩
  clear h hlen HGO
  go_enter Try.func26, Try.ntmps26
  go_wp2
  go_loopw [3, 4] (fun a i wr => RMayRel w V A n c ls a i wr) (fun _ i _ => n - (intOf i).toNat)
  case atStart => exact HS.out
  case round =>
    clear HS
    obtain ⟨k, acc, hk, rfl, rfl, hg, o1, hcap, ha0, ha1⟩ := hrel
    have G := Lib.hid hg
    have hsz := hg.size
    have l1 := o1.lt
    obtain ⟨c1, c2⟩ := o1.two
    have O1 := Lib.hid o1
    by_cases hlt : k < n
    · obtain ⟨b, off, hA, hb, hcell⟩ := HR.out.cells (by omega)
      subst hA
      obtain ⟨d0, d1, d2⟩ := hcell k hlt
      have d0 := kept hg d0
      have d1 := kept hg d1
      have d2 := kept hg d2
      have HOK := Lib.hid (fun x => (caps_step (V := V) (acc := acc) (ls := ls) (k := k) (by rw [HL.out]; exact hlt) x).symm.trans hcap)
      have HNO := Lib.hid (fun x => may_none ((caps_stop (V := V) (acc := acc) (ls := ls) (k := k) (by rw [HL.out]; exact hlt) x).symm.trans hcap).symm)
      clear hcell hcap hg o1
      generalize at3 ls k = l at *
      obtain ⟨f, t, cp⟩ := l
      simp only at d0 d1 d2
      go_wp2_with fail
      refine (RVertex_any V f (some ⟨b, off, none⟩) n c _).mono ?_
      rintro e w2 ⟨rfl, hg2⟩
      obtain ⟨g2, o5⟩ := box1 [.int .i64 f, .int .i64 t, .int .i64 cp] hg2
      have O1 := Lib.hid (O1.out.kept g2)
      have O5 := Lib.hid o5
      have G := Lib.hid (grown_trans G.out g2)
      obtain ⟨c6, c7, c8⟩ := o5.three
      clear d0 d1 d2 c1 c2 o5 g2 hg2
      obtain ⟨c1, c2⟩ := O1.out.two
      cases hf : isV V f
      · have E := Lib.hid (HNO.out (by simp [linkOk, joinsB, hf]))
        clear HNO HOK
        go_wp2
        go_ret
        exact ⟨ret_bool E.out, G.out⟩
      go_wp2_with fail
      refine (RVertex_any V t (some ⟨b, off, none⟩) n c _).mono ?_
      rintro e w3 ⟨rfl, g3⟩
      have O1 := Lib.hid (O1.out.kept g3)
      have O5 := Lib.hid (O5.out.kept g3)
      have G := Lib.hid (grown_trans G.out g3)
      clear c6 c7 c8 c1 c2 g3
      obtain ⟨c6, c7, c8⟩ := O5.out.three
      cases ht : isV V t
      · have E := Lib.hid (HNO.out (by simp [linkOk, joinsB, ht]))
        clear HNO HOK
        go_wp2
        go_ret
        exact ⟨ret_bool E.out, G.out⟩
      by_cases hft : f = t
      · have E := Lib.hid (HNO.out (by simp [linkOk, joinsB, hft]))
        have hb : (f == t) = true := by simp [hft]
        clear HNO HOK hf ht
        subst hft
        go_wp2
        go_ret
        exact ⟨ret_bool E.out, G.out⟩
      have hft2 : (f == t) = false := by simp [hft]
      have hw : IntKind.i64.wrap (4611686018427387904 - acc) = 4611686018427387904 - acc := IntWalk.i64_in _ (by omega)
      by_cases hc0 : cp < 0
      · have E := Lib.hid (HNO.out (by simp [linkOk]; omega))
        clear HNO HOK hf ht
        go_wp2
        go_ret
        exact ⟨ret_bool E.out, G.out⟩
      by_cases hc1 : 4611686018427387904 - acc < cp
      · have E := Lib.hid (HNO.out (by simp [linkOk]; omega))
        clear HNO HOK hf ht
        go_wp2
        go_ret
        exact ⟨ret_bool E.out, G.out⟩
      have HC := Lib.hid (HOK.out (by simp [linkOk, joinsB, hf, ht, hft2]; omega))
      clear HNO HOK hf ht
      go_wp2
      go_roundw
      case rel => exact ⟨k + 1, acc + cp, by omega, by first | rfl | go_num, by go_num, G.out, O1.out, HC.out, by omega, by omega⟩
      case measure => simp [intOf]; omega
    · have E := Lib.hid (may_some ((caps_end (V := V) (acc := acc) (ls := ls) (k := k) (by rw [HL.out]; omega)).symm.trans hcap).symm)
      clear hcap o1 hg
      go_wp2
      go_ret
      exact ⟨ret_bool E.out, G.out⟩

end Go.Proofs.Ytefgnaldiggnnaa
