/-
  The law PathLong, walked.
-/
import Derived.Test.YtfldicenikkacaaMathLong
namespace Go.Proofs.Ytfldicenikkacaa
open Go.RowKit

def froV : List Value := [.int .i64 0, .int .i64 1, .int .i64 0, .int .i64 1, .int .i64 0, .int .i64 0]
theorem fro_flat : linkE.flat froL = froV := rfl

def LongRel (w : World) (gl gb k : Nat) (o i : Value) (wr : World) : Prop :=
  ∃ j : Nat, j ≤ k ∧ i = .int .i64 (j : Nat) ∧ w.grownBy wr none ∧ Own wr gl 45 (linkE.flat froL) ∧ Own wr gb 24 [.int .i64 2, .slice (some ⟨gl, 0, none⟩) 2 2] ∧ Mine wr (w.heap.size + 2) o j (alt j)

theorem alt_ok (k : Nat) : okI (alt k) := fun i => get_in (fun x hx => by
  obtain ⟨j, _, rfl⟩ := List.mem_map.1 hx
  have : j % 2 < 2 := Nat.mod_lt _ (by omega)
  omega) (by omega) i

set_option maxHeartbeats 2000000 in
theorem PathLong_walk (many : Int) (w : World) :
    Calls Try.prog 14 #[.int .i64 many] w (LawPost w) := by
  obtain ⟨k, hk, hb⟩ := and_127 many
  obtain ⟨g, o1, o2⟩ := box2 (w := w) (T := 45) (U := 24) froV [.int .i64 2, .slice (some ⟨w.heap.size, 0, none⟩) 2 2] (World.grownBy.refl _ none)
  have hb1 := and_1 hk
  go_enter Try.func14, Try.ntmps14
  go_upto_region 2 with fail
  have HS : Hid (LongRel w w.heap.size (w.heap.size + 1) k (.slice none 0 0) (.int .i64 0) ((w.alloc (.cells #[.int .i64 0, .int .i64 1, .int .i64 0, .int .i64 1, .int .i64 0, .int .i64 0] 45)).alloc (.cells #[.int .i64 2, .slice (some ⟨w.heap.size, 0, none⟩) 2 2] 24))) :=
    ⟨0, Nat.zero_le _, rfl, g, fro_flat ▸ o1, o2, Mine.nil _ _⟩
  clear g o1 o2
  generalize (w.alloc (.cells #[.int .i64 0, .int .i64 1, .int .i64 0, .int .i64 1, .int .i64 0, .int .i64 0] 45)).alloc (.cells #[.int .i64 2, .slice (some ⟨w.heap.size, 0, none⟩) 2 2] 24) = w0 at *
  go_wp2
  go_loopw [5, 6] (fun o i wr => LongRel w w.heap.size (w.heap.size + 1) k o i wr) (fun _ i _ => k - (intOf i).toNat)
  case atStart => exact HS.out
  case round =>
    clear HS
    obtain ⟨j, hj, rfl, hg, ol, ob, hmine⟩ := hrel
    have G := Lib.hid hg
    have OL := Lib.hid ol
    have OB := Lib.hid ob
    have HM := Lib.hid hmine
    have hsz := ob.lt
    by_cases hlt : j < k
    · have hj1 := and_1 (k := j) (by omega)
      have HN := Lib.hid (alt_next j)
      have hm2 : j % 2 < 2 := Nat.mod_lt _ (by omega)
      clear hg ol ob hmine hb hb1
      generalize j % 2 = r at *
      go_wp2_with (first | (at_builtin; refine wpList_app _ rfl _ _ rfl (w.heap.size + 2) _ _ _ rfl (HM.out.kept (grow0 _ _)) _ 1 1 [(r : Int)] rfl (Row.newAt [(r : Int)] rfl rfl rfl (by simp) (by simp; omega)) (by simp) (by omega) (by simp; omega) ?_))
      intro v1 w3 hm1 hg3 _
      have hge := HM.out.own_ge
      have G3 := Lib.hid (grown_none (grown_alloc G.out _) hg3 (fun g hg => by have := hge g hg; omega))
      have OL3 := Lib.hid (Own.kept' (OL.out.alloc _) hg3 (fun e => by have := hge _ e; omega))
      have OB3 := Lib.hid (Own.kept' (OB.out.alloc _) hg3 (fun e => by have := hge _ e; omega))
      have HM3 := Lib.hid hm1
      clear hm1 hg3 hge
      go_wp2
      go_roundw
      case rel => exact ⟨j + 1, by omega, by go_num, G3.out, OL3.out, OB3.out, by rw [HN.out]; exact HM3.out⟩
      case measure => simp [intOf]; omega
    · obtain rfl : j = k := by omega
      obtain ⟨X, d, rfl, hd, hnil, hrow⟩ := hmine.rowN (alt_ok j)
      have HX := Lib.hid hrow
      obtain ⟨c0, c1⟩ := ob.two
      clear hg ol ob hmine hrow HM hb
      have hll := OL.out.lt
      go_wp2_with fail
      refine (Walk_any 2 0 (some ⟨w.heap.size, 0, none⟩) 2 2 froL X j d (alt j) _ (OL.out.lks froL 2 rfl (by decide) rfl) (by omega) HX.out (Nat.le_refl _)).mono ?_
      rintro e w4 ⟨va, rfl, ha, k⟩
      have s4 := k.size
      have G := Lib.hid (grown_trans G.out k)
      have OL := Lib.hid (OL.out.kept k)
      have OB := Lib.hid (OB.out.kept k)
      have HX := Lib.hid (HX.out.grown (Nat.le_refl _) k)
      obtain ⟨Aa, ca, rfl, _⟩ := ha.sl
      clear k ha c0 c1
      obtain ⟨c0, c1⟩ := OB.out.two
      go_wp2_with fail
      refine (Simple_any 2 0 (some ⟨w.heap.size, 0, none⟩) 2 2 froL X j d (alt j) _ (OL.out.lks froL 2 rfl (by decide) rfl) (by omega) HX.out (by omega)).mono ?_
      rintro e w5 ⟨vb, rfl, hb, k⟩
      have G := Lib.hid (grown_trans G.out k)
      obtain ⟨Ab, cb, rfl, _⟩ := hb.sl
      clear k hb c0 c1 HX OL OB
      by_cases h64 : j ≤ 64
      · have E := walk_ok (fro_goes h64)
        have el := fro_sim_len j
        rw [E.1, E.2.1, E.2.2, el, vsOf_len, alt_len]
        clear E el
        have hm2 : j % 2 < 2 := Nat.mod_lt _ (by omega)
        generalize j % 2 = r at *
        have hrr : ((r : Int) == (r : Int)) = true := by simp
        go_wp2_with fail
        refine (awake6_any _).mono ?_
        rintro e w6 ⟨rfl, k⟩
        have G := Lib.hid (grown_trans G.out k)
        clear k
        go_wp2_with fail
        refine (Num0_any _ _).mono ?_
        rintro e w7 ⟨rfl, rfl⟩
        go_wp2_with fail
        refine (Num0_any _ _).mono ?_
        rintro e w7 ⟨rfl, rfl⟩
        go_wp2
        go_ret
        exact ⟨rfl, below_of G.out⟩
      · have E := walk_form (fro_long h64)
        rw [E.1]
        generalize (walkV 2 froL 0 (alt j)).length = na at *
        generalize (simV 2 froL 0 (alt j)).length = nb at *
        clear E
        go_wp2_with fail
        refine (awake6_any _).mono ?_
        rintro e w6 ⟨rfl, k⟩
        have G := Lib.hid (grown_trans G.out k)
        clear k
        go_wp2_with fail
        refine (Num0_any _ _).mono ?_
        rintro e w7 ⟨rfl, rfl⟩
        go_wp2_with fail
        refine (Num0_any _ _).mono ?_
        rintro e w7 ⟨rfl, rfl⟩
        go_wp2
        go_ret
        exact ⟨rfl, below_of G.out⟩

end Go.Proofs.Ytfldicenikkacaa
