/-
  TreeInserts, walked.
-/
import Derived.Test.YtgfehlmiejnonaaTreeN
set_option maxRecDepth 20000
namespace Go.Proofs.Ytgfehlmiejnonaa
open Go.RowKit

theorem all_len {ns : List Nd} {r : Int} {free : List Int} {xs : List It} (h : allF ns r free = some xs) : xs.length ≤ 32 := by
  obtain ⟨T, t, rfl⟩ := of_all h
  have := T.sum_len ns
  have := t.all
  have := t.few
  omega

set_option maxHeartbeats 4000000 in
theorem TreeInserts_walk (A : Option Addr) (n c : Nat) (ns : List Nd) (r : Int) (FA : Option Addr) (fn fc : Nat) (free : List Int) (x0 x1 x2 : Int) (w : World) (h : InT w A n c ns FA fn fc free) :
    Calls Try.prog 4 #[.agg #[.slice A n c, .int .i64 r, .slice FA fn fc], .agg #[.int .i64 x0, .int .i64 x1, .int .i64 x2]] w (LawPost w) := by
  obtain ⟨ht, hnc, hcb, hnil, hfc, hfb, hfnil⟩ := h
  have HT := Lib.hid ht
  have HOK := Lib.hid ht.free.ok
  have HLEN := Lib.hid ht.nodes.len
  have HFL := Lib.hid ht.free.len
  have HNIL := Lib.hid hnil
  have HFNIL := Lib.hid hfnil
  have GB := Lib.hid (box2 (w := w) (T := 25) (U := 50) [.slice A n c, .int .i64 r, .slice FA fn fc] [.int .i64 x0, .int .i64 x1, .int .i64 x2] (World.grownBy.refl _ none))
  have hs1 : ((w.alloc (.cells #[.slice A n c, .int .i64 r, .slice FA fn fc] 25)).alloc (.cells #[.int .i64 x0, .int .i64 x1, .int .i64 x2] 50)).heap.size = w.heap.size + 2 := by simp
  clear ht hnil hfnil
  go_enter Try.func4, Try.ntmps4
  go_upto_region 1 with fail
  generalize (w.alloc (.cells #[.slice A n c, .int .i64 r, .slice FA fn fc] 25)).alloc (.cells #[.int .i64 x0, .int .i64 x1, .int .i64 x2] 50) = w1 at *
  obtain ⟨g1, o1, o2⟩ := GB.out
  obtain ⟨c0, c1, c2⟩ := o1.three
  obtain ⟨i0, i1, i2⟩ := o2.three
  have G := Lib.hid g1
  have O1 := Lib.hid o1
  have O2 := Lib.hid o2
  have T1 := Lib.hid (HT.out.grown (Nat.le_refl _) g1)
  clear GB g1 o1 o2
  go_wp2_with fail
  refine (CopyTree_any A n c ns r FA fn fc free _ T1.out.nodes (by omega) T1.out.free (by omega) HNIL.out HFNIL.out (by omega) (by omega)).mono ?_
  rintro e w2 ⟨v2, f2, rfl, m2, k2, g2⟩
  obtain ⟨Ax, cx, Fx, fx, rfl, rfl, _, _, tx⟩ := tre_of m2 k2 HOK.out
  have TX := Lib.hid tx
  have G := Lib.hid (grown_trans G.out g2)
  have O1 := Lib.hid (O1.out.kept g2)
  have O2 := Lib.hid (O2.out.kept g2)
  have hs2 := g2.size
  clear m2 k2 g2 tx c0 c1 c2 i0 i1 i2 T1
  rw [HLEN.out, HFL.out] at TX
  rw [HLEN.out, HFL.out]
  obtain ⟨c0, c1, c2⟩ := O1.out.three
  obtain ⟨i0, i1, i2⟩ := O2.out.three
  go_upto_region 2 with fail
  clear c0 c1 c2 i0 i1 i2
  have kx := grow0 w2 (.cells #[.slice Ax n cx, .int .i64 r, .slice Fx fn fx] 25)
  have OX := Lib.hid (Own.new w2 25 [.slice Ax n cx, .int .i64 r, .slice Fx fn fx])
  have G := Lib.hid (grown_trans G.out kx)
  have O1 := Lib.hid (O1.out.kept kx)
  have O2 := Lib.hid (O2.out.kept kx)
  have TX := Lib.hid (TX.out.grown (Nat.le_refl _) kx)
  have hs3 : (w2.alloc (.cells #[.slice Ax n cx, .int .i64 r, .slice Fx fn fx] 25)).heap.size = w2.heap.size + 1 := by simp
  clear kx
  generalize w2.alloc (.cells #[.slice Ax n cx, .int .i64 r, .slice Fx fn fx] 25) = w3 at *
  generalize w2.heap.size = qx at *
  obtain ⟨i0, i1, i2⟩ := O2.out.three
  obtain ⟨a0, a1, a2⟩ := OX.out.three
  go_wp2_with fail
  refine (Insert_any Ax n cx ns r Fx fn fx free x0 x1 x2 w3 TX.out (by omega)).mono ?_
  rintro e w4 ⟨ns', r', free', z, v', f', hins, rfl, m4, k4, g4⟩
  have HI := Lib.hid hins
  have M4 := Lib.hid m4
  have K4 := Lib.hid k4
  have okf : okI free' := by
    by_cases hz : z = 0
    · obtain ⟨xs, _, h⟩ := hins.2.2 hz
      exact free_ok h
    · rw [(hins.2.1 hz).2.2]; exact okI_nil
  obtain ⟨Aa, ca, Fa, fa, rfl, rfl, _, _, ta⟩ := tre_of m4 k4 okf
  have TA := Lib.hid ta
  have GW := Lib.hid g4
  have hs4 := g4.size
  clear hins m4 k4 okf ta g4 i0 i1 i2 a0 a1 a2
  obtain ⟨i0, i1, i2⟩ := (O2.out.kept GW.out).three
  go_upto_region 3 with fail
  clear i0 i1 i2
  have kx := grow0 w4 (.cells #[.slice Aa ns'.length ca, .int .i64 r', .slice Fa free'.length fa] 25)
  have OA := Lib.hid (Own.new w4 25 [.slice Aa ns'.length ca, .int .i64 r', .slice Fa free'.length fa])
  have GW := Lib.hid (grown_trans GW.out kx)
  have TA := Lib.hid (TA.out.grown (Nat.le_refl _) kx)
  have M4 := Lib.hid (M4.out.kept kx)
  have K4 := Lib.hid (K4.out.kept kx)
  have hs5 : (w4.alloc (.cells #[.slice Aa ns'.length ca, .int .i64 r', .slice Fa free'.length fa] 25)).heap.size = w4.heap.size + 1 := by simp
  clear kx
  generalize w4.alloc (.cells #[.slice Aa ns'.length ca, .int .i64 r', .slice Fa free'.length fa] 25) = w5 at *
  generalize w4.heap.size = qa at *
  obtain ⟨c0, c1, c2⟩ := (O1.out.kept GW.out).three
  obtain ⟨i0, i1, i2⟩ := (O2.out.kept GW.out).three
  go_wp2_with fail
  refine (InsertError_any ns n r A c free FA fn fc x0 x1 x2 w5 (HT.out.nodes.grown (Nat.le_refl _) (grown_trans G.out GW.out)) (by omega) (HT.out.free.grown (Nat.le_refl _) (grown_trans G.out GW.out)) (by omega)).mono ?_
  rintro e w6 ⟨rfl, g6⟩
  have GW := Lib.hid (grown_trans GW.out g6)
  have OA := Lib.hid (OA.out.kept g6)
  have TA := Lib.hid (TA.out.grown (by omega) g6)
  have M4 := Lib.hid (M4.out.kept g6)
  have K4 := Lib.hid (K4.out.kept g6)
  have hs6 := g6.size
  have HZ := Lib.hid HI.out.1
  rw [← HZ.out]
  clear g6 c0 c1 c2 i0 i1 i2
  go_wp2_with fail
  refine (num_says _ _).mono ?_
  rintro e w7 ⟨rfl, g7⟩
  have GW := Lib.hid (grown_trans GW.out g7)
  have OA := Lib.hid (OA.out.kept g7)
  have TA := Lib.hid (TA.out.grown (by omega) g7)
  have M4 := Lib.hid (M4.out.kept g7)
  have K4 := Lib.hid (K4.out.kept g7)
  have hs7 := g7.size
  clear g7
  have hzz : (z != z) = false := not_same
  obtain ⟨c0, c1, c2⟩ := (O1.out.kept GW.out).three
  obtain ⟨a0, a1, a2⟩ := (OX.out.kept GW.out).three
  go_wp2_with fail
  refine (SameTree_same Ax A n cx c ns r Fx FA fn fx fc free w7 (TX.out.nodes.grown (by omega) GW.out) (by have := GW.out.size; omega) (HT.out.nodes.grown (Nat.le_refl _) (grown_trans G.out GW.out)) (by omega) (TX.out.free.grown (by omega) GW.out) (by have := GW.out.size; omega) (HT.out.free.grown (Nat.le_refl _) (grown_trans G.out GW.out)) (by omega)).mono ?_
  rintro e w8 ⟨rfl, g8⟩
  have GW := Lib.hid (grown_trans GW.out g8)
  have OA := Lib.hid (OA.out.kept g8)
  have TA := Lib.hid (TA.out.grown (by omega) g8)
  have M4 := Lib.hid (M4.out.kept g8)
  have K4 := Lib.hid (K4.out.kept g8)
  have hs8 := g8.size
  clear g8 c0 c1 c2 a0 a1 a2 hzz
  by_cases hz : z = 0
  · obtain ⟨xs, hV, hA⟩ := HI.out.2.2 hz
    subst hz
    have HV := Lib.hid hV
    have HA := Lib.hid hA
    have hxl := all_len hV
    have hyl := all_len hA
    clear HI HZ hV hA
    obtain ⟨c0, c1, c2⟩ := (O1.out.kept GW.out).three
    go_wp2_with fail
    refine (RAll_any ns n r A c free FA fn fc w8 (HT.out.nodes.grown (Nat.le_refl _) (grown_trans G.out GW.out)) (by omega) (HT.out.free.grown (Nat.le_refl _) (grown_trans G.out GW.out)) (by omega)).mono ?_
    rw [HV.out]
    rintro e w9 ⟨v9, rfl, m9, g9⟩
    have M9 : Hid (MineE itemE w9 w8.heap.size v9 xs.length xs) := m9
    have GW := Lib.hid (grown_trans GW.out g9)
    have OA := Lib.hid (OA.out.kept g9)
    have TA := Lib.hid (TA.out.grown (by omega) g9)
    have M4 := Lib.hid (M4.out.kept g9)
    have K4 := Lib.hid (K4.out.kept g9)
    have hs9 := g9.size
    clear g9 m9 c0 c1 c2
    obtain ⟨a0, a1, a2⟩ := OA.out.three
    go_wp2_with fail
    refine (RAll_any ns' ns'.length r' Aa ca free' Fa free'.length fa w9 TA.out.nodes (by omega) TA.out.free (by omega)).mono ?_
    rw [HA.out]
    rintro e w10 ⟨v10, rfl, m10, g10⟩
    have M10 : Hid (MineE itemE w10 w9.heap.size v10 (withF (x0, x1, x2) xs).length (withF (x0, x1, x2) xs)) := m10
    have GW := Lib.hid (grown_trans GW.out g10)
    have OA := Lib.hid (OA.out.kept g10)
    have M4 := Lib.hid (M4.out.kept g10)
    have K4 := Lib.hid (K4.out.kept g10)
    have M9 := Lib.hid (M9.out.kept g10)
    have hs10 := g10.size
    clear g10 m10 a0 a1 a2 TA
    obtain ⟨A9, k9, rfl, _, _, r9⟩ := M9.out.row
    have R9 := Lib.hid r9
    clear r9
    obtain ⟨i0, i1, i2⟩ := (O2.out.kept GW.out).three
    go_wp2_with fail
    refine (With_any x0 x1 x2 A9 xs.length k9 xs w10 R9.out (Nat.le_refl _) (by omega)).mono ?_
    rintro e w11 ⟨v11, rfl, m11, g11⟩
    have M11 := Lib.hid m11
    have GW := Lib.hid (grown_trans GW.out g11)
    have OA := Lib.hid (OA.out.kept g11)
    have M4 := Lib.hid (M4.out.kept g11)
    have K4 := Lib.hid (K4.out.kept g11)
    have M10 := Lib.hid (M10.out.kept g11)
    have hs11 := g11.size
    clear g11 m11 i0 i1 i2 R9
    obtain ⟨A10, k10, rfl, _, _, r10⟩ := M10.out.row
    obtain ⟨A11, k11, rfl, _, _, r11⟩ := M11.out.row
    have R10 := Lib.hid r10
    have R11 := Lib.hid r11
    clear r10 r11
    go_wp2_with fail
    refine (SameItems_any A10 _ k10 _ A11 _ k11 _ w11 R10.out (Nat.le_refl _) R11.out (Nat.le_refl _)).mono ?_
    rw [decide_eq_true (rfl : withF (x0, x1, x2) xs = withF (x0, x1, x2) xs)]
    rintro e w12 ⟨rfl, g12⟩
    have GW := Lib.hid (grown_trans GW.out g12)
    have OA := Lib.hid (OA.out.kept g12)
    have M4 := Lib.hid (M4.out.kept g12)
    have K4 := Lib.hid (K4.out.kept g12)
    clear g12 R10 R11 M10 M11 M9
    obtain ⟨a0, a1, a2⟩ := OA.out.three
    go_wp2_with fail
    refine (SpoilTree_any w3 _ _ ns' r' _ _ free' w12 GW.out M4.out K4.out (apart_T M4.out K4.out (by decide))).mono ?_
    rintro e w13 ⟨rfl, gw⟩
    have GW := Lib.hid gw
    clear gw a0 a1 a2 M4 K4 OA
    go_wp2_with fail
    refine (awake17_any _).mono ?_
    rintro e w14 ⟨rfl, g14⟩
    have GW := Lib.hid (grown_trans GW.out g14)
    clear g14
    obtain ⟨c0, c1, c2⟩ := (O1.out.kept GW.out).three
    obtain ⟨a0, a1, a2⟩ := (OX.out.kept GW.out).three
    go_wp2_with fail
    refine (SameTree_same Ax A n cx c ns r Fx FA fn fx fc free w14 (TX.out.nodes.grown (by omega) GW.out) (by have := GW.out.size; omega) (HT.out.nodes.grown (Nat.le_refl _) (grown_trans G.out GW.out)) (by have := GW.out.size; omega) (TX.out.free.grown (by omega) GW.out) (by have := GW.out.size; omega) (HT.out.free.grown (Nat.le_refl _) (grown_trans G.out GW.out)) (by have := GW.out.size; omega)).mono ?_
    rintro e w15 ⟨rfl, g15⟩
    have GW := Lib.hid (grown_trans GW.out g15)
    clear g15 c0 c1 c2 a0 a1 a2
    go_wp2
    go_ret
    exact ⟨rfl, below_of (grown_trans G.out GW.out)⟩
  · have hzb : (z != 0) = true := by simpa using hz
    obtain ⟨rfl, rfl, rfl⟩ := HI.out.2.1 hz
    simp only [List.length_nil] at OA
    clear hz HI HZ
    go_wp2_with fail
    refine (awake17_any _).mono ?_
    rintro e w9 ⟨rfl, g9⟩
    obtain ⟨a0, a1, a2⟩ := (OA.out.kept g9).three
    have GW := Lib.hid (grown_trans GW.out g9)
    clear g9
    go_wp2
    go_ret
    exact ⟨rfl, below_of (grown_trans G.out GW.out)⟩

end Go.Proofs.Ytgfehlmiejnonaa
