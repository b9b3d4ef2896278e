import Derived.Test.YthblaieneglddaaSpanG
namespace Go.Proofs.Ythblaieneglddaa
open Go.RowKit

def CutAtRel (w : World) (L : Nat) (a b : Int) (ps : List Int) (s f : Value) (wr : World) : Prop :=
  ∃ k, k ≤ L ∧ f = .int .i64 (fromAt a b ps k) ∧ w.grownBy wr none ∧ MineE spanE wr w.heap.size s k ((cutsOf a b ps).take k)

def NxtRel (n : Nat) (f b : Int) (ps : List Int) (t i : Value) : Prop :=
  ∃ (k : Nat) (x : Int), k ≤ n ∧ i = .int .i64 (k : Nat) ∧ t = .int .i64 x ∧ nxt f (ps.drop k) x = nxt f ps b

theorem CutAt_any (a b : Int) (A : Option Addr) (n c : Nat) (ps : List Int) (w : World) {B : Nat} (h : Row w B A n ps) (hB : B ≤ w.heap.size) :
    Calls Try.prog 22 #[.agg #[.int .i64 a, .int .i64 b], .slice A n c] w (CutPost w a b ps) := by
  have hn := h.small
  have HR := Lib.hid h
  clear h
  go_enter Try.func22, Try.ntmps22
  go_wp2_with fail
  refine (SpanMay_any a b _).mono ?_
  rintro e w1 ⟨rfl, hg1⟩
  obtain ⟨g1, o1⟩ := boxes1 hg1
  have hR1 := HR.out.grown hB g1
  have hsz := g1.size
  have l1 := o1.lt
  obtain ⟨c0, c1⟩ := o1.two
  have G1 := Lib.hid g1
  have O1 := Lib.hid o1
  have HR1 := Lib.hid hR1
  clear hg1 g1 o1 hR1 HR
  cases hm : spanMay a b
  · go_wp2
    go_ret2
    have e1 : cutL a b ps = [] := by simp [cutL, hm]
    refine ⟨_, ?_, by rw [e1]; exact MineE.nil _ _ _, G1.out⟩
    simp [cutE, hm]
  · obtain ⟨ha, hab, hb⟩ := spanMay_bd hm
    have hfew := ends_few a b ps hab
    have hel := ends_len a b ps
    have HS : Hid (CutAtRel w1 (ends a b ps).length a b ps (.slice none 0 0) (.int .i64 a) w1) := ⟨0, Nat.zero_le _, rfl, World.grownBy.refl _ _, MineE.nil _ _ _⟩
    generalize hL : (ends a b ps).length = L at *
    have HL := Lib.hid hL
    clear hL
    go_wp2
    go_loopw [6, 7] (fun s f wr => CutAtRel w1 L a b ps s f wr) (fun _ f _ => (b - intOf f).toNat)
    case atStart => exact HS.out
    case round =>
      clear HS c0 c1
      obtain ⟨k, hk, rfl, hg, hmine⟩ := hrel
      have G := Lib.hid hg
      have HM := Lib.hid hmine
      have hszr := hg.size
      have HR2 := Lib.hid (HR1.out.grown (by omega) hg)
      obtain ⟨c0, c1⟩ := (O1.out.kept hg).two
      clear hmine hg
      by_cases hlt : k < L
      · have hf := from_not_end a b ps hab k (by rw [HL.out]; exact hlt)
        have hinc := from_lt a b ps hab k (k + 1) (by omega) (by rw [HL.out]; omega)
        have HST := Lib.hid (cuts_step a b ps k (by rw [HL.out]; exact hlt))
        have HNX := Lib.hid (nxt_at a b ps hab k (by rw [HL.out]; exact hlt))
        have HTO := Lib.hid (fromAt_succ a b ps k)
        have HLEN := Lib.hid HR2.out.len
        generalize fromAt a b ps k = f at *
        generalize hF1 : fromAt a b ps (k + 1) = f1 at hinc HNX HTO
        have HF1 := Lib.hid hF1
        clear hF1
        go_wp2
        go_loop [8, 9] (fun t i => NxtRel n f b ps t i) (fun _ i => n - (intOf i).toNat)
        case atStart => exact ⟨0, b, Nat.zero_le _, rfl, rfl, rfl⟩
        case round =>
          obtain ⟨j, x, hj, rfl, rfl, hx⟩ := hrel
          by_cases hjl : j < n
          · obtain ⟨b2, off, hA, hb2, hcell⟩ := HR2.out.at_ (by omega)
            subst hA
            have d0 := hcell j hjl
            have HX := Lib.hid ((nxt_step f ps j (by rw [HLEN.out]; exact hjl) x).symm.trans hx)
            clear hcell hx
            generalize ps[j]?.getD 0 = p at *
            by_cases h1 : f < p
            · by_cases h2 : p < x
              · have HX2 := HX.out
                rw [if_pos ⟨h1, h2⟩] at HX2
                have HX2 := Lib.hid HX2
                clear HX
                go_wp2
                go_round
                case rel => exact ⟨j + 1, p, by omega, by go_num, rfl, HX2.out⟩
                case measure => simp [intOf]; omega
              · have HX2 := HX.out
                rw [if_neg (fun h => h2 h.2)] at HX2
                have HX2 := Lib.hid HX2
                clear HX
                go_wp2
                go_round
                case rel => exact ⟨j + 1, x, by omega, by go_num, rfl, HX2.out⟩
                case measure => simp [intOf]; omega
            · have HX2 := HX.out
              rw [if_neg (fun h => h1 h.1)] at HX2
              have HX2 := Lib.hid HX2
              clear HX
              go_wp2
              go_round
              case rel => exact ⟨j + 1, x, by omega, by go_num, rfl, HX2.out⟩
              case measure => simp [intOf]; omega
          · have hd : ps.drop j = [] := List.drop_eq_nil_of_le (by rw [HLEN.out]; omega)
            rw [hd, HNX.out] at hx
            have hx2 : f1 = x := hx.symm
            clear hd hx
            subst hx2
            have hst := HST.out
            rw [← HTO.out] at hst
            have HST := Lib.hid hst
            clear hst
            have HP := Lib.hid (pair_row (w := wr) f f1)
            have HM1 := Lib.hid (HM.out.grow (.cells #[.int .i64 f, .int .i64 f1] 23))
            go_wp2_with (first | (at_builtin; refine wpList_appE spanE _ rfl _ _ rfl w1.heap.size _ k ((cutsOf a b ps).take k) rfl HM1.out _ 1 1 [(f, f1)] rfl HP.out (by simp) (by unfold maxLen; omega) (by show (k + 1) * 16 ≤ _; omega) (by simp; omega) ?_))
            intro v2 w2 hmine2 hg2 _
            have HM2 : Hid (MineE spanE w2 w1.heap.size v2 (k + 1) ((cutsOf a b ps).take (k + 1))) := by rw [HST.out]; exact hmine2
            have HG2 := Lib.hid (grown_none (grown_trans G.out (grow0 wr (.cells #[.int .i64 f, .int .i64 f1] 23))) hg2 (fun g hg => HM1.out.own_ge g hg))
            clear hmine2 hg2
            go_wp2
            go_roundw
            case rel => exact ⟨k + 1, by omega, by rw [HF1.out], HG2.out, HM2.out⟩
            case measure => simp [intOf]; omega
      · obtain rfl : k = L := by omega
        have he := fromAt_end a b ps
        rw [HL.out] at he
        have hmm := HM.out
        have ha2 := cuts_all a b ps
        rw [HL.out] at ha2
        rw [ha2] at hmm
        have HM2 := Lib.hid hmm
        clear hmm ha2
        rw [he]
        go_wp2
        go_ret2
        refine ⟨u6, ?_, ?_, grown_trans G1.out G.out⟩
        · simp [cutE, hm]
        · have e1 : cutL a b ps = cutsOf a b ps := by simp [cutL, hm]
          have e2 : (cutsOf a b ps).length = k := by rw [cuts_len, HL.out]
          rw [e1, e2]
          exact HM2.out.wide (by omega)

end Go.Proofs.Ythblaieneglddaa
