/-
  strand's onward, walked.
-/
import Derived.Test.YtlpohlcmjnlbhaaMathWalk
import Derived.Test.YtlpohlcmjnlbhaaJG
set_option maxRecDepth 20000
namespace Go.Proofs.Ytlpohlcmjnlbhaa
open Go.RowKit

def SLPost (w : World) (L : List Lk) (r : List Int) (v : Int) (e : Ending) (w' : World) : Prop := ∃ l, LvIs1 L r v l ∧ Says w (.int .i64 l) e w'

def SLRel (w : World) (n : Nat) (L : List Lk) (f : List Int) (v : Int) (i : Value) (wr : World) : Prop :=
  ∃ k : Nat, k ≤ n ∧ i = .int .i64 (k : Nat) ∧ w.grownBy wr none ∧ ∀ j, j < k → (at3 L j).1 = v → ¬ 0 < nAt f j

set_option maxHeartbeats 2000000 in
theorem sonward_any (V : Int) (A : Option Addr) (n c : Nat) (L : List Lk) (Y : Option Addr) (e0 : Nat) (f : List Int) (v : Int) (w : World) {B B' : Nat} (h : Lks w B A n L) (hy : Row w B' Y n f) :
    Calls Try.prog 79 #[.agg #[.int .i64 V, .slice A n c], .slice Y n e0, .int .i64 v] w (SLPost w L f v) := by
  have hn := h.small
  have HL := Lib.hid h.len
  have HR := Lib.hid h
  have HY := Lib.hid hy
  have G0 := Lib.hid (grow0 w (.cells #[.int .i64 V, .slice A n c] 24))
  have OB0 := Lib.hid (Own.new w 24 [.int .i64 V, .slice A n c])
  clear h hy
  have HS : Hid (SLRel w n L f v (.int .i64 0) (w.alloc (.cells #[.int .i64 V, .slice A n c] 24))) := ⟨0, Nat.zero_le _, rfl, G0.out, fun j hj => by omega⟩
  go_enter Try.func79, Try.ntmps79
  go_upto_region 1 with fail
  generalize w.alloc (.cells #[.int .i64 V, .slice A n c] 24) = w0 at *
  obtain ⟨p0, p1⟩ := OB0.out.two
  go_wp2
  clear p0 p1 OB0 G0
  go_loopw [12] (fun i wr => SLRel w n L f v i wr) (fun i _ => n - (intOf i).toNat)
  case atStart => exact HS.out
  case round =>
    clear HS
    obtain ⟨k, hk, rfl, hg, hno⟩ := hrel
    have G := Lib.hid hg
    have HNO := Lib.hid hno
    clear hg hno
    by_cases hlt : k < n
    · obtain ⟨b2, off2, hA, hb2, hcell⟩ := HR.out.cells (by omega)
      subst hA
      obtain ⟨d0, d1, d2⟩ := hcell k hlt
      have d0 := kept G.out d0
      have d1 := kept G.out d1
      have d2 := kept G.out d2
      obtain ⟨bf, off, rfl, hbf, hcf⟩ := HY.out.at_ (by omega)
      have y0 := kept G.out (hcf k hlt)
      have HYES : Hid ((at3 L k).1 = v → 0 < f[k]?.getD 0 → LvIs1 L f v (k : Int)) := fun a b => .inl ⟨k, rfl, by rw [HL.out]; exact hlt, a, b⟩
      have HNX : Hid (((at3 L k).1 = v → ¬ 0 < f[k]?.getD 0) → ∀ j, j < k + 1 → (at3 L j).1 = v → ¬ 0 < nAt f j) := fun hk j hj => by
        by_cases e : j = k
        · subst e; exact hk
        · exact HNO.out j (by omega)
      clear hcell hcf HNO
      generalize f[k]?.getD 0 = fk at *
      generalize at3 L k = l at *
      obtain ⟨p, t, cp⟩ := l
      simp only at d0 d1 d2 HYES HNX
      by_cases hp : p = v
      · subst hp
        have q0 : (p == p) = true := by simp
        have y1 := kept (grow0 wr (.cells #[.int .i64 p, .int .i64 t, .int .i64 cp] 57)) y0
        clear y0
        by_cases hf : 0 < fk
        · have q1 : decide (0 < fk) = true := by simp [hf]
          have E := Lib.hid (HYES.out rfl hf)
          clear HYES HNX hf
          go_wp2
          go_ret
          exact ⟨(k : Int), E.out, rfl, grown_alloc G.out _⟩
        · have q1 : decide (0 < fk) = false := by simp; omega
          have E := Lib.hid (HNX.out fun _ => hf)
          clear HYES HNX hf
          go_wp2
          go_roundw
          case rel => exact ⟨k + 1, by omega, by go_num, grown_alloc G.out _, E.out⟩
          case measure => simp [intOf]; omega
      · have q0 : (p == v) = false := by simp [hp]
        have E := Lib.hid (HNX.out fun e => absurd e hp)
        clear HYES HNX hp
        go_wp2
        go_roundw
        case rel => exact ⟨k + 1, by omega, by go_num, grown_alloc G.out _, E.out⟩
        case measure => simp [intOf]; omega
    · obtain rfl : k = n := by omega
      have E : Hid (LvIs1 L f v (-1)) := .inr ⟨rfl, fun i hi => HNO.out i (by have := HL.out; omega)⟩
      go_wp2
      go_ret
      exact ⟨-1, E.out, rfl, G.out⟩

end Go.Proofs.Ytlpohlcmjnlbhaa
