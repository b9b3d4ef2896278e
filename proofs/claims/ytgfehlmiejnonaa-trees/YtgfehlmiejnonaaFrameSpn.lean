/-
  Spans by value, read in.
-/
import Derived.Test.YtgfehlmiejnonaaFrameNest
set_option maxRecDepth 20000
namespace Go.Proofs.Ytgfehlmiejnonaa
open Go.ChangeShapes Go.WideShapes Go.ChangeAt Go.RowKit Go.Deep

theorem cellsSpn : Try.prog.cellsOf 27 = 2 := by kernel_rfl

theorem ints_span : IntsAt 27 2 := by
  refine ints_struct Try.underlying27 fun i hi => ?_
  rcases (show i = 0 ∨ i = 1 by omega) with rfl | rfl
  · exact ⟨0, _, rfl, by decide, by show 0 < 0 + Try.prog.cellsOf 3; rw [cellsInt]; decide, by show 0 + Try.prog.cellsOf 3 ≤ 2; rw [cellsInt]; decide, by show IntsAt 3 (Try.prog.cellsOf 3); rw [cellsInt]; exact ints_int⟩
  · exact ⟨1, _, rfl, by decide, by show 1 < 1 + Try.prog.cellsOf 3; rw [cellsInt]; decide, by show 1 + Try.prog.cellsOf 3 ≤ 2; rw [cellsInt]; decide, by show IntsAt 3 (Try.prog.cellsOf 3); rw [cellsInt]; exact ints_int⟩

theorem spn_in {H : Type} {enc : TypeId × Value → H} {W : World} {base : Nat} {r : Reach} {v : Value} {d : DataW H} {p : List MemPlace} (hv : Value.okWide Try.prog W r base 27 v)
    (h : DataW.Trod enc Try.prog W 0 (fun _ => true) true 27 v d p) : ∃ a b, v = .agg #[.int .i64 a, .int .i64 b] ∧ bd64 a ∧ bd64 b := by
  obtain ⟨cs, rfl, hsz⟩ := okWide_struct Try.underlying27 hv
  rw [cellsSpn] at hsz
  obtain ⟨fuel, hf⟩ := h
  obtain ⟨cs⟩ := cs
  obtain ⟨l, e, b⟩ := ints_span (by simpa using hsz) (show DataW.trod enc Try.prog W 0 (fun _ => true) true fuel 27 cs = some _ from hf)
  subst e
  match l, hsz, b with
  | [x, y], _, b => exact ⟨x, y, rfl, b x (by simp), b y (by simp)⟩

end Go.Proofs.Ytgfehlmiejnonaa
