/-
  What the bound of a second form gives: a slice's length is at most its bulk.
-/
import Derived.Test.YtaiiakgghelajaaFrame
import Derived.Deep.Slices
namespace Go.Proofs.Ytaiiakgghelajaa
open Go.ChangeShapes Go.WideShapes Go.ChangeAt Go.RowKit Go.Deep

theorem bulk_pos {H : Type} (d : DataW H) : 1 ≤ Rows.uptoBulk d := by
  cases d with
  | lit l => cases l <;> simp [Rows.uptoBulk]
  | _ => simp [Rows.uptoBulk]

theorem bulk_length {H : Type} : ∀ l : List (DataW H), l.length ≤ Rows.uptoBulkAll l
  | [] => by simp [Rows.uptoBulkAll]
  | x :: r => by
    have h1 := bulk_pos x
    have h2 := bulk_length r
    simp only [Rows.uptoBulkAll, List.length_cons]
    omega

theorem bulk_slice {H : Type} {enc : TypeId × Value → H} {W : World} {A : Option Addr} {n c : Nat} {T e : TypeId} {d : DataW H} {p : List MemPlace} (ht : Try.prog.underlying T = some (.slice e))
    (h : DataW.Trod enc Try.prog W 0 (fun _ => true) true T (.slice A n c) d p) : n ≤ Rows.uptoBulk d ∧ c ≤ Rows.uptoBulk d := by
  obtain ⟨fuel, hf⟩ := h
  rcases open_slice ht hf with ⟨hcs, _⟩ | ⟨a, len, cap, m, k, D, Pl, hcs, _, hl, hm, hmm, hx, _⟩
  · simp [Value.cells] at hcs
    obtain ⟨rfl, rfl, rfl⟩ := hcs
    exact ⟨Nat.zero_le _, Nat.zero_le _⟩
  · simp [Value.cells] at hcs
    obtain ⟨rfl, rfl, rfl⟩ := hcs
    have hmc : m = c := by simpa using hmm
    simp only [Prod.mk.injEq] at hx
    obtain ⟨rfl, _⟩ := hx
    have h1 := bulk_length ((List.range n).map D)
    have h2 := bulk_length ((List.range (m - n)).map fun j => D (n + j))
    simp only [List.length_map, List.length_range] at h1 h2
    simp only [Rows.uptoBulk]
    omega

theorem bulk_string {H : Type} (s : ByteArray) : Rows.uptoBulk (H := H) (.lit (.string s.data.toList)) = s.size + 1 := rfl

end Go.Proofs.Ytaiiakgghelajaa
