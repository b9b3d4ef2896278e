/-
  Links that go to and fro. No program here, but the model's '&'.
-/
import Derived.Test.YtfldicenikkacaaPathG
namespace Go.Proofs.Ytfldicenikkacaa

def froL : List Lk := [(0, 1, 0), (1, 0, 0)]
def alt (k : Nat) : List Int := (List.range k).map fun i : Nat => ((i % 2 : Nat) : Int)

theorem alt_len (k : Nat) : (alt k).length = k := by simp [alt]
theorem alt_next (k : Nat) : alt (k + 1) = alt k ++ [((k % 2 : Nat) : Int)] := by simp [alt, List.range_succ]

theorem fro_one (k : Nat) : frm froL ((k % 2 : Nat) : Int) = ((k % 2 : Nat) : Int) ∧ tow froL ((k % 2 : Nat) : Int) = (((k + 1) % 2 : Nat) : Int) ∧ linkB 2 ((k % 2 : Nat) : Int) = true := by
  rcases Nat.mod_two_eq_zero_or_one k with h | h
  · have h1 : (k + 1) % 2 = 1 := by omega
    rw [h, h1]; decide
  · have h1 : (k + 1) % 2 = 0 := by omega
    rw [h, h1]; decide

theorem fro_chain : ∀ k : Nat, chain froL 0 (alt k) = true ∧ endOf froL 0 (alt k) = ((k % 2 : Nat) : Int) ∧ allL 2 (alt k) = true
  | 0 => by decide
  | k + 1 => by
    obtain ⟨a, b, c⟩ := fro_chain k
    obtain ⟨d, e, f⟩ := fro_one k
    rw [alt_next, chain_app, end_app, a, b]
    generalize ((k % 2 : Nat) : Int) = x at *
    refine ⟨by simp [chain, d], by simp only [endOf]; exact e, ?_⟩
    rw [allL, List.all_append, ← allL, c]
    simp [f]

theorem fro_sim : ∀ k : Nat, simK froL 0 (alt k) = if k % 2 = 0 then [] else [0]
  | 0 => by decide
  | k + 1 => by
    rw [alt_next, simK, List.foldl_append, ← simK, fro_sim k]
    rcases Nat.mod_two_eq_zero_or_one k with h | h
    · rw [if_pos h, if_neg (by omega), h]; decide
    · rw [if_neg (by omega), if_pos (by omega), h]; decide

theorem fro_may : mayG 2 froL = true := by decide

theorem fro_goes {k : Nat} (h : k ≤ 64) : goesW 2 froL 0 (alt k) = true := goes_mk fro_may (by omega) (by rw [alt_len]; exact h) (fro_chain k).2.2 (fro_chain k).1

theorem fro_long {k : Nat} (h : ¬ k ≤ 64) : formW 2 froL 0 (alt k) = false := by simp [formW, alt_len, h]

theorem fro_sim_len (k : Nat) : (simK froL 0 (alt k)).length = k % 2 := by
  rw [fro_sim]
  rcases Nat.mod_two_eq_zero_or_one k with h | h
  · simp [h]
  · simp [h]

theorem and_127 (x : Int) : ∃ k : Nat, k ≤ 127 ∧ bits .and .i64 x 127 = (k : Int) := by
  refine ⟨(BitVec.ofInt 64 x &&& BitVec.ofInt 64 127).toNat, ?_, ?_⟩
  · rw [BitVec.toNat_and]
    exact Nat.and_le_right
  · show IntKind.i64.wrap ((BitVec.ofInt 64 x &&& BitVec.ofInt 64 127).toNat : Int) = _
    have : (BitVec.ofInt 64 x &&& BitVec.ofInt 64 127).toNat ≤ 127 := by
      rw [BitVec.toNat_and]
      exact Nat.and_le_right
    exact IntWalk.i64_in _ (by omega)

theorem and_1 {k : Nat} (h : k ≤ 127) : bits .and .i64 (k : Int) 1 = ((k % 2 : Nat) : Int) := by
  show IntKind.i64.wrap ((BitVec.ofInt 64 (k : Int) &&& BitVec.ofInt 64 1).toNat : Int) = _
  have h1 : (BitVec.ofInt 64 (k : Int)).toNat = k := by
    rw [BitVec.ofInt_natCast, BitVec.toNat_ofNat]; exact Nat.mod_eq_of_lt (by omega)
  have h2 : (BitVec.ofInt 64 1).toNat = 1 := by decide
  rw [BitVec.toNat_and, h1, h2, Nat.and_one_is_mod]
  exact IntWalk.i64_in _ (by omega)

end Go.Proofs.Ytfldicenikkacaa
