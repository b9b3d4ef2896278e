/-
  Rows of bytes of the call's own: a byte appended (also where the row is longer than 2^47 bytes), the row read as a text. No condition.
-/
import Derived.Test.YtaiiakgghelajaaGrow
import Derived.Laws.IdiomStrings
namespace Go.Proofs.Ytaiiakgghelajaa
open Go.RowKit

def byteE : Elt UInt8 where
  z := 0
  enc b := [.int .u8 (b.toNat : Int)]
  T := 5
  L := 43
  size := 1
  bytes := 1
  len _ := rfl
  one b u hu := by
    simp only [List.mem_singleton] at hu
    subst hu
    rfl
  pos := by decide
  und := Try.underlying43
  info := by kernel_rfl

theorem byte_flat (l : List UInt8) : byteE.flat l = l.map fun b => Value.int .u8 (b.toNat : Int) := by
  induction l with
  | nil => rfl
  | cons b l ih =>
    have h : byteE.flat (b :: l) = byteE.enc b ++ byteE.flat l := List.flatMap_cons
    rw [h, ih]
    rfl

theorem next_small (n : Nat) (h : n + 1 ≤ 200000000000000) : Builtin.nextslicecap (n + 1) n ≤ 281474976710656 := by
  unfold Builtin.nextslicecap
  split
  · omega
  · split
    · omega
    · rw [growBy_four]
      repeat' split
      all_goals omega

theorem run_appB (w : World) (base ty : Nat) (v : Value) (n : Nat) (ys : List UInt8) (hown : MineE byteE w base v n ys) (g0 : Nat) (b : UInt8) (c : Nat)
    (hb : w.cell? ⟨g0, 0, none⟩ = some (.int .u8 (b.toNat : Int))) (hn : n + 1 ≤ 200000000000000) (hbase : base ≤ w.heap.size) :
    ∃ v' w', (Builtin.append_ #[43, 43] ty #[v, .slice (some ⟨g0, 0, none⟩) 1 c]).run Try.prog w = .ok v' w' ∧ MineE byteE w' base v' (n + 1) (ys ++ [b]) ∧ w.grownBy w' v.ownBlock ∧ (v'.ownBlock = v.ownBlock ∨ v'.ownBlock = some w.heap.size) := by
  by_cases hs : n + 1 ≤ 140737488355328
  · exact run_appE byteE w base ty v n ys hown (B := w.heap.size) (some ⟨g0, 0, none⟩) 1 c [b]
      ⟨rfl, by omega, fun _ => ⟨g0, 0, rfl, block_lt hb, fun i hi j u hu => by
        obtain rfl : i = 0 := by omega
        cases j with
        | zero =>
          have : u = .int .u8 (b.toNat : Int) := by simpa [byteE] using hu.symm
          subst this
          exact hb
        | succ j => simp [byteE] at hu⟩⟩ (by simp) (by unfold maxLen; omega) (by show (n + 1) * 1 ≤ _; omega) hbase
  · obtain ⟨i0, z0, hi, hz0, hz1, hz2, hz3⟩ := byteE.info'
    have hi : Try.prog.info? 5 = some i0 := hi
    have hz1 : i0.size = 1 := hz1
    have hz2 : i0.bytes = 1 := hz2
    have hz3 : z0.cells.size = 1 := hz3
    have hnews : ∀ j u, [Value.int .u8 (b.toNat : Int)][j]? = some u → w.cell? ((⟨g0, 0, none⟩ : Addr).add j) = some u := by
      intro j u hu
      cases j with
      | zero =>
        have : u = .int .u8 (b.toNat : Int) := by simpa using hu.symm
        subst this
        exact hb
      | succ j => simp at hu
    have hf : byteE.flat (ys ++ [b]) = byteE.flat ys ++ [Value.int .u8 (b.toNat : Int)] := by rw [byteE.flat_app]; rfl
    have hlen := hown.1
    have hlen : (byteE.flat ys).length = n * 1 := hlen
    rcases hown.2 with ⟨rfl, rfl⟩ | ⟨g, cap, cur, rfl, hbg, hg, hnc, hcm, hcs, htk⟩
    · omega
    · have hg : w.heap[g]? = some (.cells cur 5 (0, 0)) := hg
      have hcs : cur.size = cap * 1 := hcs
      have htk : cur.toList.take (n * 1) = byteE.flat ys := htk
      by_cases hroom : n + 1 ≤ cap
      · have hr := run_append_room (P := Try.prog) w 43 ty 5 i0 Try.underlying43 hi g n cap cur hg ⟨g0, 0, none⟩ 1 c [Value.int .u8 (b.toNat : Int)] (by rw [hz1]; rfl) hnews
          (by intro u hu; simp only [List.mem_singleton] at hu; subst hu; rfl) hroom (by rw [hz1, hcs]; simp; omega)
        refine ⟨_, _, hr, ⟨?_, .inr ⟨g, cap, _, rfl, hbg, setRow_heap w g cur _ _ _ hg, hroom, hcm, ?_, ?_⟩⟩, ⟨rfl, rfl, rfl, by simp, fun k _ hk => setRow_other w g k _ (fun e => hk (by simp [Value.ownBlock, e]))⟩, Or.inl rfl⟩
        · rw [byteE.flat_len]
          have := hown.length
          show (ys ++ [b]).length * 1 = (n + 1) * 1
          simp; omega
        · show _ = cap * 1
          rw [hz1]
          simp
          omega
        · rw [hz1, htk, hf]
          show List.take ((n + 1) * 1) _ = _
          have e : (n + 1) * 1 = (byteE.flat ys ++ [Value.int .u8 (b.toNat : Int)]).length := by simp [hlen]
          rw [e]
          exact List.take_left
      · obtain rfl : n = cap := by omega
        have holds : ∀ j u, (byteE.flat ys)[j]? = some u → w.cell? ((⟨g, 0, none⟩ : Addr).add j) = some u := hown.cells (g := g) rfl
        have hr := run_append_grow (P := Try.prog) w 43 ty 5 i0 z0 Try.underlying43 hi hz0 ⟨g, 0, none⟩ n n (byteE.flat ys) (by rw [hz1]; exact hlen) holds ⟨g0, 0, none⟩ 1 c [Value.int .u8 (b.toNat : Int)]
          (by rw [hz1]; rfl) hnews (by omega) (by omega) (by rw [hz2, Nat.mul_one]; exact next_small n hn)
        refine ⟨_, _, hr, ⟨?_, .inr ⟨w.heap.size, _, _, rfl, hbase, heap_alloc_new w.drew _, grownCap_ge w (n + 1) n _, grownCap_le_maxLen w (n + 1) n _ (by unfold maxLen; omega), ?_, ?_⟩⟩,
          ⟨rfl, rfl, rfl, by simp, fun k hk _ => Below.heap_alloc w.drew _ k hk⟩, Or.inr rfl⟩
        · rw [byteE.flat_len]
          have := hown.length
          show (ys ++ [b]).length * 1 = (n + 1) * 1
          simp; omega
        · have hge := grownCap_ge w (n + 1) n 5
          show _ = _ * 1
          simp only [Array.size_append, List.size_toArray, size_zeroCells, hz3, hlen, List.length_singleton]
          omega
        · simp only [Array.toList_append, List.append_assoc]
          rw [hf, ← List.append_assoc]
          show List.take ((n + 1) * 1) _ = _
          have e : (n + 1) * 1 = (byteE.flat ys ++ [Value.int .u8 (b.toNat : Int)]).length := by simp [hlen]
          rw [e]
          exact List.take_left

theorem wpList_appB {ops : Array Oper} {rest : List Oper} {o : Oper} {a : Act} {Q : Exit → Act → World → Prop} (w : World) (hgd : o.guard = none) (s x : Operand)
    (ho : o.op = .call { callee := .builtin .append, args := #[s, x], argTypes := #[43, 43] }) (base : Nat) (v : Value) (n : Nat) (ys : List UInt8) (hs : a.eval s = v) (hown : MineE byteE w base v n ys)
    (g0 c : Nat) (b : UInt8) (hx : a.eval x = .slice (some ⟨g0, 0, none⟩) 1 c) (hb : w.cell? ⟨g0, 0, none⟩ = some (.int .u8 (b.toNat : Int))) (hn : n + 1 ≤ 200000000000000) (hbase : base ≤ w.heap.size)
    (h : ∀ v' w', MineE byteE w' base v' (n + 1) (ys ++ [b]) → w.grownBy w' v.ownBlock → (v'.ownBlock = v.ownBlock ∨ v'.ownBlock = some w.heap.size) → wpList Try.prog ops Q rest (a.put o.dst v') w') : wpList Try.prog ops Q (o :: rest) a w := by
  refine wpList_plain hgd fun K hK => ?_
  obtain ⟨v', w', hrun, h2, h3, h4⟩ := run_appB w base o.type v n ys hown g0 b c hb hn hbase
  unfold Oper.wp execOp
  simp only [ho, resolve, invoke, builtin, Sem.run_bind, Sem.run_pure, Result.andThen_ok, List.map_toArray, List.map_cons, List.map_nil, hs, hx, hrun]
  exact hK _ _ (h v' w' h2 h3 h4)

/-- A row of bytes, as a text. -/
theorem run_text (w : World) (base : Nat) (v : Value) (n : Nat) (l : List UInt8) (h : MineE byteE w base v n l) : (convert 43 9 v).run Try.prog w = .ok (.string ⟨l.toArray⟩) w := by
  have hl := h.length
  rcases h.2 with ⟨rfl, rfl⟩ | ⟨g, cap, cur, rfl, hbg, hg, hnc, hcm, hcs, htk⟩
  · have : l = [] := List.eq_nil_of_length_eq_zero hl
    subst this
    rw [run_convert_bytes_string w 43 9 5 none 0 0 Try.underlying43 Try.underlying5 Try.underlying9]
    rfl
  · have hown : w.ownsRow base 5 1 (.slice (some ⟨g, 0, none⟩) n cap) n (byteE.flat l) := h
    subst hl
    refine run_convert_bytes_back w 43 9 5 ⟨g, 0, none⟩ cap l Try.underlying43 Try.underlying5 Try.underlying9 fun j hj => ?_
    refine hown.cells (g := g) rfl j _ ?_
    rw [byte_flat]
    simp [hj]

/-- One byte in a new block, as a text. -/
theorem run_text1 (w : World) (g c : Nat) (b : UInt8) (hb : w.cell? ⟨g, 0, none⟩ = some (.int .u8 (b.toNat : Int))) : (convert 43 9 (.slice (some ⟨g, 0, none⟩) 1 c)).run Try.prog w = .ok (.string ⟨#[b]⟩) w :=
  run_convert_bytes_back w 43 9 5 ⟨g, 0, none⟩ c [b] Try.underlying43 Try.underlying5 Try.underlying9 fun j hj => by
    obtain rfl : j = 0 := by simpa using hj
    exact hb

end Go.Proofs.Ytaiiakgghelajaa
