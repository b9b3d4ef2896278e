/-
  A tree in memory of its own; a place for an item. A tree copied. Whether an item is in a tree.
-/
import Derived.Test.YtgfehlmiejnonaaJE
import Derived.Test.YtgfehlmiejnonaaJD
import Derived.Lib.SliceRun

set_option maxRecDepth 20000
namespace Go.Proofs.Ytgfehlmiejnonaa
open Go.RowKit

theorem step_appF {α : Type} (E : Elt α) {ops : Array Oper} {o : Oper} {a : Act} {w : World} {K : Act → World → Prop} {Q : Exit → Act → World → Prop} {F : Prop} (hgd : o.guard = none) (s x : Operand)
    (ho : o.op = .call { callee := .builtin .append, args := #[s, x], argTypes := #[E.L, E.L] }) (base : Nat) (v : Value) (n : Nat) (ys : List α) (hs : a.eval s = v) (hown : MineE E w base v n ys)
    {B : Nat} (A : Option Addr) (m c : Nat) (xs : List α) (hx : a.eval x = .slice A m c) (hr : Elts E w B A m xs) (hnil : A = none → c = 0) (hmax : n + m ≤ maxLen) (hbytes : (n + m) * E.bytes ≤ 140737488355328) (hbase : base ≤ w.heap.size)
    (h : ∀ v' w', MineE E w' base v' (n + m) (ys ++ xs) → w.grownBy w' v.ownBlock → (v'.ownBlock = v.ownBlock ∨ v'.ownBlock = some w.heap.size) → K (a.put o.dst v') w') :
    if Region.wanted o (yielded ops a.tmps) = true then Oper.wp Try.prog o a w K Q else F := by
  have hw : Region.wanted o (yielded ops a.tmps) = true := by simp [Region.wanted, hgd]
  rw [if_pos hw]
  obtain ⟨v', w', hrun, h2, h3, h4⟩ := run_appE E w base o.type v n ys hown A m c xs hr hnil hmax hbytes hbase
  unfold Oper.wp execOp
  simp only [ho, resolve, invoke, builtin, Sem.run_bind, Sem.run_pure, Result.andThen_ok, List.map_toArray, List.map_cons, List.map_nil, hs, hx, hrun]
  exact h v' w' h2 h3 h4

def leafN (x : It) : Nd := (x, -1, -1, 1, x.2.1)

/-- A tree in memory of its own. -/
structure Cpd (w : World) (base q : Nat) (nv : Value) (n : Nat) (ns : List Nd) (r : Int) (fv : Value) (fn : Nat) (free : List Int) : Prop where
  oq : Own w q 72 [nv, .int .i64 r, fv]
  mn : MineE nodeE w base nv n ns
  mf : Mine w base fv fn free
  n1 : ∀ k, nv.ownBlock = some k → k ≠ q
  n2 : ∀ k, fv.ownBlock = some k → k ≠ q ∧ nv.ownBlock ≠ some k
  hq : base ≤ q

theorem Cpd.grown {w w' : World} {base q : Nat} {nv : Value} {n : Nat} {ns : List Nd} {r : Int} {fv : Value} {fn : Nat} {free : List Int} (h : Cpd w base q nv n ns r fv fn free) (k : w.grownBy w' none) : Cpd w' base q nv n ns r fv fn free :=
  ⟨h.oq.kept k, h.mn.kept k, h.mf.kept k, h.n1, h.n2, h.hq⟩

def Placed (ns : List Nd) (free : List Int) (x : It) (a : Nat) (ns' : List Nd) (free' : List Int) : Prop :=
  (free = [] ∧ a = ns.length ∧ ns' = ns ++ [leafN x] ∧ free' = []) ∨ (free = free' ++ [(a : Int)] ∧ a < ns.length ∧ ns' = ns.set a (leafN x))

def PlacePost (w : World) (base q : Nat) (ns : List Nd) (r : Int) (free : List Int) (x : It) (e : Ending) (w' : World) : Prop :=
  ∃ a ns' g n' c' FA fn fc free', e = .returned (.int .i64 ((a : Nat) : Int)) ∧ Shf w' base q g n' c' ns' r FA fn fc free' ∧ Placed ns free x a ns' free' ∧ Kpt w w' (fun i => base ≤ i)

set_option maxHeartbeats 4000000 in
theorem Place_any (base q : Nat) (nv : Value) (n : Nat) (ns : List Nd) (r : Int) (fv : Value) (fn : Nat) (free : List Int) (x0 x1 x2 : Int) (w : World) (h : Cpd w base q nv n ns r fv fn free) (h32 : n ≤ 1000) (hfn : fn ≤ 1000) (hfr : ∀ k ∈ free, 0 ≤ k ∧ k < n) (hb : base ≤ w.heap.size) :
    Calls Try.prog 50 #[.pointer (some ⟨q, 0, none⟩), .agg #[.int .i64 x0, .int .i64 x1, .int .i64 x2]] w (PlacePost w base q ns r free (x0, x1, x2)) := by
  have hok : okI free := fun i => by
    by_cases hi : i < free.length
    · have := hfr (free[i]?.getD 0) (by rw [List.getElem?_eq_getElem hi]; exact List.getElem_mem hi)
      omega
    · rw [List.getElem?_eq_none (by omega)]
      decide
  have hlen := h.mn.length
  have HFR := Lib.hid hfr
  have HOK := Lib.hid hok
  have G0 := Lib.hid (grow0 w (.cells #[.int .i64 x0, .int .i64 x1, .int .i64 x2] 50))
  have O0 := Lib.hid (Own.new w 50 [.int .i64 x0, .int .i64 x1, .int .i64 x2])
  have C1 := Lib.hid (h.grown G0.out)
  clear h hfr hok
  go_enter Try.func50, Try.ntmps50
  go_upto_region 1 with fail
  have hs1 := G0.out.size
  have hs2 : w.heap.size < (w.alloc (.cells #[.int .i64 x0, .int .i64 x1, .int .i64 x2] 50)).heap.size := O0.out.lt
  generalize w.alloc (.cells #[.int .i64 x0, .int .i64 x1, .int .i64 x2] 50) = w1 at *
  obtain ⟨b0, b1, b2⟩ := O0.out.three
  go_upto_region 2 with fail
  have G2 := Lib.hid (grown_trans G0.out (grow0 w1 (.cells #[.int .i64 x0, .int .i64 x1, .int .i64 x2, .int .i64 (-1), .int .i64 (-1), .int .i64 1, .int .i64 x1] 64)))
  have O2 := Lib.hid (Own.new w1 64 [.int .i64 x0, .int .i64 x1, .int .i64 x2, .int .i64 (-1), .int .i64 (-1), .int .i64 1, .int .i64 x1])
  have C2 := Lib.hid (C1.out.grown (grow0 w1 (.cells #[.int .i64 x0, .int .i64 x1, .int .i64 x2, .int .i64 (-1), .int .i64 (-1), .int .i64 1, .int .i64 x1] 64)))
  have hq1 : q ≠ w1.heap.size := by have := C1.out.oq.lt; omega
  clear b0 b1 b2 O0 C1 G0
  generalize hnb : w1.heap.size = nb at *
  generalize w1.alloc (.cells #[.int .i64 x0, .int .i64 x1, .int .i64 x2, .int .i64 (-1), .int .i64 (-1), .int .i64 1, .int .i64 x1] 64) = w2 at *
  have hs3 := G2.out.size
  obtain ⟨A, c, rfl, hnc, hnil, hrow⟩ := C2.out.mn.row
  obtain ⟨FA, fc, rfl, hfc, hfnil, hfrow⟩ := C2.out.mf.rowN HOK.out
  obtain ⟨c0, c1, c2⟩ := C2.out.oq.three
  have HF := Lib.hid hfrow
  clear hrow hfrow hnil hfnil
  by_cases h0 : fn = 0
  · subst h0
    have MG := Lib.hid (C2.out.mn.kept (grow0 w2 (.cells #[.int .i64 x0, .int .i64 x1, .int .i64 x2, .int .i64 (-1), .int .i64 (-1), .int .i64 1, .int .i64 x1] 64)))
    have LIT : Hid (Elts nodeE (w2.alloc (.cells #[.int .i64 x0, .int .i64 x1, .int .i64 x2, .int .i64 (-1), .int .i64 (-1), .int .i64 1, .int .i64 x1] 64)) (w2.heap.size + 1) (some ⟨w2.heap.size, 0, none⟩) 1 [leafN (x0, x1, x2)]) := Elts.lit (E := nodeE) (n := 1) [leafN (x0, x1, x2)] rfl rfl rfl (by simp)
    have OG := Lib.hid (C2.out.oq.kept (grow0 w2 (.cells #[.int .i64 x0, .int .i64 x1, .int .i64 x2, .int .i64 (-1), .int .i64 (-1), .int .i64 1, .int .i64 x1] 64)))
    have FG := Lib.hid (C2.out.mf.kept (grow0 w2 (.cells #[.int .i64 x0, .int .i64 x1, .int .i64 x2, .int .i64 (-1), .int .i64 (-1), .int .i64 1, .int .i64 x1] 64)))
    have q0 := OG.out.three.1
    obtain ⟨d0, d1, d2, d3, d4, d5, d6⟩ := O2.out.seven
    go_upto_region 4 with fail
    go_region_law (first
      | (refine step_appF nodeE rfl _ _ rfl base _ n ns rfl (by first | exact MG.out | exact MG.out.kept (grown_drew (World.grownBy.refl _ none))) (B := w2.heap.size + 1) (some ⟨w2.heap.size, 0, none⟩) 1 1 [leafN (x0, x1, x2)] rfl (by first | exact LIT.out | exact LIT.out.drewN 1) (by simp) (by unfold maxLen; omega) (by show (n + 1) * 56 ≤ _; omega) (by simp; omega) ?_; intro v3 w3 m3 g3 n3; obtain ⟨g, c3, rfl, hc3, hbg, _⟩ := m3.shape (by omega); have M3 := Lib.hid m3; have G3 : Hid ((w2.alloc (.cells #[.int .i64 x0, .int .i64 x1, .int .i64 x2, .int .i64 (-1), .int .i64 (-1), .int .i64 1, .int .i64 x1] 64)).grownBy w3 ((Value.slice A n c).ownBlock)) := (by first | exact g3 | exact grown_undrew g3); have N3 := Lib.hid n3; have O3 := Lib.hid (OG.out.kept' G3.out (fun e => C2.out.n1 _ e rfl)); have r0 := O3.out.three.1; have f0 := O3.out.frozen 0; clear m3 g3 n3))
    all_goals
      have hsz : (w2.alloc (.cells #[.int .i64 x0, .int .i64 x1, .int .i64 x2, .int .i64 (-1), .int .i64 (-1), .int .i64 1, .int .i64 x1] 64)).heap.size = w2.heap.size + 1 := by simp
      have hge := G3.out.size
      have F3 : Mine w3 base (.slice FA 0 fc) 0 free := FG.out.kept' G3.out (fun j hj e => (C2.out.n2 j hj).2 e)
      have hgq : g ≠ q ∧ (∀ j, (Value.slice FA 0 fc).ownBlock = some j → g ≠ j) := by
        have hn : (Value.slice (some ⟨g, 0, none⟩) (n + 1) c3).ownBlock = some g := rfl
        rcases N3.out with e | e
        · rw [hn] at e
          have e : (Value.slice A n c).ownBlock = some g := e.symm
          exact ⟨C2.out.n1 g e, fun j hj hgj => (C2.out.n2 j hj).2 (e.trans (congrArg some hgj))⟩
        · rw [hn] at e
          injection e with e
          have e : g = w2.heap.size + 1 := by rw [e]; simp
          have := C2.out.oq.lt
          have hml := C2.out.mf.own_lt
          exact ⟨by omega, fun j hj => by have := hml j hj; omega⟩
      have gq : w3.grownBy (w3.setCell ⟨q, 0, none⟩ (.slice (some ⟨g, 0, none⟩) (n + 1) c3)) (some q) := grown_set (World.grownBy.refl w3 _) _
      have SF : Hid (Shf (w3.setCell ⟨q, 0, none⟩ (.slice (some ⟨g, 0, none⟩) (n + 1) c3)) base q g (n + 1) c3 (ns ++ [leafN (x0, x1, x2)]) r FA 0 fc free) :=
        ⟨⟨O3.out.put (i := 0) _, M3.out.kept' gq (fun j hj e => by
          injection e with e
          have hj : g = j := by simpa [Value.ownBlock] using hj
          exact hgq.1 (hj.trans e.symm)), fun e => hgq.1 e.symm⟩, F3.kept' gq (fun j hj e => by injection e with e; exact (C2.out.n2 j hj).1 e.symm), fun j hj => ⟨(C2.out.n2 j hj).1, fun e => hgq.2 j hj e.symm⟩⟩
      have KK : Hid (Kpt w (w3.setCell ⟨q, 0, none⟩ (.slice (some ⟨g, 0, none⟩) (n + 1) c3)) (fun i => base ≤ i)) := by
        refine (((Kpt.of G2.out (fun i => base ≤ i)).alloc (.cells #[.int .i64 x0, .int .i64 x1, .int .i64 x2, .int .i64 (-1), .int .i64 (-1), .int .i64 1, .int .i64 x1] 64)).trans' (T := fun i => (Value.slice A n c).ownBlock = some i) ⟨G3.out.os, G3.out.tape, G3.out.output, G3.out.size, fun i hi hn => G3.out.block i hi (fun e => hn e.symm)⟩ (fun i _ e => C2.out.mn.own_ge i e)).set C2.out.hq _
      have HF0 : Hid (free = []) := List.eq_nil_of_length_eq_zero C2.out.mf.len
      clear r0 f0 c0 c1 c2 q0 d0 d1 d2 d3 d4 d5 d6 F3 hgq gq O3 M3 N3 G3 MG LIT OG FG
      generalize w3.setCell ⟨q, 0, none⟩ (.slice (some ⟨g, 0, none⟩) (n + 1) c3) = w4 at *
      obtain ⟨c0, c1, c2⟩ := SF.out.sh.oq.three
      go_wp2
      go_ret
      exact ⟨n, _, g, n + 1, c3, FA, 0, fc, free, ret_int (by omega), SF.out, .inl ⟨HF0.out, hlen.symm, rfl, HF0.out⟩, KK.out⟩
  · obtain ⟨m, rfl⟩ : ∃ m, fn = m + 1 := ⟨fn - 1, by omega⟩
    obtain ⟨bf, off, rfl, hbf, hcell⟩ := HF.out.at_ (by omega)
    have fm := hcell m (by omega)
    obtain ⟨a, ha⟩ : ∃ a, free[m]?.getD 0 = a := ⟨_, rfl⟩
    rw [ha] at fm
    have hfl := C2.out.mf.len
    have hsp : Hid (free = free.take m ++ [a]) := by
      rw [Hid]
      have h1 : free.drop m = [a] := by
        rw [List.drop_eq_getElem_cons (by omega), List.drop_eq_nil_of_le (by omega), ← ha, List.getElem?_eq_getElem (by omega)]
        rfl
      have h2 := List.take_append_drop m free
      rw [h1] at h2
      exact h2.symm
    have har := HFR.out a (by rw [hsp.out]; simp)
    obtain ⟨k, rfl⟩ : ∃ k : Nat, a = (k : Nat) := ⟨a.toNat, by omega⟩
    have hk : k < n := by omega
    clear hcell ha har
    have f2 := C2.out.oq.frozen 2
    obtain ⟨g, c', e, _, hbg, _⟩ := C2.out.mn.shape (by omega)
    injection e with e1 e2 e3
    subst e1 e3
    go_upto_region 8 with fail
    clear c0 c1 c2 fm f2
    have gq : w2.grownBy (w2.setCell ⟨q, 2, none⟩ (.slice (some ⟨bf, off, none⟩) m fc)) (some q) := grown_set (World.grownBy.refl w2 _) _
    have S5 : Hid (Shf (w2.setCell ⟨q, 2, none⟩ (.slice (some ⟨bf, off, none⟩) m fc)) base q g n c ns r (some ⟨bf, off, none⟩) m fc (free.take m)) :=
      ⟨⟨C2.out.oq.put (i := 2) _, C2.out.mn.kept' gq (fun j hj e => by injection e with e; exact C2.out.n1 j hj e.symm), fun e => C2.out.n1 g rfl e.symm⟩, (C2.out.mf.take (by omega)).kept' gq (fun j hj e => by injection e with e; exact (C2.out.n2 j hj).1 e.symm), fun j hj => ⟨(C2.out.n2 j hj).1, fun e => (C2.out.n2 j hj).2 (by rw [e]; rfl)⟩⟩
    have O5 : Hid (Own (w2.setCell ⟨q, 2, none⟩ (.slice (some ⟨bf, off, none⟩) m fc)) nb 64 [.int .i64 x0, .int .i64 x1, .int .i64 x2, .int .i64 (-1), .int .i64 (-1), .int .i64 1, .int .i64 x1]) := O2.out.setOther hq1 _
    have K5 : Hid (Kpt w (w2.setCell ⟨q, 2, none⟩ (.slice (some ⟨bf, off, none⟩) m fc)) (fun i => base ≤ i)) := (Kpt.of G2.out (fun i => base ≤ i)).set C2.out.hq _
    clear gq
    generalize w2.setCell ⟨q, 2, none⟩ (.slice (some ⟨bf, off, none⟩) m fc) = w5 at *
    obtain ⟨c0, c1, c2⟩ := S5.out.sh.oq.three
    obtain ⟨n0, n1, n2, n3, n4, n5, n6⟩ := O5.out.seven
    obtain ⟨d0, d1, d2, d3, d4, d5, d6⟩ := S5.out.sh.cells hk
    have f0 := S5.out.sh.frozen (k * 7)
    have f1 := S5.out.sh.frozen (k * 7 + 1)
    have f2 := S5.out.sh.frozen (k * 7 + 2)
    have f3 := S5.out.sh.frozen (k * 7 + 3)
    have f4 := S5.out.sh.frozen (k * 7 + 4)
    have f5 := S5.out.sh.frozen (k * 7 + 5)
    have f6 := S5.out.sh.frozen (k * 7 + 6)
    go_region
    clear c0 c1 c2 n0 n1 n2 n3 n4 n5 n6 d0 d1 d2 d3 d4 d5 d6 f0 f1 f2 f3 f4 f5 f6
    have K6 : Hid (Kpt w (((((((w5.setCell ⟨g, k * 7, none⟩ (.int .i64 x0)).setCell ⟨g, k * 7 + 1, none⟩ (.int .i64 x1)).setCell ⟨g, k * 7 + 2, none⟩ (.int .i64 x2)).setCell ⟨g, k * 7 + 3, none⟩ (.int .i64 (-1))).setCell ⟨g, k * 7 + 4, none⟩ (.int .i64 (-1))).setCell ⟨g, k * 7 + 5, none⟩ (.int .i64 1)).setCell ⟨g, k * 7 + 6, none⟩ (.int .i64 x1)).drew (fun i => base ≤ i)) := (node_kpt (S := fun i => base ≤ i) K5.out hbg (k * 7) _ _ _ _ _ _ _).drew
    have S6 : Hid (Shf (((((((w5.setCell ⟨g, k * 7, none⟩ (.int .i64 x0)).setCell ⟨g, k * 7 + 1, none⟩ (.int .i64 x1)).setCell ⟨g, k * 7 + 2, none⟩ (.int .i64 x2)).setCell ⟨g, k * 7 + 3, none⟩ (.int .i64 (-1))).setCell ⟨g, k * 7 + 4, none⟩ (.int .i64 (-1))).setCell ⟨g, k * 7 + 5, none⟩ (.int .i64 1)).setCell ⟨g, k * 7 + 6, none⟩ (.int .i64 x1)).drew base q g n c (ns.set k (leafN (x0, x1, x2))) r (some ⟨bf, off, none⟩) m fc (free.take m)) := (S5.out.keep (S5.out.sh.node hk x0 x1 x2 (-1) (-1) 1 x1) (node_kpt (Kpt.refl w5 (onG g)) rfl (k * 7) _ _ _ _ _ _ _)).grown (grown_drew (World.grownBy.refl _ none))
    go_wp2
    go_ret
    exact ⟨k, _, g, n, c, _, m, fc, _, rfl, S6.out, .inr ⟨hsp.out, by omega, rfl⟩, K6.out⟩

end Go.Proofs.Ytgfehlmiejnonaa

set_option maxRecDepth 20000
namespace Go.Proofs.Ytgfehlmiejnonaa
open Go.RowKit

def CloneIPost (w : World) (n : Nat) (xs : List Int) (e : Ending) (w' : World) : Prop := ∃ v, e = .returned v ∧ Mine w' w.heap.size v n xs ∧ w.grownBy w' none
def CloneNPost (w : World) (n : Nat) (xs : List Nd) (e : Ending) (w' : World) : Prop := ∃ v, e = .returned v ∧ MineE nodeE w' w.heap.size v n xs ∧ w.grownBy w' none

set_option maxRecDepth 20000 in
theorem CloneI_any (A : Option Addr) (n c : Nat) (xs : List Int) (w : World) {B : Nat} (h : Row w B A n xs) (hB : B ≤ w.heap.size) (hr : n * 8 ≤ 140737488355328) :
    Calls Try.prog 64 #[.slice A n c] w (CloneIPost w n xs) := by
  cases A with
  | none =>
    have hm : n = 0 := by
      rcases Nat.eq_zero_or_pos n with h0 | h0
      · exact h0
      · obtain ⟨b, off, h, _⟩ := h.at_ h0
        cases h
    subst hm
    have hx : xs = [] := List.eq_nil_of_length_eq_zero h.len
    subst hx
    clear h
    have hq : (binOp .eql 23 (.slice none 0 c) (.slice none 0 0)).run Try.prog w = .ok (.bool true) w := Lib.run_eql_slice_nil w 23 3 none 0 c 0 0 Try.underlying23
    go_enter Try.func64, Try.ntmps64
    go_wp2
    go_ret
    exact ⟨_, rfl, Mine.nil _ _, World.grownBy.refl w none⟩
  | some ad =>
    have HM := Lib.hid (Mine.lit (w := w) (base := w.heap.size) (g := w.heap.size) (vs := #[]) [] 0 rfl rfl rfl (Nat.le_refl _) (by simp))
    have HR := Lib.hid (h.grown hB (grow0 w (.cells #[] 3)))
    have hq : (binOp .eql 23 (.slice (some ad) n c) (.slice none 0 0)).run Try.prog w = .ok (.bool false) w := Lib.run_eql_slice_nil w 23 3 (some ad) n c 0 0 Try.underlying23
    clear h
    go_enter Try.func64, Try.ntmps64
    go_wp2_with (first | (at_builtin; refine wpList_app _ rfl _ _ rfl w.heap.size _ _ _ rfl HM.out _ n c xs rfl HR.out (by simp) (by omega) (by simp) ?_))
    intro v1 w3 hm1 hg3 _
    have G3 := Lib.hid (grown_none (grow0 w (.cells #[] 3)) hg3 (fun g hg => HM.out.own_ge g hg))
    have HM3 := Lib.hid hm1
    clear hm1 hg3
    go_wp2
    go_ret
    exact ⟨_, rfl, by simpa using HM3.out, G3.out⟩

set_option maxRecDepth 20000 in
theorem CloneN_any (A : Option Addr) (n c : Nat) (xs : List Nd) (w : World) {B : Nat} (h : Elts nodeE w B A n xs) (hB : B ≤ w.heap.size) (hr : n ≤ 1000) :
    Calls Try.prog 63 #[.slice A n c] w (CloneNPost w n xs) := by
  cases A with
  | none =>
    have hm : n = 0 := by
      rcases Nat.eq_zero_or_pos n with h0 | h0
      · exact h0
      · obtain ⟨b, off, h, _⟩ := h.at_ h0
        cases h
    subst hm
    have hx : xs = [] := List.eq_nil_of_length_eq_zero h.len
    subst hx
    clear h
    have hq : (binOp .eql 22 (.slice none 0 c) (.slice none 0 0)).run Try.prog w = .ok (.bool true) w := Lib.run_eql_slice_nil w 22 64 none 0 c 0 0 Try.underlying22
    go_enter Try.func63, Try.ntmps63
    go_wp2
    go_ret
    exact ⟨_, rfl, MineE.nil _ _ _, World.grownBy.refl w none⟩
  | some ad =>
    have HM := Lib.hid (MineE.lit (E := nodeE) (w := w) (base := w.heap.size) (g := w.heap.size) (vs := #[]) [] 0 rfl rfl rfl (Nat.le_refl _) (by simp))
    have HR := Lib.hid (h.grown hB (grow0 w (.cells #[] 64)))
    have hq : (binOp .eql 22 (.slice (some ad) n c) (.slice none 0 0)).run Try.prog w = .ok (.bool false) w := Lib.run_eql_slice_nil w 22 64 (some ad) n c 0 0 Try.underlying22
    clear h
    go_enter Try.func63, Try.ntmps63
    go_wp2_with (first | (at_builtin; refine wpList_appE nodeE _ rfl _ _ rfl w.heap.size _ 0 [] rfl HM.out _ n c xs rfl HR.out (by simp) (by unfold maxLen; omega) (by show (0 + n) * 56 ≤ _; omega) (by simp) ?_))
    intro v1 w3 hm1 hg3 _
    have G3 := Lib.hid (grown_none (grow0 w (.cells #[] 64)) hg3 (fun g hg => HM.out.own_ge g hg))
    have HM3 := Lib.hid hm1
    clear hm1 hg3
    go_wp2
    go_ret
    exact ⟨_, rfl, by simpa using HM3.out, G3.out⟩

def CopiedPost (w : World) (n : Nat) (ns : List Nd) (r : Int) (fn : Nat) (free : List Int) (e : Ending) (w' : World) : Prop :=
  ∃ q nv fv, e = .returned (.pointer (some ⟨q, 0, none⟩)) ∧ Cpd w' w.heap.size q nv n ns r fv fn free ∧ w.grownBy w' none

theorem held3x {w w1 : World} {a0 a1 a2 : Addr} {x0 x1 x2 : Value} (g : w.grownBy w1 none)
    (h : w.cell? a0 = some x0 ∧ w.cell? a1 = some x1 ∧ w.cell? a2 = some x2) : w1.cell? a0 = some x0 ∧ w1.cell? a1 = some x1 ∧ w1.cell? a2 = some x2 :=
  ⟨g.cell h.1 (by simp), g.cell h.2.1 (by simp), g.cell h.2.2 (by simp)⟩

theorem cpd_of {w w1 : World} {n : Nat} {ns : List Nd} {r : Int} {nv fv : Value} {fn : Nat} {free : List Int} (g : w.grownBy w1 none) (mn : MineE nodeE w1 w.heap.size nv n ns) (mf : Mine w1 w.heap.size fv fn free) (ap : ∀ k, fv.ownBlock = some k → nv.ownBlock ≠ some k) :
    Cpd (w1.alloc (.cells #[nv, .int .i64 r, fv] 72)) w.heap.size w1.heap.size nv n ns r fv fn free :=
  ⟨Own.new w1 72 [nv, .int .i64 r, fv], mn.kept (grow0 _ _), mf.kept (grow0 _ _), fun k hk => by have := mn.own_lt k hk; omega, fun k hk => ⟨by have := mf.own_lt k hk; omega, ap k hk⟩, g.size⟩

set_option maxHeartbeats 4000000 in
theorem Copied_any (A : Option Addr) (n c : Nat) (ns : List Nd) (r : Int) (FA : Option Addr) (fn fc : Nat) (free : List Int) (w : World) {B : Nat} (h : Tre w B A n ns FA fn free) (hB : B ≤ w.heap.size) (hn : n ≤ 1000) (hfn : fn ≤ 1000) :
    Calls Try.prog 48 #[.agg #[.slice A n c, .int .i64 r, .slice FA fn fc]] w (CopiedPost w n ns r fn free) := by
  have HB := Lib.hid (box1 (w := w) (T := 25) [.slice A n c, .int .i64 r, .slice FA fn fc] (World.grownBy.refl _ none))
  have CN : Hid (∀ wx, w.grownBy wx none → Calls Try.prog 63 #[.slice A n c] wx (CloneNPost wx n ns)) := fun wx g => CloneN_any A n c ns wx (h.nodes.grown hB g) (Nat.le_trans hB g.size) hn
  have CF : Hid (∀ wx, w.grownBy wx none → Calls Try.prog 64 #[.slice FA fn fc] wx (CloneIPost wx fn free)) := fun wx g => CloneI_any FA fn fc free wx (h.free.grown hB g) (Nat.le_trans hB g.size) (by omega)
  clear h
  go_enter Try.func48, Try.ntmps48
  go_upto_region 1 with fail
  obtain ⟨G0, o1⟩ := HB.out
  generalize w.alloc (.cells #[.slice A n c, .int .i64 r, .slice FA fn fc] 25) = w1 at *
  obtain ⟨c0, c1, c2⟩ := o1.three
  have GK := Lib.hid G0
  have HS : Hid (w1.cell? ⟨w.heap.size, 0, none⟩ = some (.slice A n c) ∧ w1.cell? ⟨w.heap.size, 1, none⟩ = some (.int .i64 r) ∧ w1.cell? ⟨w.heap.size, 2, none⟩ = some (.slice FA fn fc)) := ⟨c0, c1, c2⟩
  clear HB G0 o1 c0 c1 c2
  go_region_held3 (fun w' : World => w'.cell? ⟨w.heap.size, 0, none⟩ = some (.slice A n c) ∧ w'.cell? ⟨w.heap.size, 1, none⟩ = some (.int .i64 r) ∧ w'.cell? ⟨w.heap.size, 2, none⟩ = some (.slice FA fn fc)) (first | exact HS.out | exact held3x (grow0 _ _) HS.out)
    (first
      | (go_at_call 63; refine (CN.out _ (by first | exact GK.out | exact grown_drew GK.out | exact grown_drewN GK.out _)).mono ?_; rintro e w8 ⟨vN, rfl, mN, g⟩; obtain ⟨AN, cN, rfl, _, _, _⟩ := mN.row; (try have AP : Hid (∀ k, (Value.slice AF fn cF).ownBlock = some k → (Value.slice AN n cN).ownBlock ≠ some k) := fun k hk e => Nat.not_le_of_lt (MF.out.own_lt k hk) (mN.own_ge k e)); (try have MF := Lib.hid (MF.out.kept g)); have MN := Lib.hid (mN.wide (by first | exact GK.out.size | exact (grown_drew GK.out).size)); have GK : Hid (w.grownBy w8 none) := (by first | exact grown_trans GK.out g | exact grown_trans (grown_drew GK.out) g | exact grown_trans (grown_drewN GK.out _) g); have HS := Lib.hid (held3x g HS.out); clear g mN)
      | (go_at_call 64; refine (CF.out _ (by first | exact GK.out | exact grown_drew GK.out | exact grown_drewN GK.out _)).mono ?_; rintro e w8 ⟨vF, rfl, mF, g⟩; obtain ⟨AF, cF, rfl, _⟩ := mF.sl; (try have AP : Hid (∀ k, (Value.slice AF fn cF).ownBlock = some k → (Value.slice AN n cN).ownBlock ≠ some k) := fun k hk e => Nat.not_le_of_lt (MN.out.own_lt k e) (mF.own_ge k hk)); (try have MN := Lib.hid (MN.out.kept g)); have MF := Lib.hid (mF.wide (by first | exact GK.out.size | exact (grown_drew GK.out).size)); have GK : Hid (w.grownBy w8 none) := (by first | exact grown_trans GK.out g | exact grown_trans (grown_drew GK.out) g | exact grown_trans (grown_drewN GK.out _) g); have HS := Lib.hid (held3x g HS.out); clear g mF))
  all_goals
    go_wp2
    go_ret
    exact ⟨_, _, _, rfl, cpd_of GK.out MN.out MF.out AP.out, grown_trans GK.out (grow0 _ _)⟩

end Go.Proofs.Ytgfehlmiejnonaa

set_option maxRecDepth 20000
namespace Go.Proofs.Ytgfehlmiejnonaa
open Go.RowKit

def HasRel (w : World) (A : Option Addr) (n c : Nat) (ns : List Nd) (r : Int) (FA : Option Addr) (fn fc : Nat) (x : It) (xs : List It) (i : Value) (wr : World) : Prop :=
  ∃ T : Tr, i = .int .i64 T.top ∧ T.ok ns ∧ rises (T.sum ns).1 = true ∧ (x ∈ xs ↔ x ∈ (T.sum ns).1) ∧ w.grownBy wr none ∧ Own wr w.heap.size 25 [.slice A n c, .int .i64 r, .slice FA fn fc] ∧ Own wr (w.heap.size + 1) 50 [.int .i64 x.1, .int .i64 x.2.1, .int .i64 x.2.2]

theorem has_left {ns : List Nd} {k : Nat} {l r : Tr} {x : It} (h : rises ((Tr.node k l r).sum ns).1 = true) (hx : lessB x (nd ns k).1 = true) : x ∈ ((Tr.node k l r).sum ns).1 ↔ x ∈ (l.sum ns).1 := by
  obtain ⟨q1, q2, q3, q4⟩ := row_node h
  simp only [Tr.sum, topH, List.mem_append, List.mem_cons]
  constructor
  · rintro (h | h | h)
    · exact h
    · exact absurd h (less_ne hx)
    · have := less_not (q4 x h)
      rw [hx] at this
      cases this
  · exact .inl

theorem has_right {ns : List Nd} {k : Nat} {l r : Tr} {x : It} (h : rises ((Tr.node k l r).sum ns).1 = true) (hx : lessB x (nd ns k).1 = false) (hne : (nd ns k).1 ≠ x) : x ∈ ((Tr.node k l r).sum ns).1 ↔ x ∈ (r.sum ns).1 := by
  obtain ⟨q1, q2, q3, q4⟩ := row_node h
  simp only [Tr.sum, topH, List.mem_append, List.mem_cons]
  constructor
  · rintro (h | h | h)
    · have := q3 x h
      rw [hx] at this
      cases this
    · exact absurd h.symm hne
    · exact h
  · exact fun h => .inr (.inr h)

theorem it_not {y0 y1 y2 x0 x1 x2 : Int} (h : (y0, y1, y2) ≠ (x0, x1, x2)) : (y0 == x0) = false ∨ ((y0 == x0) = true ∧ (y1 == x1) = false) ∨ ((y0 == x0) = true ∧ (y1 == x1) = true ∧ (y2 == x2) = false) := by
  by_cases a : y0 = x0
  · by_cases b : y1 = x1
    · refine .inr (.inr ⟨by simpa using a, by simpa using b, ?_⟩)
      simp only [beq_eq_false_iff_ne]
      rintro rfl
      exact h (by rw [a, b])
    · exact .inr (.inl ⟨by simpa using a, by simpa using b⟩)
  · exact .inl (by simpa using a)

set_option maxHeartbeats 4000000 in
theorem THas_any (A : Option Addr) (n c : Nat) (ns : List Nd) (r : Int) (FA : Option Addr) (fn fc : Nat) (x0 x1 x2 : Int) (T : Tr) (w : World) {B : Nat} (h : Elts nodeE w B A n ns) (hB : B ≤ w.heap.size) (ok : T.ok ns) (ht : T.top = r) (hr : rises (T.sum ns).1 = true) :
    Calls Try.prog 47 #[.agg #[.slice A n c, .int .i64 r, .slice FA fn fc], .agg #[.int .i64 x0, .int .i64 x1, .int .i64 x2]] w (Says w (.bool (decide ((x0, x1, x2) ∈ (T.sum ns).1)))) := by
  have HB := Lib.hid (box2 (w := w) (T := 25) (U := 50) [.slice A n c, .int .i64 r, .slice FA fn fc] [.int .i64 x0, .int .i64 x1, .int .i64 x2] (World.grownBy.refl _ none))
  have HR := Lib.hid h
  have hlen := Lib.hid h.len
  have hsm := h.small
  have OK := Lib.hid ok
  have RS := Lib.hid hr
  have HT := Lib.hid ht
  clear h ok hr ht
  go_enter Try.func47, Try.ntmps47
  go_upto_region 1 with fail
  obtain ⟨G0, o1, o2⟩ := HB.out
  obtain ⟨c0, c1, c2⟩ := o1.three
  have HREL : Hid (HasRel w A n c ns r FA fn fc (x0, x1, x2) (T.sum ns).1 (.int .i64 r) ((w.alloc (.cells #[.slice A n c, .int .i64 r, .slice FA fn fc] 25)).alloc (.cells #[.int .i64 x0, .int .i64 x1, .int .i64 x2] 50))) := ⟨T, by rw [HT.out], OK.out, RS.out, Iff.rfl, G0, o1, o2⟩
  generalize (w.alloc (.cells #[.slice A n c, .int .i64 r, .slice FA fn fc] 25)).alloc (.cells #[.int .i64 x0, .int .i64 x1, .int .i64 x2] 50) = w1 at *
  generalize hxs : (T.sum ns).1 = xs at *
  clear HB G0 o1 o2 OK RS hxs HT
  go_wp2
  clear c0 c1 c2
  go_loopw [5] (fun i wr => HasRel w A n c ns r FA fn fc (x0, x1, x2) xs i wr) (fun i _ => (hOf ns (intOf i)).toNat)
  case atStart => exact HREL.out
  case round =>
    clear HREL
    obtain ⟨T', rfl, okt, hrt, hiff, hg, ho1, ho2⟩ := hrel
    have G := Lib.hid hg
    have O1 := Lib.hid ho1
    have O2 := Lib.hid ho2
    have IFF := Lib.hid hiff
    have OKT := Lib.hid okt
    have RST := Lib.hid hrt
    clear hg ho1 ho2 hiff okt hrt
    cases T' with
    | nil =>
      have E : Hid (decide ((x0, x1, x2) ∈ xs) = false) := by
        rw [Hid]
        exact decide_eq_false (fun e => by have := IFF.out.1 e; simp [Tr.sum] at this)
      simp only [Tr.top]
      go_wp2_with fail
      go_quiet (fail)
      go_wp2
      go_ret
      exact ⟨ret_bool (by rw [E.out]), by first | exact G.out | exact grown_drew G.out | exact grown_drewN G.out _⟩
    | node k l rt =>
      have p := parts_of OKT.out
      have hk : k < n := by have := hlen.out; have := p.hk; omega
      obtain ⟨b, off, rfl, _, hcell⟩ := (HR.out.grown hB G.out).nds (by omega)
      obtain ⟨d0, d1, d2, _, _, _, _⟩ := hcell k hk
      obtain ⟨c0, _, _⟩ := O1.out.three
      obtain ⟨b0, b1, b2⟩ := O2.out.three
      obtain ⟨y, hy⟩ : ∃ y, (nd ns k).1 = y := ⟨_, rfl⟩
      rw [hy] at d0 d1 d2
      obtain ⟨y0, y1, y2⟩ := y
      simp only at d0 d1 d2
      have HY := Lib.hid hy
      have PT := Lib.hid p
      clear hcell hy p
      have hne : (((k : Nat) : Int) != -1) = true := by simp
      simp only [Tr.top]
      by_cases hxy : (y0, y1, y2) = (x0, x1, x2)
      · have E : Hid (decide ((x0, x1, x2) ∈ xs) = true) := by
          rw [Hid]
          refine decide_eq_true (IFF.out.2 ?_)
          simp only [Tr.sum, topH, List.mem_append, List.mem_cons]
          exact .inr (.inl (by rw [HY.out, hxy]))
        simp only [Prod.mk.injEq] at hxy
        obtain ⟨rfl, rfl, rfl⟩ := hxy
        go_wp2_with fail
        go_quiet (fail)
        go_wp2
        go_ret
        exact ⟨ret_bool (by rw [E.out]), by first | exact G.out | exact grown_drew G.out | exact grown_drewN G.out _⟩
      · have HNE := Lib.hid hxy
        have CQ := Lib.hid (cmpI_lt (x0, x1, x2) (y0, y1, y2))
        have CC : Hid (∀ wx, Calls Try.prog 62 #[.agg #[.int .i64 x0, .int .i64 x1, .int .i64 x2], .agg #[.int .i64 y0, .int .i64 y1, .int .i64 y2]] wx (Says wx (.int .i64 (cmpI (x0, x1, x2) (y0, y1, y2))))) := Tcompare_any x0 x1 x2 y0 y1 y2
        generalize cmpI (x0, x1, x2) (y0, y1, y2) = cv at *
        have hnot := it_not hxy
        clear hxy
        rcases hnot with z0 | ⟨z1, z0⟩ | ⟨z1, z2, z0⟩
        all_goals
          go_wp2_with fail
          go_quiet (fail)
          have kd : wr.grownBy (wr.drewN nq) none := grown_drewN (World.grownBy.refl _ _) _
          have G := Lib.hid (grown_trans G.out kd)
          have O1 := Lib.hid (O1.out.kept kd)
          have O2 := Lib.hid (O2.out.kept kd)
          clear c0 b0 b1 b2 d0 d1 d2 kd
          generalize wr.drewN nq = wq at *
          obtain ⟨c0, _, _⟩ := O1.out.three
          obtain ⟨b0, b1, b2⟩ := O2.out.three
          obtain ⟨b', off', hA, _, hcell⟩ := (HR.out.grown hB G.out).nds (by omega)
          injection hA with hA
          injection hA with q1 q2
          subst q1 q2
          obtain ⟨d0, d1, d2, _, _, _, _⟩ := hcell k hk
          rw [HY.out] at d0 d1 d2
          simp only at d0 d1 d2
          have HS : Hid (wq.cell? ⟨w.heap.size, 0, none⟩ = some (.slice (some ⟨b, off, none⟩) n c) ∧ (wq.cell? ⟨w.heap.size + 1, 0, none⟩ = some (.int .i64 x0) ∧ wq.cell? ⟨w.heap.size + 1, 1, none⟩ = some (.int .i64 x1) ∧ wq.cell? ⟨w.heap.size + 1, 2, none⟩ = some (.int .i64 x2)) ∧ (wq.cell? ⟨b, off + k * 7, none⟩ = some (.int .i64 y0) ∧ wq.cell? ⟨b, off + k * 7 + 1, none⟩ = some (.int .i64 y1) ∧ wq.cell? ⟨b, off + k * 7 + 2, none⟩ = some (.int .i64 y2))) := ⟨c0, ⟨b0, b1, b2⟩, d0, d1, d2⟩
          clear c0 b0 b1 b2 d0 d1 d2 hcell
          go_upto_region 3 with fail
          go_region_held3 (fun w' : World => w'.cell? ⟨w.heap.size, 0, none⟩ = some (.slice (some ⟨b, off, none⟩) n c) ∧ (w'.cell? ⟨w.heap.size + 1, 0, none⟩ = some (.int .i64 x0) ∧ w'.cell? ⟨w.heap.size + 1, 1, none⟩ = some (.int .i64 x1) ∧ w'.cell? ⟨w.heap.size + 1, 2, none⟩ = some (.int .i64 x2)) ∧ (w'.cell? ⟨b, off + k * 7, none⟩ = some (.int .i64 y0) ∧ w'.cell? ⟨b, off + k * 7 + 1, none⟩ = some (.int .i64 y1) ∧ w'.cell? ⟨b, off + k * 7 + 2, none⟩ = some (.int .i64 y2))) (first | exact HS.out)
            (first
              | (go_at_call 62; refine (CC.out _).mono ?_; rintro e w8 ⟨rfl, g8⟩; have GK : Hid (wq.grownBy w8 none) := (by first | exact g8 | exact grown_undrew g8); have HS := Lib.hid (held7 GK.out HS.out); clear g8))
          have G := Lib.hid (grown_trans G.out GK.out)
          have O1 := Lib.hid (O1.out.kept GK.out)
          have O2 := Lib.hid (O2.out.kept GK.out)
          obtain ⟨c0, _, _⟩ := O1.out.three
          obtain ⟨b', off', hA, _, hcell⟩ := (HR.out.grown hB G.out).nds (by omega)
          injection hA with hA
          injection hA with q1 q2
          subst q1 q2
          obtain ⟨_, _, _, d3, d4, _, _⟩ := hcell k hk
          rw [PT.out.left] at d3
          rw [PT.out.right] at d4
          have HM := Lib.hid (Tr.hm OKT.out).1
          have HML := Lib.hid (Tr.hm PT.out.okl).1
          have HMR := Lib.hid (Tr.hm PT.out.okr).1
          have BL := Lib.hid (Tr.h_bd PT.out.okl).1
          have BR := Lib.hid (Tr.h_bd PT.out.okr).1
          clear hcell HS
          by_cases hc : cv < 0
          · have HC : Hid ((x0, x1, x2) ∈ xs ↔ (x0, x1, x2) ∈ (l.sum ns).1) := IFF.out.trans (has_left RST.out (by rw [HY.out, ← CQ.out]; simpa using hc))
            go_wp2
            go_roundw
            case rel => exact ⟨l, rfl, PT.out.okl, (row_node RST.out).1, HC.out, G.out, O1.out, O2.out⟩
            case measure =>
              have h1 := HM.out
              have h2 := HML.out
              have h3 := BL.out
              simp only [Tr.top] at h1
              simp only [intOf]
              rw [h1, h2]
              simp only [Tr.sum, topH]
              omega
          · have HC : Hid ((x0, x1, x2) ∈ xs ↔ (x0, x1, x2) ∈ (rt.sum ns).1) := IFF.out.trans (has_right RST.out (by rw [HY.out, ← CQ.out]; simpa using hc) (by rw [HY.out]; exact HNE.out))
            go_wp2
            go_roundw
            case rel => exact ⟨rt, rfl, PT.out.okr, (row_node RST.out).2.1, HC.out, G.out, O1.out, O2.out⟩
            case measure =>
              have h1 := HM.out
              have h2 := HMR.out
              have h3 := BR.out
              have h4 := BL.out
              simp only [Tr.top] at h1
              simp only [intOf]
              rw [h1, h2]
              simp only [Tr.sum, topH]
              omega

end Go.Proofs.Ytgfehlmiejnonaa
