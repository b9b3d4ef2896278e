/-
  What of a tree meets a span: shape.meets, walked.
-/
import Derived.Test.YtgfehlmiejnonaaTreeU
import Derived.Test.YtgfehlmiejnonaaJD
import Derived.Test.YtgfehlmiejnonaaJA
set_option maxRecDepth 20000
namespace Go.Proofs.Ytgfehlmiejnonaa
open Go.RowKit

/-- A row behind another one: the same block, or one that is new. -/
def Nx (w : World) (v v' : Value) : Prop := v'.ownBlock = v.ownBlock ∨ ∃ g, v'.ownBlock = some g ∧ w.heap.size ≤ g

theorem Nx.refl (w : World) (v : Value) : Nx w v v := .inl rfl
theorem Nx.trans {a b : World} {v v1 v2 : Value} (h : Nx a v v1) (k : Nx b v1 v2) (hs : a.heap.size ≤ b.heap.size) : Nx a v v2 := by
  rcases k with k | ⟨g, k, hg⟩
  · rcases h with h | ⟨g, h, hg⟩
    · exact .inl (k.trans h)
    · exact .inr ⟨g, k.trans h, hg⟩
  · exact .inr ⟨g, k, by omega⟩
theorem Nx.of {w : World} {v v' : Value} (h : v'.ownBlock = v.ownBlock ∨ v'.ownBlock = some w.heap.size) : Nx w v v' := by
  rcases h with h | h
  · exact .inl h
  · exact .inr ⟨_, h, Nat.le_refl _⟩
theorem Nx.less {a b : World} {v v' : Value} (h : Nx b v v') (hs : a.heap.size ≤ b.heap.size) : Nx a v v' := by
  rcases h with h | ⟨g, h, hg⟩
  · exact .inl h
  · exact .inr ⟨g, h, by omega⟩

theorem grown_next {a b c : World} {v v1 : Value} (h : a.grownBy b v.ownBlock) (k : b.grownBy c v1.ownBlock) (n : Nx a v v1) : a.grownBy c v.ownBlock :=
  ⟨k.os.trans h.os, k.tape.trans h.tape, k.output.trans h.output, Nat.le_trans h.size k.size, fun i hi hne => (k.block i (Nat.lt_of_lt_of_le hi h.size) (fun e => by
    rcases n with n | ⟨g, n, hg⟩
    · exact hne (e.trans n)
    · rw [n] at e
      injection e with e
      omega)).trans (h.block i hi hne)⟩

/-- A block that stood between is another one. -/
theorem Nx.off {w : World} {v v' : Value} (h : Nx w v v') {B g : Nat} (hv : ∀ k, v.ownBlock = some k → k < B) (h1 : B ≤ g) (h2 : g < w.heap.size) : v'.ownBlock ≠ some g := by
  intro e
  rcases h with h | ⟨k, h, hk⟩
  · have := hv g (h ▸ e)
    omega
  · rw [h] at e
    injection e with e
    omega

theorem meetsF_app (a b : Int) (xs ys : List It) : meetsF a b (xs ++ ys) = meetsF a b xs ++ meetsF a b ys := List.filter_append ..
theorem meetsF_none {a b : Int} {xs : List It} (h : ∀ x ∈ xs, meets x.1 x.2.1 a b = false) : meetsF a b xs = [] := List.filter_eq_nil_iff.2 fun x hx => by simp [h x hx]

theorem Tr.most_in {ns : List Nd} : ∀ {T : Tr}, ∀ x ∈ (T.sum ns).1, x.2.1 ≤ (T.sum ns).2.2
  | .nil, x, h => by simp [Tr.sum] at h
  | .node k l r, x, h => by
    simp only [Tr.sum, topH, List.mem_append, List.mem_cons] at h
    simp only [Tr.sum, topH]
    rcases h with h | rfl | h
    · have := Tr.most_in (T := l) x h
      omega
    · omega
    · have := Tr.most_in (T := r) x h
      omega

theorem meets_low {ns : List Nd} {T : Tr} {a b : Int} (h : (T.sum ns).2.2 ≤ a) : meetsF a b (T.sum ns).1 = [] :=
  meetsF_none fun x hx => by
    have := Tr.most_in x hx
    cases q : meets x.1 x.2.1 a b
    · rfl
    · rw [meets_may] at q; omega

theorem meets_high {a b : Int} {x : It} {ys : List It} (h : List.Pairwise (fun x y => lessB x y = true) (x :: ys)) (k : b ≤ x.1) : meetsF a b (x :: ys) = [] :=
  meetsF_none fun y hy => by
    have : x.1 ≤ y.1 := by
      rcases List.mem_cons.1 hy with rfl | hy
      · exact Int.le_refl _
      · have := less_iff.1 ((List.pairwise_cons.1 h).1 y hy)
        omega
    cases q : meets y.1 y.2.1 a b
    · rfl
    · rw [meets_may] at q; omega

theorem rises_parts {xs ys : List It} {x : It} (h : rises (xs ++ x :: ys) = true) : rises xs = true ∧ rises ys = true ∧ List.Pairwise (fun x y => lessB x y = true) (x :: ys) := by
  rw [rises_pair, List.pairwise_append] at h
  exact ⟨rises_pair.2 h.1, rises_pair.2 (List.pairwise_cons.1 h.2.1).2, h.2.1⟩

theorem meetsF_le (a b : Int) (xs : List It) : (meetsF a b xs).length ≤ xs.length := List.length_filter_le _ _

theorem grown_late {a b c : World} {row : Option Nat} (h : a.grownBy b none) (k : b.grownBy c row) : a.grownBy c row :=
  ⟨k.os.trans h.os, k.tape.trans h.tape, k.output.trans h.output, Nat.le_trans h.size k.size, fun i hi hne => (k.block i (Nat.lt_of_lt_of_le hi h.size) hne).trans (h.block i hi (by simp))⟩

def MtP (w : World) (base : Nat) (v : Value) (ys : List It) (e : Ending) (w' : World) : Prop :=
  ∃ v', e = .returned v' ∧ MineE itemE w' base v' ys.length ys ∧ w.grownBy w' v.ownBlock ∧ Nx w v v'

def MtI (ns : List Nd) (A : Option Addr) (n c : Nat) (r : Int) (FA : Option Addr) (fn fc B base : Nat) (a b : Int) (T : Tr) : Prop := ∀ (os : List It) (v : Value) (w : World), Elts nodeE w B A n ns → base ≤ w.heap.size → MineE itemE w base v os.length os → os.length + T.places.length ≤ 100 →
    Calls Try.prog 38 #[.agg #[.slice A n c, .int .i64 r, .slice FA fn fc], .int .i64 T.top, .agg #[.int .i64 a, .int .i64 b], v] w (MtP w base v (os ++ meetsF a b (T.sum ns).1))

set_option maxHeartbeats 4000000 in
theorem tmeets_step (ns : List Nd) (A : Option Addr) (n c : Nat) (r : Int) (FA : Option Addr) (fn fc : Nat) {B base : Nat} (hB : B ≤ base) (a b : Int) (hn : n ≤ 32) (k : Nat) (l rt : Tr) (ok : (Tr.node k l rt).ok ns) (rs : rises ((Tr.node k l rt).sum ns).1 = true) (hlen : ns.length = n)
    (ihl : MtI ns A n c r FA fn fc B base a b l) (ihr : MtI ns A n c r FA fn fc B base a b rt) : MtI ns A n c r FA fn fc B base a b (.node k l rt) := by
  intro os v w h hb hm h100
  have hk : k < n := by have := ok.1; omega
  have HR := Lib.hid h
  have M := Lib.hid hm
  have HV := Lib.hid hm.own_lt
  have IHL := Lib.hid ihl
  have IHR := Lib.hid ihr
  have HHM := Lib.hid (Tr.hm ok).2
  have OK := Lib.hid ok
  have RS := Lib.hid rs
  have L100 : Hid (os.length + (l.places.length + rt.places.length + 1) ≤ 100) := by
    rw [Hid]
    simp only [Tr.places, List.length_cons, List.length_append] at h100
    omega
  have SL := Lib.hid (Tr.sum_len ns l)
  have SR := Lib.hid (Tr.sum_len ns rt)
  clear h hm ihl ihr ok rs h100
  rw [Tr.top] at HHM ⊢
  rw [mOf, if_neg (by omega), show ((k : Nat) : Int).toNat = k by omega] at HHM
  obtain ⟨x, hx⟩ : ∃ x, nd ns k = x := ⟨_, rfl⟩
  have OK2 : Hid (x.2.1 = l.top ∧ x.2.2.1 = rt.top ∧ l.ok ns ∧ rt.ok ns) := by
    obtain ⟨_, h1, h2, _, h3, h4⟩ := OK.out
    rw [hx] at h1 h2
    exact ⟨h1, h2, h3, h4⟩
  have HSUM : Hid (((Tr.node k l rt).sum ns).1 = (l.sum ns).1 ++ x.1 :: (rt.sum ns).1) := by rw [Hid, ← hx]; rfl
  rw [hx] at HHM
  have G0 := Lib.hid (grown_trans (grow0 w (.cells #[.slice A n c, .int .i64 r, .slice FA fn fc] 72)) (grow0 _ (.cells #[.int .i64 a, .int .i64 b] 27)))
  have O4 := Lib.hid ((Own.new w 72 [.slice A n c, .int .i64 r, .slice FA fn fc]).alloc (.cells #[.int .i64 a, .int .i64 b] 27))
  have O6 : Hid (Own ((w.alloc (.cells #[.slice A n c, .int .i64 r, .slice FA fn fc] 72)).alloc (.cells #[.int .i64 a, .int .i64 b] 27)) (w.heap.size + 1) 27 [.int .i64 a, .int .i64 b]) := by
    have := Own.new (w.alloc (.cells #[.slice A n c, .int .i64 r, .slice FA fn fc] 72)) 27 [.int .i64 a, .int .i64 b]
    have e : (w.alloc (.cells #[.slice A n c, .int .i64 r, .slice FA fn fc] 72)).heap.size = w.heap.size + 1 := by simp
    rw [e] at this
    exact this
  go_enter Try.func38, Try.ntmps38
  go_upto_region 1 with fail
  generalize (w.alloc (.cells #[.slice A n c, .int .i64 r, .slice FA fn fc] 72)).alloc (.cells #[.int .i64 a, .int .i64 b] 27) = w1 at *
  have hw1 := G0.out.size
  have HR1 := Lib.hid (HR.out.grown (by omega) G0.out)
  have M1 := Lib.hid (M.out.kept G0.out)
  obtain ⟨c0, c1, c2⟩ := O4.out.three
  obtain ⟨e0, e1⟩ := O6.out.two
  obtain ⟨bn, off, rfl, hbn, hcell⟩ := HR1.out.nds (by omega)
  obtain ⟨d0, d1, d2, d3, d4, d5, d6⟩ := hcell k hk
  rw [hx] at d0 d1 d2 d3 d4 d5 d6
  have HX := Lib.hid hx
  clear hcell hx
  obtain ⟨⟨x0, x1, x2⟩, xl, xr, xh, xm⟩ := x
  simp only at d0 d1 d2 d3 d4 d5 d6 HHM HSUM OK2
  by_cases hlow : xm ≤ a
  · have E : Hid (meetsF a b ((Tr.node k l rt).sum ns).1 = []) := meets_low (by rw [← HHM.out]; exact hlow)
    go_quiet (fail)
    go_wp2
    go_ret
    rw [E.out, List.append_nil]
    exact ⟨v, rfl, by first | exact M1.out | exact M1.out.kept (grown_drew (World.grownBy.refl _ _)) | exact M1.out.kept (grown_drewN (World.grownBy.refl _ _) _), by first | exact grown_then (World.grownBy.refl _ _) G0.out | exact grown_then (World.grownBy.refl _ _) (grown_drew G0.out) | exact grown_then (World.grownBy.refl _ _) (grown_drewN G0.out _), Nx.refl _ _⟩
  · go_quiet (fail)
    have kd : w1.grownBy (w1.drewN nq) none := grown_drewN (World.grownBy.refl _ _) _
    have G1 := Lib.hid (grown_trans G0.out kd)
    have P4 := Lib.hid (O4.out.kept kd)
    have P6 := Lib.hid (O6.out.kept kd)
    have HR2 := Lib.hid (HR1.out.grown (by omega) kd)
    have M2 := Lib.hid (M1.out.kept kd)
    have hw2 : w.heap.size + 1 + 1 ≤ (w1.drewN nq).heap.size := P6.out.lt
    clear O4 O6 HR1 M1 G0 HR M hw1 kd
    clear c0 c1 c2 e0 e1 d0 d1 d2 d3 d4 d5 d6
    generalize w1.drewN nq = w2 at *
    obtain ⟨c0, c1, c2⟩ := P4.out.three
    obtain ⟨bn', off', hA, hbn', hcell⟩ := HR2.out.nds (by omega)
    injection hA with hA
    injection hA with q1 q2
    subst q1 q2
    obtain ⟨d0, d1, d2, d3, d4, d5, d6⟩ := hcell k hk
    rw [HX.out] at d0 d1 d2 d3 d4 d5 d6
    simp only at d0 d1 d2 d3 d4 d5 d6
    clear hcell
    have ON : Hid (Own (w2.alloc (.cells #[.int .i64 x0, .int .i64 x1, .int .i64 x2, .int .i64 xl, .int .i64 xr, .int .i64 xh, .int .i64 xm] 64)) w2.heap.size 64 [.int .i64 x0, .int .i64 x1, .int .i64 x2, .int .i64 xl, .int .i64 xr, .int .i64 xh, .int .i64 xm]) := Own.new w2 64 _
    have k3 := grow0 w2 (.cells #[.int .i64 x0, .int .i64 x1, .int .i64 x2, .int .i64 xl, .int .i64 xr, .int .i64 xh, .int .i64 xm] 64)
    have G3 : Hid (w.grownBy (w2.alloc (.cells #[.int .i64 x0, .int .i64 x1, .int .i64 x2, .int .i64 xl, .int .i64 xr, .int .i64 xh, .int .i64 xm] 64)) none) := grown_trans G1.out k3
    have Q4 := Lib.hid (P4.out.kept k3)
    have Q6 := Lib.hid (P6.out.kept k3)
    have HR3 := Lib.hid (HR2.out.grown (by have := G1.out.size; omega) k3)
    have M3 := Lib.hid (M2.out.kept k3)
    go_upto_region 4 with fail
    clear c0 c1 c2 d0 d1 d2 d3 d4 d5 d6 k3 P4 P6 HR2 M2 G1
    generalize hnb : w2.heap.size = nb at *
    have hs3 : nb < (w2.alloc (.cells #[.int .i64 x0, .int .i64 x1, .int .i64 x2, .int .i64 xl, .int .i64 xr, .int .i64 xh, .int .i64 xm] 64)).heap.size := ON.out.lt
    generalize w2.alloc (.cells #[.int .i64 x0, .int .i64 x1, .int .i64 x2, .int .i64 xl, .int .i64 xr, .int .i64 xh, .int .i64 xm] 64) = w3 at *
    clear hnb
    obtain ⟨d0, d1, d2, d3, d4, d5, d6⟩ := ON.out.seven
    obtain ⟨c0, c1, c2⟩ := Q4.out.three
    obtain ⟨e0, e1⟩ := Q6.out.two
    have IHL2 := Lib.hid (IHL.out os v w3)
    rw [← OK2.out.1] at IHL2
    have IHR2 : Hid (∀ os v w, Elts nodeE w B (some ⟨bn, off, none⟩) n ns → base ≤ w.heap.size → MineE itemE w base v os.length os → os.length + rt.places.length ≤ 100 → Calls Try.prog 38 #[.agg #[.slice (some ⟨bn, off, none⟩) n c, .int .i64 r, .slice FA fn fc], .int .i64 xr, .agg #[.int .i64 a, .int .i64 b], v] w (MtP w base v (os ++ meetsF a b (rt.sum ns).1))) := by rw [Hid, OK2.out.2.1]; exact IHR.out
    clear IHR
    have IHR := IHR2
    clear IHR2
    go_wp2_with fail
    refine (IHL2.out HR3.out (by have := G3.out.size; omega) M3.out (by have := L100.out; omega)).mono ?_
    rintro e w4 ⟨v4, rfl, m4, g4, n4⟩
    have hge := M3.out.own_ge
    have G4 := Lib.hid (grown_late G3.out g4)
    have P4 := Lib.hid (Q4.out.kept' g4 (fun e => by have := HV.out _ e; omega))
    have P6 := Lib.hid (Q6.out.kept' g4 (fun e => by have := HV.out _ e; omega))
    have ON4 := Lib.hid (ON.out.kept' g4 (fun e => by have := HV.out _ e; omega))
    have HR4 := Lib.hid (HR3.out.grownR (by have := G3.out.size; omega) g4 (fun j e => by have := hge j e; omega))
    have M4 := Lib.hid m4
    have N4 := Lib.hid (n4.less G3.out.size)
    have HV4 : Hid (∀ j, v4.ownBlock = some j → j ≠ w.heap.size ∧ j ≠ w.heap.size + 1 ∧ j ≠ nb) := fun j hj => by
      rcases n4 with e | ⟨i, e, hi⟩
      · have := HV.out j (e ▸ hj)
        omega
      · rw [e] at hj
        injection hj with hj
        omega
    have HGE4 := Lib.hid m4.own_ge
    have LEN0 : Hid (os.length + (meetsF a b (l.sum ns).1).length + 1 + rt.places.length ≤ 100) := by
      have h1 := meetsF_le a b (l.sum ns).1
      have h2 := SL.out
      have h3 := L100.out
      rw [Hid]
      omega
    clear m4 g4 n4 d0 d1 d2 d3 d4 d5 d6 c0 c1 c2 e0 e1 hge Q4 Q6 ON HR3 M3 G3 IHL IHL2
    obtain ⟨d0, d1, d2, d3, d4, d5, d6⟩ := ON4.out.seven
    obtain ⟨c0, c1, c2⟩ := P4.out.three
    obtain ⟨e0, e1⟩ := P6.out.two
    have HPW : Hid (List.Pairwise (fun x y => lessB x y = true) ((x0, x1, x2) :: (rt.sum ns).1)) := by
      have := RS.out
      rw [HSUM.out] at this
      exact (rises_parts this).2.2
    by_cases hhigh : b ≤ x0
    · have E := Lib.hid (meets_high (a := a) HPW.out hhigh)
      go_wp2
      go_ret
      refine ⟨v4, rfl, ?_, G4.out, N4.out⟩
      rw [HSUM.out, meetsF_app, E.out, List.append_nil]
      exact M4.out
    · go_wp2_with fail
      refine (Meets_any x0 x1 a b w4).mono ?_
      rintro e w5 ⟨rfl, g5⟩
      have G5 := Lib.hid (grown_then G4.out g5)
      have Q4 := Lib.hid (P4.out.kept g5)
      have Q6 := Lib.hid (P6.out.kept g5)
      have ON5 := Lib.hid (ON4.out.kept g5)
      have HR5 := Lib.hid (HR4.out.grown (by have := G4.out.size; omega) g5)
      have M5 := Lib.hid (M4.out.kept g5)
      have hs5 := g5.size
      clear g5 d0 d1 d2 d3 d4 d5 d6 c0 c1 c2 e0 e1 P4 P6 ON4 HR4 M4
      cases hm : meets x0 x1 a b
      case false =>
        have HM := Lib.hid hm
        clear hm
        have LEN : Hid ((os ++ meetsF a b (l.sum ns).1).length + rt.places.length ≤ 100) := by have := LEN0.out; rw [Hid, List.length_append]; omega
        obtain ⟨d0, d1, d2, d3, d4, d5, d6⟩ := ON5.out.seven
        obtain ⟨c0, c1, c2⟩ := Q4.out.three
        obtain ⟨e0, e1⟩ := Q6.out.two
        go_wp2_with fail
        refine (IHR.out (os ++ meetsF a b (l.sum ns).1) v4 w5 HR5.out (by have := G5.out.size; omega) M5.out LEN.out).mono ?_
        rintro e w9 ⟨v9, rfl, m9, g9, n9⟩
        have M9 := Lib.hid m9
        have G9 := Lib.hid (grown_next G5.out g9 N4.out)
        have N9 := Lib.hid (N4.out.trans n9 G5.out.size)
        clear m9 g9 n9 d0 d1 d2 d3 d4 d5 d6 c0 c1 c2 e0 e1
        go_wp2
        go_ret
        refine ⟨v9, rfl, ?_, G9.out, N9.out⟩
        rw [HSUM.out, meetsF_app]
        have e : meetsF a b ((x0, x1, x2) :: (rt.sum ns).1) = meetsF a b (rt.sum ns).1 := by simp [meetsF, HM.out]
        rw [e]
        have m := M9.out
        simpa using m
      case true =>
        have HM := Lib.hid hm
        clear hm
        obtain ⟨d0, d1, d2, d3, d4, d5, d6⟩ := ON5.out.seven
        have MG := Lib.hid (M5.out.kept (grow0 w5 (.cells #[.int .i64 x0, .int .i64 x1, .int .i64 x2] 50)))
        have hll : (os ++ meetsF a b (l.sum ns).1).length ≤ 99 := by have := LEN0.out; rw [List.length_append]; omega
        go_wp2_with (first | (at_builtin; refine wpList_appE itemE _ rfl _ _ rfl base _ _ _ rfl MG.out (B := w5.heap.size + 1) (some ⟨w5.heap.size, 0, none⟩) 1 1 [(x0, x1, x2)] rfl (Own.itemLit x0 x1 x2) (by simp) (by unfold maxLen; omega) (by show (_ + 1) * 24 ≤ _; omega) (by have := G5.out.size; simp; omega) ?_))
        intro v6 w6 m6 g6 n6
        have M6 : Hid (MineE itemE w6 base v6 ((os ++ meetsF a b (l.sum ns).1) ++ [(x0, x1, x2)]).length ((os ++ meetsF a b (l.sum ns).1) ++ [(x0, x1, x2)])) := by
          have e : ((os ++ meetsF a b (l.sum ns).1) ++ [(x0, x1, x2)]).length = os.length + (meetsF a b (l.sum ns).1).length + 1 := by simp [Nat.add_assoc]
          rw [Hid, e, List.append_assoc]
          exact m6
        have G6 := Lib.hid (grown_next (grown_then G5.out (grow0 w5 (.cells #[.int .i64 x0, .int .i64 x1, .int .i64 x2] 50))) g6 N4.out)
        have N6 := Lib.hid (N4.out.trans (Nx.of (w := w5.alloc (.cells #[.int .i64 x0, .int .i64 x1, .int .i64 x2] 50)) (by simpa using n6)) (by have := G5.out.size; simp; omega))
        have R4 := Lib.hid ((Q4.out.alloc (.cells #[.int .i64 x0, .int .i64 x1, .int .i64 x2] 50)).kept' g6 (fun e => (HV4.out _ e).1 rfl))
        have R6 := Lib.hid ((Q6.out.alloc (.cells #[.int .i64 x0, .int .i64 x1, .int .i64 x2] 50)).kept' g6 (fun e => (HV4.out _ e).2.1 rfl))
        have ON6 := Lib.hid ((ON5.out.alloc (.cells #[.int .i64 x0, .int .i64 x1, .int .i64 x2] 50)).kept' g6 (fun e => (HV4.out _ e).2.2 rfl))
        have HR6 := Lib.hid ((HR5.out.grown (by have := G5.out.size; omega) (grow0 w5 (.cells #[.int .i64 x0, .int .i64 x1, .int .i64 x2] 50))).grownR (by have := G5.out.size; simp; omega) g6 (fun j e => by have := HGE4.out j e; omega))
        have LEN : Hid (((os ++ meetsF a b (l.sum ns).1) ++ [(x0, x1, x2)]).length + rt.places.length ≤ 100) := by have := LEN0.out; rw [Hid, List.length_append, List.length_append]; simp only [List.length_cons, List.length_nil]; omega
        clear m6 g6 n6 d0 d1 d2 d3 d4 d5 d6 MG hll Q4 Q6 ON5 HR5 M5 G5
        obtain ⟨d0, d1, d2, d3, d4, d5, d6⟩ := ON6.out.seven
        obtain ⟨c0, c1, c2⟩ := R4.out.three
        obtain ⟨e0, e1⟩ := R6.out.two
        go_wp2_with fail
        refine (IHR.out ((os ++ meetsF a b (l.sum ns).1) ++ [(x0, x1, x2)]) v6 w6 HR6.out (by have := G6.out.size; omega) M6.out LEN.out).mono ?_
        rintro e w9 ⟨v9, rfl, m9, g9, n9⟩
        have M9 := Lib.hid m9
        have G9 := Lib.hid (grown_next G6.out g9 N6.out)
        have N9 := Lib.hid (N6.out.trans n9 G6.out.size)
        clear m9 g9 n9 d0 d1 d2 d3 d4 d5 d6 c0 c1 c2 e0 e1
        go_wp2
        go_ret
        refine ⟨v9, rfl, ?_, G9.out, N9.out⟩
        rw [HSUM.out, meetsF_app]
        have e : meetsF a b ((x0, x1, x2) :: (rt.sum ns).1) = (x0, x1, x2) :: meetsF a b (rt.sum ns).1 := by simp [meetsF, HM.out]
        rw [e]
        have m := M9.out
        simpa using m

theorem TMeetsI_any (ns : List Nd) (A : Option Addr) (n c : Nat) (r : Int) (FA : Option Addr) (fn fc : Nat) {B base : Nat} (hB : B ≤ base) (a b : Int) (hn : n ≤ 32) (hlen : ns.length = n) : ∀ T : Tr, T.ok ns → rises (T.sum ns).1 = true → MtI ns A n c r FA fn fc B base a b T
  | .nil, _, _ => by
    intro os v w h hb hm h100
    have M := Lib.hid hm
    have G := Lib.hid (grown_trans (grow0 w (.cells #[.slice A n c, .int .i64 r, .slice FA fn fc] 72)) (grow0 _ (.cells #[.int .i64 a, .int .i64 b] 27)))
    clear h hm h100
    rw [Tr.top]
    go_enter Try.func38, Try.ntmps38
    go_upto_region 1 with fail
    generalize (w.alloc (.cells #[.slice A n c, .int .i64 r, .slice FA fn fc] 72)).alloc (.cells #[.int .i64 a, .int .i64 b] 27) = w1 at *
    go_quiet (fail)
    go_wp2
    go_ret
    refine ⟨v, rfl, ?_, by first | exact grown_then (World.grownBy.refl _ _) G.out | exact grown_then (World.grownBy.refl _ _) (grown_drew G.out) | exact grown_then (World.grownBy.refl _ _) (grown_drewN G.out _), Nx.refl _ _⟩
    have m := M.out.kept G.out
    simp only [Tr.sum, meetsF, List.filter_nil, List.append_nil]
    first | exact m | exact m.kept (grown_drew (World.grownBy.refl _ _)) | exact m.kept (grown_drewN (World.grownBy.refl _ _) _)
  | .node k l rt, ok, rs => by
    have q := row_node rs
    exact tmeets_step ns A n c r FA fn fc hB a b hn k l rt ok rs hlen (TMeetsI_any ns A n c r FA fn fc hB a b hn hlen l (parts_of ok).okl q.1) (TMeetsI_any ns A n c r FA fn fc hB a b hn hlen rt (parts_of ok).okr q.2.1)

end Go.Proofs.Ytgfehlmiejnonaa
