/-
  Rows of elements of several cells each (structs): read, appended to, of the call's own. No condition.
-/
import Derived.Test.YtgfehlmiejnonaaInts
set_option maxRecDepth 20000
namespace Go.Proofs.Ytgfehlmiejnonaa
open Go.RowKit

/-- A make of elements: how one lies in cells, and the two type numbers. -/
structure Elt (α : Type) where
  z : α
  enc : α → List Value
  T : TypeId
  L : TypeId
  size : Nat
  bytes : Nat
  len : ∀ a, (enc a).length = size
  one : ∀ a, ∀ u ∈ enc a, u.oneCell' = true
  pos : 0 < size
  und : Try.prog.underlying L = some (.slice T)
  info : (Try.prog.info? T).map (fun i => (i.zero.map (fun v => v.cells.size), i.size, i.bytes)) = some (some size, size, bytes)

def Elt.flat {α : Type} (E : Elt α) (xs : List α) : List Value := xs.flatMap E.enc

theorem Elt.flat_len {α : Type} (E : Elt α) (xs : List α) : (E.flat xs).length = xs.length * E.size := by
  induction xs with
  | nil => simp [Elt.flat]
  | cons a xs ih =>
    have h : E.flat (a :: xs) = E.enc a ++ E.flat xs := List.flatMap_cons
    rw [h, List.length_append, ih, E.len, List.length_cons, Nat.add_mul, Nat.one_mul, Nat.add_comm]

theorem Elt.flat_app {α : Type} (E : Elt α) (xs ys : List α) : E.flat (xs ++ ys) = E.flat xs ++ E.flat ys := List.flatMap_append

theorem Elt.flat_one {α : Type} (E : Elt α) (xs : List α) : ∀ u ∈ E.flat xs, u.oneCell' = true := by
  intro u hu
  obtain ⟨a, _, ha⟩ := List.mem_flatMap.1 hu
  exact E.one a u ha

theorem Elt.flat_get {α : Type} (E : Elt α) (xs : List α) (i j : Nat) (hj : j < E.size) : (E.flat xs)[i * E.size + j]? = (xs[i]?).bind fun a => (E.enc a)[j]? := by
  induction xs generalizing i with
  | nil => simp [Elt.flat]
  | cons a xs ih =>
    have h : E.flat (a :: xs) = E.enc a ++ E.flat xs := List.flatMap_cons
    rw [h]
    cases i with
    | zero =>
      rw [Nat.zero_mul, Nat.zero_add, List.getElem?_append_left (by rw [E.len]; exact hj)]
      rfl
    | succ i =>
      have e : (i + 1) * E.size + j = E.size + (i * E.size + j) := by rw [Nat.add_mul, Nat.one_mul]; omega
      rw [e, List.getElem?_append_right (by rw [E.len]; omega), E.len, Nat.add_sub_cancel_left, ih]
      rfl

structure Elts {α : Type} (E : Elt α) (w : World) (B : Nat) (A : Option Addr) (n : Nat) (xs : List α) : Prop where
  len : xs.length = n
  small : n ≤ 9223372036854775807
  at_ : 0 < n → ∃ b off, A = some ⟨b, off, none⟩ ∧ b < B ∧ ∀ i, i < n → ∀ j v, (E.enc (xs[i]?.getD E.z))[j]? = some v → w.cell? ⟨b, off + (i * E.size + j), none⟩ = some v

theorem Elts.keep {α : Type} {E : Elt α} {w w' : World} {B : Nat} {A : Option Addr} {n : Nat} {xs : List α} (h : Elts E w B A n xs) (k : ∀ p : Addr, p.block < B → w'.cell? p = w.cell? p) : Elts E w' B A n xs :=
  ⟨h.len, h.small, fun hn => by
    obtain ⟨b, off, hA, hb, hc⟩ := h.at_ hn
    exact ⟨b, off, hA, hb, fun i hi j v hv => (k _ hb).trans (hc i hi j v hv)⟩⟩

theorem Elts.wide {α : Type} {E : Elt α} {w : World} {B B' : Nat} {A : Option Addr} {n : Nat} {xs : List α} (h : Elts E w B A n xs) (k : B ≤ B') : Elts E w B' A n xs :=
  ⟨h.len, h.small, fun hn => by
    obtain ⟨b, off, hA, hb, hc⟩ := h.at_ hn
    exact ⟨b, off, hA, by omega, hc⟩⟩

theorem Elts.below {α : Type} {E : Elt α} {w w' : World} {B : Nat} {A : Option Addr} {n : Nat} {xs : List α} (h : Elts E w B A n xs) (k : Below B w w') : Elts E w' B A n xs := h.keep fun _ hp => k.cell hp

theorem Elts.drewN {α : Type} {E : Elt α} {w : World} {B : Nat} {A : Option Addr} {n : Nat} {xs : List α} (h : Elts E w B A n xs) (k : Nat) : Elts E (w.drewN k) B A n xs := h.keep fun _ _ => rfl

theorem grown_cell {w w' : World} {row : Option Nat} (h : w.grownBy w' row) {p : Addr} (hp : p.block < w.heap.size) (hr : row ≠ some p.block) : w'.cell? p = w.cell? p := by
  have hh := h.block p.block hp (fun e => hr e.symm)
  simp only [World.cell?, hh]

theorem Elts.grown {α : Type} {E : Elt α} {w w' : World} {B : Nat} {A : Option Addr} {n : Nat} {xs : List α} (h : Elts E w B A n xs) (hB : B ≤ w.heap.size) (k : w.grownBy w' none) : Elts E w' B A n xs :=
  h.keep fun _ hp => grown_cell k (by omega) (by simp)

theorem Row.grown {w w' : World} {B : Nat} {A : Option Addr} {n : Nat} {xs : List Int} (h : Row w B A n xs) (hB : B ≤ w.heap.size) (k : w.grownBy w' none) : Row w' B A n xs :=
  h.keep fun _ hp => grown_cell k (by omega) (by simp)

/-- A row of the call's own. -/
def MineE {α : Type} (E : Elt α) (w : World) (base : Nat) (v : Value) (n : Nat) (xs : List α) : Prop := w.ownsRow base E.T E.size v n (E.flat xs)

theorem MineE.nil {α : Type} (E : Elt α) (w : World) (base : Nat) : MineE E w base (.slice none 0 0) 0 [] := ⟨by simp [Elt.flat], .inl ⟨rfl, rfl⟩⟩

theorem MineE.lit {α : Type} {E : Elt α} {w : World} {base g : Nat} {vs : Array Value} (xs : List α) (n : Nat) (hg : g = w.heap.size) (hv : vs = (E.flat xs).toArray) (hn : n = xs.length) (hb : base ≤ w.heap.size) (hl : xs.length ≤ 1000) :
    MineE E (w.alloc (.cells vs E.T)) base (.slice (some ⟨g, 0, none⟩) n n) n xs := by
  subst hg hv hn
  have h := World.ownsRow_lit (base := base) (e := E.T) (size := E.size) w (E.flat xs).toArray xs.length hb (by unfold maxLen; omega) (by simp [E.flat_len])
  simpa [MineE] using h

theorem MineE.length {α : Type} {E : Elt α} {w : World} {base : Nat} {v : Value} {n : Nat} {xs : List α} (h : MineE E w base v n xs) : xs.length = n := by
  have := h.1
  rw [E.flat_len] at this
  exact Nat.eq_of_mul_eq_mul_right E.pos this

theorem MineE.row {α : Type} {E : Elt α} {w : World} {base : Nat} {v : Value} {n : Nat} {xs : List α} (h : MineE E w base v n xs) : ∃ A c, v = .slice A n c ∧ n ≤ c ∧ (A = none → c = 0) ∧ Elts E w w.heap.size A n xs := by
  have hl := h.length
  obtain ⟨_, h2⟩ := h
  rcases h2 with ⟨rfl, rfl⟩ | ⟨g, cap, cur, rfl, _, hh, hnc, hm, hsz, htk⟩
  · exact ⟨none, 0, rfl, Nat.le_refl _, fun _ => rfl, hl, by omega, fun k => absurd k (by omega)⟩
  · refine ⟨some ⟨g, 0, none⟩, cap, rfl, hnc, by simp, hl, by unfold maxLen at hm; omega, fun _ => ⟨g, 0, rfl, ?_, fun i hi j v hv => ?_⟩⟩
    · exact (Array.getElem?_eq_some_iff.1 hh).1
    · have hj : j < E.size := by
        rcases Nat.lt_or_ge j E.size with k | k
        · exact k
        · rw [List.getElem?_eq_none (by rw [E.len]; exact k)] at hv; cases hv
      have hx : xs[i]? = some (xs[i]?.getD E.z) := by
        rw [List.getElem?_eq_getElem (by omega)]; rfl
      have hk : i * E.size + j < n * E.size := by
        have := Nat.mul_le_mul_right E.size (show i + 1 ≤ n by omega)
        rw [Nat.add_mul, Nat.one_mul] at this
        omega
      have hg := E.flat_get xs i j hj
      rw [hx] at hg
      have := cell_of_row w g (i * E.size + j) cur E.T (0, 0) hh
      rw [Nat.zero_add, this]
      rw [← htk, List.getElem?_take_of_lt hk, Array.getElem?_toList] at hg
      rw [hg]
      exact hv

theorem MineE.shape {α : Type} {E : Elt α} {w : World} {base : Nat} {v : Value} {n : Nat} {xs : List α} (h : MineE E w base v n xs) (hn : 0 < n) :
    ∃ g c, v = .slice (some ⟨g, 0, none⟩) n c ∧ n ≤ c ∧ base ≤ g ∧ Elts E w w.heap.size (some ⟨g, 0, none⟩) n xs := by
  obtain ⟨A, c, hv, hc, _, hr⟩ := h.row
  rcases h.2 with ⟨rfl, _⟩ | ⟨g, cap, cur, rfl, hb, _⟩
  · omega
  · injection hv with e1 e2 e3
    subst e1 e3
    exact ⟨g, cap, rfl, hc, hb, hr⟩

theorem MineE.own_ge {α : Type} {E : Elt α} {w : World} {base : Nat} {v : Value} {n : Nat} {xs : List α} (h : MineE E w base v n xs) : ∀ k, v.ownBlock = some k → base ≤ k := by
  intro k hk
  rcases h.2 with ⟨rfl, _⟩ | ⟨g, cap, cur, rfl, hb, _⟩
  · simp [Value.ownBlock] at hk
  · simp only [Value.ownBlock, Option.some.injEq] at hk
    omega

theorem MineE.wide {α : Type} {E : Elt α} {w : World} {base b : Nat} {v : Value} {n : Nat} {xs : List α} (h : MineE E w base v n xs) (hb : b ≤ base) : MineE E w b v n xs := by
  obtain ⟨h1, h2⟩ := h
  refine ⟨h1, ?_⟩
  rcases h2 with h | ⟨g, cap, cur, hv, hg, r⟩
  · exact .inl h
  · exact .inr ⟨g, cap, cur, hv, by omega, r⟩

theorem MineE.kept {α : Type} {E : Elt α} {w w' : World} {base : Nat} {v : Value} {n : Nat} {xs : List α} (h : MineE E w base v n xs) (k : w.grownBy w' none) : MineE E w' base v n xs := by
  obtain ⟨h1, h2⟩ := h
  refine ⟨h1, ?_⟩
  rcases h2 with h | ⟨g, cap, cur, hv, hg, hh, r⟩
  · exact .inl h
  · exact .inr ⟨g, cap, cur, hv, hg, (k.block g (Array.getElem?_eq_some_iff.1 hh).1 (by simp)).trans hh, r⟩

theorem Mine.kept {w w' : World} {base : Nat} {v : Value} {n : Nat} {xs : List Int} (h : Mine w base v n xs) (k : w.grownBy w' none) : Mine w' base v n xs := by
  obtain ⟨h1, h2⟩ := h
  refine ⟨h1, ?_⟩
  rcases h2 with h | ⟨g, cap, cur, hv, hg, hh, r⟩
  · exact .inl h
  · exact .inr ⟨g, cap, cur, hv, hg, (k.block g (Array.getElem?_eq_some_iff.1 hh).1 (by simp)).trans hh, r⟩

theorem Mine.nil (w : World) (base : Nat) : Mine w base (.slice none 0 0) 0 [] := ⟨by simp [ints], .inl ⟨rfl, rfl⟩⟩

theorem Elt.info' {α : Type} (E : Elt α) : ∃ i z, Try.prog.info? E.T = some i ∧ i.zero = some z ∧ i.size = E.size ∧ i.bytes = E.bytes ∧ z.cells.size = E.size := by
  have h := E.info
  cases hi : Try.prog.info? E.T with
  | none => rw [hi] at h; cases h
  | some i =>
    rw [hi] at h
    simp only [Option.map_some, Option.some.injEq, Prod.mk.injEq] at h
    obtain ⟨h1, h2, h3⟩ := h
    cases hz : i.zero with
    | none => rw [hz] at h1; cases h1
    | some z =>
      rw [hz] at h1
      simp only [Option.map_some, Option.some.injEq] at h1
      exact ⟨i, z, rfl, hz, h2, h3, h1⟩

theorem run_appE {α : Type} (E : Elt α) (w : World) (base ty : Nat) (v : Value) (n : Nat) (ys : List α) (hown : MineE E w base v n ys) {B : Nat} (A : Option Addr) (m c : Nat) (xs : List α) (hr : Elts E w B A m xs)
    (hnil : A = none → c = 0) (hmax : n + m ≤ maxLen) (hbytes : (n + m) * E.bytes ≤ 140737488355328) (hbase : base ≤ w.heap.size) :
    ∃ v' w', (Builtin.append_ #[E.L, E.L] ty #[v, .slice A m c]).run Try.prog w = .ok v' w' ∧ MineE E w' base v' (n + m) (ys ++ xs) ∧ w.grownBy w' v.ownBlock ∧ (v'.ownBlock = v.ownBlock ∨ v'.ownBlock = some w.heap.size) := by
  obtain ⟨i0, z0, hi, hz0, hz1, hz2, hz3⟩ := E.info'
  cases A with
  | none =>
    obtain rfl : c = 0 := hnil rfl
    have hm : m = 0 := by
      rcases Nat.eq_zero_or_pos m with h0 | h0
      · exact h0
      · obtain ⟨b, off, h, _⟩ := hr.at_ h0
        cases h
    subst hm
    have hx : xs = [] := List.eq_nil_of_length_eq_zero hr.len
    subst hx
    exact ⟨v, w, run_append_owned_none (P := Try.prog) w base E.L ty E.T i0 E.size E.und hi v n (E.flat ys) hown, by simpa [MineE] using hown, World.grownBy.refl w _, .inl rfl⟩
  | some ad =>
    have hcells : ∀ j u, (E.flat xs)[j]? = some u → w.cell? (ad.add j) = some u := by
      intro j u hu
      have hj : j < xs.length * E.size := by
        rcases Nat.lt_or_ge j (xs.length * E.size) with h | h
        · exact h
        · rw [List.getElem?_eq_none (by rw [E.flat_len]; exact h)] at hu; cases hu
      have hpos := E.pos
      obtain ⟨q, r, hr0, hq, rfl⟩ : ∃ q r, r < E.size ∧ q < xs.length ∧ j = q * E.size + r :=
        ⟨j / E.size, j % E.size, Nat.mod_lt _ hpos, Nat.div_lt_of_lt_mul (by rw [Nat.mul_comm]; exact hj), by rw [Nat.mul_comm]; exact (Nat.div_add_mod j E.size).symm⟩
      obtain ⟨b, off, h, _, hc⟩ := hr.at_ (by have := hr.len; omega)
      have h := Option.some.inj h
      subst h
      rw [E.flat_get xs _ _ hr0, List.getElem?_eq_getElem hq] at hu
      rw [add_at]
      refine hc _ (by have := hr.len; omega) _ _ ?_
      rw [List.getElem?_eq_getElem hq]
      exact hu
    obtain ⟨v', w', hrun, h2, h3, _, h5⟩ := run_append_own_at (P := Try.prog) w base E.L ty E.T i0 z0 E.size E.bytes E.und hi hz0 hz1 hz2 hz3 E.pos v n (E.flat ys) hown ad m c (E.flat xs)
      (by rw [E.flat_len, hr.len]) hcells (E.flat_one xs) hmax hbytes hbase
    exact ⟨v', w', hrun, by unfold MineE; rw [E.flat_app]; exact h2, h3, h5⟩

theorem wpList_appE {α : Type} (E : Elt α) {ops : Array Oper} {rest : List Oper} {o : Oper} {a : Act} {Q : Exit → Act → World → Prop} (w : World) (hgd : o.guard = none) (s x : Operand)
    (ho : o.op = .call { callee := .builtin .append, args := #[s, x], argTypes := #[E.L, E.L] }) (base : Nat) (v : Value) (n : Nat) (ys : List α) (hs : a.eval s = v) (hown : MineE E w base v n ys)
    {B : Nat} (A : Option Addr) (m c : Nat) (xs : List α) (hx : a.eval x = .slice A m c) (hr : Elts E w B A m xs) (hnil : A = none → c = 0) (hmax : n + m ≤ maxLen) (hbytes : (n + m) * E.bytes ≤ 140737488355328) (hbase : base ≤ w.heap.size)
    (h : ∀ v' w', MineE E w' base v' (n + m) (ys ++ xs) → w.grownBy w' v.ownBlock → (v'.ownBlock = v.ownBlock ∨ v'.ownBlock = some w.heap.size) → wpList Try.prog ops Q rest (a.put o.dst v') w') : wpList Try.prog ops Q (o :: rest) a w := by
  refine wpList_plain hgd fun K hK => ?_
  obtain ⟨v', w', hrun, h2, h3, h4⟩ := run_appE E w base o.type v n ys hown A m c xs hr hnil hmax hbytes hbase
  unfold Oper.wp execOp
  simp only [ho, resolve, invoke, builtin, Sem.run_bind, Sem.run_pure, Result.andThen_ok, List.map_toArray, List.map_cons, List.map_nil, hs, hx, hrun]
  exact hK _ _ (h v' w' h2 h3 h4)

/-- A literal of elements, read as a row. -/
theorem Elts.lit {α : Type} {E : Elt α} {w : World} {g n : Nat} {vs : Array Value} (xs : List α) (hg : g = w.heap.size) (hn : n = xs.length) (hv : vs = (E.flat xs).toArray) (hl : xs.length ≤ 1000) :
    Elts E (w.alloc (.cells vs E.T)) (g + 1) (some ⟨g, 0, none⟩) n xs := by
  have h := MineE.lit (E := E) (w := w) (base := 0) xs n hg hv hn (Nat.zero_le _) hl
  obtain ⟨A, c, hv', _, _, hr⟩ := h.row
  injection hv' with e1 e2 e3
  subst e1 hg
  have : (w.alloc (.cells vs E.T)).heap.size = w.heap.size + 1 := by simp
  rw [this] at hr
  exact hr

end Go.Proofs.Ytgfehlmiejnonaa
