/-
  Walks, as numbers: the links of a walk, the vertices that it comes to, what is left without loops. No program here.
-/
import Derived.Test.YtppcncblmakekaaMathArcs
set_option maxRecDepth 20000
namespace Go.Proofs.Ytppcncblmakekaa

def linkB (n : Nat) (l : Int) : Bool := decide (0 ≤ l) && decide (l < (n : Int))
def allL (n : Nat) (xs : List Int) : Bool := xs.all (linkB n)
def frm (L : List Lk) (l : Int) : Int := (at3 L l.toNat).1
def tow (L : List Lk) (l : Int) : Int := (at3 L l.toNat).2.1
def chain (L : List Lk) : Int → List Int → Bool
  | _, [] => true
  | s, x :: r => frm L x == s && chain L (tow L x) r
def endOf (L : List Lk) : Int → List Int → Int
  | s, [] => s
  | _, x :: r => endOf L (tow L x) r
def vsOf (L : List Lk) (s : Int) (xs : List Int) : List Int := s :: xs.map (tow L)
def formW (V : Int) (L : List Lk) (s : Int) (xs : List Int) : Bool := mayG V L && isV V s && decide (xs.length ≤ 64) && allL L.length xs
def goesW (V : Int) (L : List Lk) (s : Int) (xs : List Int) : Bool := formW V L s xs && chain L s xs
def walkE (V : Int) (L : List Lk) (s : Int) (xs : List Int) : Int := if formW V L s xs then (if chain L s xs then 0 else 601) else 600
def walkV (V : Int) (L : List Lk) (s : Int) (xs : List Int) : List Int := if goesW V L s xs then vsOf L s xs else []
def noDup (xs : List Int) : Bool := decide xs.Nodup
def mayP (V : Int) (L : List Lk) (s d : Int) (xs : List Int) : Bool := goesW V L s xs && !xs.isEmpty && ((vsOf L s xs)[xs.length]?.getD 0 == d) && noDup (vsOf L s xs)

def idx (x : Int) : List Int → Option Nat
  | [] => none
  | y :: r => if y = x then some 0 else (idx x r).map (· + 1)
def idxV (x : Int) (xs : List Int) : Int := match idx x xs with | some k => (k : Int) | none => -1

def stepS (L : List Lk) (s : Int) (kept : List Int) (l : Int) : List Int := match idx (tow L l) (vsOf L s kept) with | some i => kept.take i | none => kept ++ [l]
def simK (L : List Lk) (s : Int) (xs : List Int) : List Int := xs.foldl (stepS L s) []
def simV (V : Int) (L : List Lk) (s : Int) (xs : List Int) : List Int := if goesW V L s xs then simK L s xs else []

theorem walk_form {V : Int} {L : List Lk} {s : Int} {xs : List Int} (h : formW V L s xs = false) : walkE V L s xs = 600 ∧ walkV V L s xs = [] ∧ simV V L s xs = [] := by simp [walkE, walkV, simV, goesW, h]
theorem walk_broken {V : Int} {L : List Lk} {s : Int} {xs : List Int} (h : formW V L s xs = true) (k : chain L s xs = false) : walkE V L s xs = 601 ∧ walkV V L s xs = [] ∧ simV V L s xs = [] := by simp [walkE, walkV, simV, goesW, h, k]
theorem walk_goes {V : Int} {L : List Lk} {s : Int} {xs : List Int} (h : formW V L s xs = true) (k : chain L s xs = true) : walkE V L s xs = 0 ∧ walkV V L s xs = vsOf L s xs ∧ simV V L s xs = simK L s xs := by simp [walkE, walkV, simV, goesW, h, k]

theorem walk_ok {V : Int} {L : List Lk} {s : Int} {xs : List Int} (h : goesW V L s xs = true) : walkE V L s xs = 0 ∧ walkV V L s xs = vsOf L s xs ∧ simV V L s xs = simK L s xs := by
  simp only [goesW, Bool.and_eq_true] at h
  exact walk_goes h.1 h.2

theorem walk_no {V : Int} {L : List Lk} {s : Int} {xs : List Int} (h : goesW V L s xs = false) : (walkE V L s xs = 600 ∨ walkE V L s xs = 601) ∧ walkV V L s xs = [] ∧ simV V L s xs = [] := by
  cases hf : formW V L s xs
  · exact ⟨.inl (walk_form hf).1, (walk_form hf).2⟩
  · cases hc : chain L s xs
    · exact ⟨.inr (walk_broken hf hc).1, (walk_broken hf hc).2⟩
    · simp [goesW, hf, hc] at h

theorem goes_parts {V : Int} {L : List Lk} {s : Int} {xs : List Int} (h : goesW V L s xs = true) : mayG V L = true ∧ (0 ≤ s ∧ s < V) ∧ xs.length ≤ 64 ∧ allL L.length xs = true ∧ chain L s xs = true := by
  simp only [goesW, formW, isV, Bool.and_eq_true, decide_eq_true_eq] at h
  obtain ⟨⟨⟨⟨a, b⟩, c⟩, d⟩, e⟩ := h
  exact ⟨a, b, c, d, e⟩

theorem goes_mk {V : Int} {L : List Lk} {s : Int} {xs : List Int} (a : mayG V L = true) (b : 0 ≤ s ∧ s < V) (c : xs.length ≤ 64) (d : allL L.length xs = true) (e : chain L s xs = true) : goesW V L s xs = true := by
  simp [goesW, formW, isV, a, b.1, b.2, c, d, e]

theorem allL_get {n : Nat} {xs : List Int} (h : allL n xs = true) {i : Nat} (hi : i < xs.length) : ∃ j : Nat, j < n ∧ xs[i]?.getD 0 = (j : Int) := by
  have := List.all_eq_true.1 h _ (List.getElem_mem hi)
  simp only [linkB, Bool.and_eq_true, decide_eq_true_eq] at this
  rw [List.getElem?_eq_getElem hi, Option.getD_some]
  exact ⟨xs[i].toNat, by omega, by omega⟩

theorem take_next {xs : List Int} {i : Nat} (h : i < xs.length) : xs.take (i + 1) = xs.take i ++ [xs[i]?.getD 0] := by
  rw [List.take_add_one, List.getElem?_eq_getElem h]; rfl

theorem allL_step {n : Nat} {xs : List Int} {k : Nat} (h : k < xs.length) : allL n (xs.take (k + 1)) = (allL n (xs.take k) && linkB n (xs[k]?.getD 0)) := by
  rw [take_next h, allL, allL, List.all_append]
  simp

theorem allL_no {n : Nat} {xs : List Int} {k : Nat} (h : k < xs.length) (hk : linkB n (xs[k]?.getD 0) = false) : allL n xs = false := by
  rw [List.getElem?_eq_getElem h, Option.getD_some] at hk
  cases e : allL n xs
  · rfl
  · rw [List.all_eq_true.1 e _ (List.getElem_mem h)] at hk
    cases hk

theorem vsOf_len (L : List Lk) (s : Int) (xs : List Int) : (vsOf L s xs).length = xs.length + 1 := by simp [vsOf]

theorem vsOf_take (L : List Lk) (s : Int) (xs : List Int) (k : Nat) : vsOf L s (xs.take k) = (vsOf L s xs).take (k + 1) := by simp [vsOf, List.map_take]

theorem vsOf_app (L : List Lk) (s : Int) (xs : List Int) (l : Int) : vsOf L s (xs ++ [l]) = vsOf L s xs ++ [tow L l] := by simp [vsOf]

theorem vsOf_next (L : List Lk) (s : Int) {xs : List Int} {k : Nat} (h : k < xs.length) : vsOf L s (xs.take (k + 1)) = vsOf L s (xs.take k) ++ [tow L (xs[k]?.getD 0)] := by
  rw [take_next h, vsOf_app]

theorem chain_app (L : List Lk) : ∀ (a b : List Int) (s : Int), chain L s (a ++ b) = (chain L s a && chain L (endOf L s a) b)
  | [], b, s => by simp [chain, endOf]
  | x :: r, b, s => by simp [chain, endOf, chain_app L r b, Bool.and_assoc]

theorem end_app (L : List Lk) : ∀ (a b : List Int) (s : Int), endOf L s (a ++ b) = endOf L (endOf L s a) b
  | [], b, s => by simp [endOf]
  | x :: r, b, s => by simp [endOf, end_app L r b]

theorem end_at (L : List Lk) : ∀ (xs : List Int) (s : Int), (vsOf L s xs)[xs.length]?.getD 0 = endOf L s xs
  | [], s => by simp [vsOf, endOf]
  | x :: r, s => by have := end_at L r (tow L x); simpa [vsOf, endOf] using this

theorem end_take (L : List Lk) (s : Int) {xs : List Int} {k : Nat} (h : k ≤ xs.length) : endOf L s (xs.take k) = (vsOf L s xs)[k]?.getD 0 := by
  rw [← end_at, vsOf_take, List.length_take, Nat.min_eq_left h, List.getElem?_take_of_lt (by omega)]

theorem chain_take {L : List Lk} {s : Int} {xs : List Int} (h : chain L s xs = true) (k : Nat) : chain L s (xs.take k) = true := by
  rw [← List.take_append_drop k xs, chain_app, Bool.and_eq_true] at h
  exact h.1

theorem chain_step {L : List Lk} {s : Int} {xs : List Int} {k : Nat} (h : k < xs.length) (hc : chain L s (xs.take k) = true) (hf : frm L (xs[k]?.getD 0) = (vsOf L s (xs.take k))[k]?.getD 0) : chain L s (xs.take (k + 1)) = true := by
  have e := end_at L (xs.take k) s
  rw [List.length_take, Nat.min_eq_left (by omega)] at e
  rw [take_next h, chain_app, hc]
  simp [chain, hf, e]

theorem chain_stop {L : List Lk} {s : Int} {xs : List Int} {k : Nat} (h : k < xs.length) (hf : ¬ frm L (xs[k]?.getD 0) = (vsOf L s (xs.take k))[k]?.getD 0) : chain L s xs = false := by
  cases hc : chain L s xs
  · rfl
  · have h1 := chain_take hc (k + 1)
    have e := end_at L (xs.take k) s
    rw [List.length_take, Nat.min_eq_left (by omega)] at e
    rw [take_next h, chain_app] at h1
    simp only [chain, Bool.and_true, Bool.and_eq_true, beq_iff_eq] at h1
    exact absurd (h1.2.trans e.symm) hf

theorem idx_mem {x : Int} : ∀ {xs : List Int}, (idx x xs).isSome = decide (x ∈ xs)
  | [] => by simp [idx]
  | y :: r => by
    by_cases h : y = x
    · simp [idx, h]
    · have h' : ¬ x = y := fun e => h e.symm
      simp [idx, h, h', idx_mem (xs := r)]

theorem idx_none {x : Int} {xs : List Int} : idx x xs = none ↔ x ∉ xs := by
  have h := idx_mem (x := x) (xs := xs)
  cases e : idx x xs
  · simp [e] at h; simp [h]
  · simp [e] at h; simp [h]

theorem idx_of {x : Int} : ∀ {xs : List Int} {k : Nat}, k < xs.length → xs[k]?.getD 0 = x → (∀ j, j < k → ¬ xs[j]?.getD 0 = x) → idx x xs = some k
  | [], _, h, _, _ => absurd h (by simp)
  | y :: r, 0, _, e, _ => by simp at e; simp [idx, e]
  | y :: r, k + 1, h, e, n => by
    have h0 := n 0 (by omega)
    simp at h0
    rw [idx, if_neg h0, idx_of (xs := r) (k := k) (by simpa using h) (by simpa using e) (fun j hj => by have := n (j + 1) (by omega); simpa using this)]
    rfl

theorem idx_some {x : Int} : ∀ {xs : List Int} {k : Nat}, idx x xs = some k → k < xs.length ∧ xs[k]?.getD 0 = x
  | [], _, h => by simp [idx] at h
  | y :: r, k, h => by
    rw [idx] at h
    by_cases e : y = x
    · rw [if_pos e] at h
      injection h with h
      subst h
      simp [e]
    · rw [if_neg e] at h
      cases hr : idx x r with
      | none => rw [hr] at h; cases h
      | some j =>
        rw [hr] at h
        injection h with h
        subst h
        obtain ⟨a, b⟩ := idx_some hr
        exact ⟨by simpa using a, by simpa using b⟩

theorem not_mem_of {x : Int} {xs : List Int} (h : ∀ j, j < xs.length → ¬ xs[j]?.getD 0 = x) : x ∉ xs := by
  intro hx
  obtain ⟨i, hi, e⟩ := List.getElem_of_mem hx
  exact h i hi (by rw [List.getElem?_eq_getElem hi]; exact e)

theorem idxV_none {x : Int} {xs : List Int} (h : ∀ j, j < xs.length → ¬ xs[j]?.getD 0 = x) : idxV x xs = -1 := by
  rw [idxV, idx_none.2 (not_mem_of h)]

theorem idxV_some {x : Int} {xs : List Int} {k : Nat} (hk : k < xs.length) (e : xs[k]?.getD 0 = x) (h : ∀ j, j < k → ¬ xs[j]?.getD 0 = x) : idxV x xs = (k : Int) := by
  rw [idxV, idx_of hk e h]

theorem idxV_ge (x : Int) (xs : List Int) : decide (0 ≤ idxV x xs) = decide (x ∈ xs) := by
  rw [← idx_mem (x := x) (xs := xs), idxV]
  cases idx x xs <;> simp

theorem nodup_step {xs : List Int} {k : Nat} (h : k < xs.length) : noDup (xs.take (k + 1)) = (noDup (xs.take k) && !decide (xs[k]?.getD 0 ∈ xs.take k)) := by
  rw [take_next h, noDup, noDup, Bool.eq_iff_iff]
  simp only [decide_eq_true_eq, Bool.and_eq_true, Bool.not_eq_true', decide_eq_false_iff_not, List.nodup_append, List.mem_singleton]
  constructor
  · rintro ⟨a, _, b⟩
    exact ⟨a, fun hm => b _ hm _ rfl rfl⟩
  · rintro ⟨a, b⟩
    exact ⟨a, by simp, fun y hy z hz e => b (hz ▸ e ▸ hy)⟩

theorem nodup_stop {xs : List Int} {k : Nat} (h : k < xs.length) (hm : xs[k]?.getD 0 ∈ xs.take k) : noDup xs = false := by
  cases e : noDup xs
  · rfl
  · have h1 : noDup (xs.take (k + 1)) = true := by
      simp only [noDup, decide_eq_true_eq] at e ⊢
      exact e.sublist (List.take_sublist _ _)
    rw [nodup_step h] at h1
    simp [hm] at h1

theorem mem_take_of {xs : List Int} {i j : Nat} (hj : j < i) (hi : i ≤ xs.length) : xs[j]?.getD 0 ∈ xs.take i := by
  rw [List.getElem?_eq_getElem (by omega), Option.getD_some]
  exact List.mem_iff_getElem.2 ⟨j, by simp; omega, by simp⟩

/-- What is left of a walk: it goes from the same vertex to the same one, and comes to none twice. -/
structure Left (L : List Lk) (s : Int) (kept : List Int) (cur : Int) : Prop where
  ch : chain L s kept = true
  en : endOf L s kept = cur
  nd : (vsOf L s kept).Nodup

theorem step_some {L : List Lk} {s l : Int} {kept : List Int} {i : Nat} (h : idx (tow L l) (vsOf L s kept) = some i) : stepS L s kept l = kept.take i := by rw [stepS, h]
theorem step_none {L : List Lk} {s l : Int} {kept : List Int} (h : idx (tow L l) (vsOf L s kept) = none) : stepS L s kept l = kept ++ [l] := by rw [stepS, h]

theorem Left.step {L : List Lk} {s cur l : Int} {kept : List Int} (h : Left L s kept cur) (hf : frm L l = cur) : Left L s (stepS L s kept l) (tow L l) := by
  cases hi : idx (tow L l) (vsOf L s kept) with
  | some i =>
    rw [step_some hi]
    obtain ⟨a, b⟩ := idx_some hi
    rw [vsOf_len] at a
    refine ⟨chain_take h.ch i, ?_, ?_⟩
    · rw [end_take L s (by omega), b]
    · rw [vsOf_take]; exact h.nd.sublist (List.take_sublist _ _)
  | none =>
    rw [step_none hi]
    refine ⟨?_, ?_, ?_⟩
    · rw [chain_app, h.ch, h.en]; simp [chain, hf]
    · rw [end_app]; simp [endOf]
    · rw [vsOf_app, List.nodup_append]
      exact ⟨h.nd, by simp, fun y hy z hz e => idx_none.1 hi (by simp at hz; rw [← hz, ← e]; exact hy)⟩

theorem Left.fold {L : List Lk} {s : Int} : ∀ (xs kept : List Int) (cur : Int), Left L s kept cur → chain L cur xs = true → Left L s (xs.foldl (stepS L s) kept) (endOf L cur xs)
  | [], kept, cur, h, _ => h
  | x :: r, kept, cur, h, hc => by
    simp only [chain, Bool.and_eq_true, beq_iff_eq] at hc
    exact Left.fold r _ _ (h.step hc.1) hc.2

theorem left_of {L : List Lk} {s : Int} {xs : List Int} (h : chain L s xs = true) : Left L s (simK L s xs) (endOf L s xs) := Left.fold xs [] s ⟨rfl, rfl, by simp [vsOf]⟩ h

theorem step_mem {L : List Lk} {s l : Int} {kept : List Int} {x : Int} (h : x ∈ stepS L s kept l) : x ∈ kept ∨ x = l := by
  cases hi : idx (tow L l) (vsOf L s kept) with
  | some i => rw [step_some hi] at h; exact .inl (List.mem_of_mem_take h)
  | none => rw [step_none hi] at h; simpa using h

theorem fold_mem {L : List Lk} {s : Int} : ∀ (xs kept : List Int) (x : Int), x ∈ xs.foldl (stepS L s) kept → x ∈ kept ∨ x ∈ xs
  | [], kept, x, h => .inl h
  | y :: r, kept, x, h => by
    rcases fold_mem r _ x h with h | h
    · rcases step_mem h with h | h
      · exact .inl h
      · exact .inr (by simp [h])
    · exact .inr (by simp [h])

theorem sim_mem {L : List Lk} {s : Int} {xs : List Int} {x : Int} (h : x ∈ simK L s xs) : x ∈ xs := by
  rcases fold_mem xs [] x h with h | h
  · simp at h
  · exact h

theorem step_len (L : List Lk) (s l : Int) (kept : List Int) : (stepS L s kept l).length ≤ kept.length + 1 := by
  cases hi : idx (tow L l) (vsOf L s kept) with
  | some i => rw [step_some hi, List.length_take]; omega
  | none => rw [step_none hi]; simp

theorem fold_len (L : List Lk) (s : Int) : ∀ (xs kept : List Int), (xs.foldl (stepS L s) kept).length ≤ kept.length + xs.length
  | [], kept => by simp
  | y :: r, kept => by
    have := fold_len L s r (stepS L s kept y)
    have := step_len L s y kept
    simp only [List.foldl_cons, List.length_cons]
    omega

theorem sim_len (L : List Lk) (s : Int) (xs : List Int) : (simK L s xs).length ≤ xs.length := by
  have := fold_len L s xs []
  simpa [simK] using this

theorem sim_step (L : List Lk) (s : Int) {xs : List Int} {k : Nat} (h : k < xs.length) : simK L s (xs.take (k + 1)) = stepS L s (simK L s (xs.take k)) (xs[k]?.getD 0) := by
  rw [take_next h, simK, simK, List.foldl_append]
  rfl

theorem sim_same {L : List Lk} {s : Int} {xs : List Int} (h : (vsOf L s xs).Nodup) : ∀ k, k ≤ xs.length → simK L s (xs.take k) = xs.take k
  | 0, _ => by simp [simK]
  | k + 1, hk => by
    rw [sim_step L s (by omega), sim_same h k (by omega)]
    have hn : idx (tow L (xs[k]?.getD 0)) (vsOf L s (xs.take k)) = none := by
      rw [idx_none]
      have h1 : (vsOf L s (xs.take (k + 1))).Nodup := by rw [vsOf_take]; exact h.sublist (List.take_sublist _ _)
      rw [vsOf_next L s (by omega), List.nodup_append] at h1
      exact fun hm => h1.2.2 _ hm _ (by simp) rfl
    rw [step_none hn, ← take_next (by omega)]

theorem allL_mem {n : Nat} {xs ys : List Int} (h : allL n xs = true) (k : ∀ x ∈ ys, x ∈ xs) : allL n ys = true :=
  List.all_eq_true.2 fun x hx => List.all_eq_true.1 h x (k x hx)

theorem sim_goes {V : Int} {L : List Lk} {s : Int} {xs : List Int} (h : goesW V L s xs = true) :
    goesW V L s (simK L s xs) = true ∧ (vsOf L s (simK L s xs)).Nodup ∧ endOf L s (simK L s xs) = endOf L s xs ∧ simK L s (simK L s xs) = simK L s xs := by
  obtain ⟨a, b, c, d, e⟩ := goes_parts h
  have l := left_of e
  refine ⟨goes_mk a b (by have := sim_len L s xs; omega) (allL_mem d fun x hx => sim_mem hx) l.ch, l.nd, l.en, ?_⟩
  have := sim_same l.nd _ (Nat.le_refl _)
  simpa using this

theorem tow_in {V : Int} {L : List Lk} (h : mayG V L = true) {x : Int} (hx : linkB L.length x = true) : 0 ≤ tow L x ∧ tow L x < V := by
  simp only [linkB, Bool.and_eq_true, decide_eq_true_eq] at hx
  have := may_joins h (i := x.toNat) (by omega)
  exact ⟨this.2.2.1, this.2.2.2.1⟩

theorem end_in {V : Int} {L : List Lk} (h : mayG V L = true) : ∀ (xs : List Int) (s : Int), allL L.length xs = true → (0 ≤ s ∧ s < V) → 0 ≤ endOf L s xs ∧ endOf L s xs < V
  | [], s, _, hs => hs
  | x :: r, s, ha, hs => by
    simp only [allL, List.all_cons, Bool.and_eq_true] at ha
    exact end_in h r _ ha.2 (tow_in h ha.1)

theorem vs_in {V : Int} {L : List Lk} (h : mayG V L = true) {xs : List Int} {s : Int} (ha : allL L.length xs = true) (hs : 0 ≤ s ∧ s < V) : ∀ x ∈ vsOf L s xs, 0 ≤ x ∧ x < V := by
  intro x hx
  rcases List.mem_cons.1 hx with rfl | hx
  · exact hs
  · obtain ⟨y, hy, rfl⟩ := List.mem_map.1 hx
    exact tow_in h (List.all_eq_true.1 ha y hy)

theorem get_in {xs : List Int} {lo hi : Int} (h : ∀ x ∈ xs, lo ≤ x ∧ x ≤ hi) (h0 : lo ≤ 0 ∧ 0 ≤ hi) (i : Nat) : lo ≤ xs[i]?.getD 0 ∧ xs[i]?.getD 0 ≤ hi := by
  rcases Nat.lt_or_ge i xs.length with k | k
  · rw [List.getElem?_eq_getElem k, Option.getD_some]; exact h _ (List.getElem_mem k)
  · rw [List.getElem?_eq_none k]; exact h0

theorem walkV_ok (V : Int) (L : List Lk) (s : Int) (xs : List Int) (i : Nat) : -9223372036854775808 ≤ (walkV V L s xs)[i]?.getD 0 ∧ (walkV V L s xs)[i]?.getD 0 ≤ 9223372036854775807 := by
  cases h : goesW V L s xs
  · rw [(walk_no h).2.1]; simp
  · rw [(walk_ok h).2.1]
    obtain ⟨a, b, c, d, e⟩ := goes_parts h
    have := may_small a
    exact get_in (fun x hx => by have := vs_in a d b x hx; omega) (by omega) i

theorem simV_ok (V : Int) (L : List Lk) (s : Int) (xs : List Int) (i : Nat) : -9223372036854775808 ≤ (simV V L s xs)[i]?.getD 0 ∧ (simV V L s xs)[i]?.getD 0 ≤ 9223372036854775807 := by
  cases h : goesW V L s xs
  · rw [(walk_no h).2.2]; simp
  · rw [(walk_ok h).2.2]
    obtain ⟨a, b, c, d, e⟩ := goes_parts h
    have := may_small a
    refine get_in (fun x hx => ?_) (by omega) i
    have := List.all_eq_true.1 d x (sim_mem hx)
    simp only [linkB, Bool.and_eq_true, decide_eq_true_eq] at this
    omega

end Go.Proofs.Ytppcncblmakekaa
