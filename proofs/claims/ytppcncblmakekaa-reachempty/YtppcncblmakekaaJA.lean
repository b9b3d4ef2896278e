/-
  The sum of a list of numbers. No program here. Cuts, as numbers: vertices on one side, the links that leave them, what these are worth. No program here. cut.areRising; the reference's Among. The reference's VertsMay. Walks, as numbers: the links of a walk, the vertices that it comes to, what is left without loops. No program here. slices.Index, slices.Contains, the reference's links and twice. cut.May and the reference's CutMay. cut.Leaving and the reference's. cut.Worth and the reference's. cut.Proves and the reference's.
-/
import Derived.Test.YtppcncblmakekaaMathCaps
import Derived.Test.YtppcncblmakekaaWithinA
import Derived.Test.YtppcncblmakekaaMathArcs
import Derived.Test.YtppcncblmakekaaWithinB
import Derived.Test.YtppcncblmakekaaOwnC
import Derived.Test.YtppcncblmakekaaOwnB

set_option maxRecDepth 20000
namespace Go.Proofs.Ytppcncblmakekaa

def isum : List Int → Int
  | [] => 0
  | x :: r => x + isum r

theorem isum_app (a b : List Int) : isum (a ++ b) = isum a + isum b := by
  induction a with
  | nil => simp [isum]
  | cons x r ih => simp only [List.cons_append, isum, ih]; omega
theorem isum_nonneg {xs : List Int} (h : ∀ x ∈ xs, 0 ≤ x) : 0 ≤ isum xs := by
  induction xs with
  | nil => simp [isum]
  | cons x r ih =>
    have := ih (fun y hy => h y (by simp [hy]))
    have := h x (by simp)
    simp only [isum]; omega

end Go.Proofs.Ytppcncblmakekaa

set_option maxRecDepth 20000
namespace Go.Proofs.Ytppcncblmakekaa

/-- The numbers below k that p takes. -/
def pick (p : Nat → Bool) (k : Nat) : List Int := ((List.range k).filter p).map fun i : Nat => (i : Int)

theorem pick_zero (p : Nat → Bool) : pick p 0 = [] := rfl
theorem pick_yes {p : Nat → Bool} {k : Nat} (h : p k = true) : pick p (k + 1) = pick p k ++ [(k : Int)] := by simp [pick, List.range_succ, List.filter_append, h]
theorem pick_no {p : Nat → Bool} {k : Nat} (h : p k = false) : pick p (k + 1) = pick p k := by simp [pick, List.range_succ, List.filter_append, h]
theorem pick_len (p : Nat → Bool) (k : Nat) : (pick p k).length ≤ k := by
  have := List.length_filter_le p (List.range k)
  simp only [pick, List.length_map]
  simpa using this
theorem pick_mem {p : Nat → Bool} {k : Nat} {x : Int} : x ∈ pick p k ↔ ∃ i : Nat, i < k ∧ p i = true ∧ x = (i : Int) := by
  simp only [pick, List.mem_map, List.mem_filter, List.mem_range]
  constructor
  · rintro ⟨i, ⟨a, b⟩, rfl⟩; exact ⟨i, a, b, rfl⟩
  · rintro ⟨i, a, b, rfl⟩; exact ⟨i, ⟨a, b⟩, rfl⟩
theorem pick_get {p : Nat → Bool} {k j : Nat} (h : j < (pick p k).length) : ∃ i : Nat, i < k ∧ p i = true ∧ (pick p k)[j]?.getD 0 = (i : Int) := by
  have := List.getElem_mem h
  obtain ⟨i, a, b, e⟩ := pick_mem.1 this
  exact ⟨i, a, b, by rw [List.getElem?_eq_getElem h, Option.getD_some]; exact e⟩
theorem pick_ok {p : Nat → Bool} {k : Nat} (hk : k ≤ 1000) : ∀ i : Nat, -9223372036854775808 ≤ (pick p k)[i]?.getD 0 ∧ (pick p k)[i]?.getD 0 ≤ 9223372036854775807 := by
  intro i
  by_cases h : i < (pick p k).length
  · obtain ⟨j, hj, _, e⟩ := pick_get h
    omega
  · rw [List.getElem?_eq_none (by omega)]
    simp
theorem pick_congr {p q : Nat → Bool} {k : Nat} (h : ∀ i, i < k → p i = q i) : pick p k = pick q k := by
  unfold pick
  rw [List.filter_congr fun i hi => h i (List.mem_range.1 hi)]
theorem pick_none {p : Nat → Bool} {k : Nat} (h : ∀ i, i < k → p i = false) : pick p k = [] := by
  rw [pick_congr (q := fun _ => false) h]
  simp [pick]
theorem pick_rise (p : Nat → Bool) (k : Nat) : (pick p k).Pairwise (· < ·) := by
  unfold pick
  rw [List.pairwise_map]
  refine (List.pairwise_lt_range.filter p).imp ?_
  intro a b h
  omega

def riseB (V : Int) (vs : List Int) (i : Nat) : Bool := isV V (vs[i]?.getD 0) && (decide (i = 0) || decide (vs[i - 1]?.getD 0 < vs[i]?.getD 0))
def vertsB (V : Int) (vs : List Int) : Bool := (List.range vs.length).all (riseB V vs)
def leaves (vs : List Int) (l : Lk) : Bool := decide (l.1 ∈ vs) && !decide (l.2.1 ∈ vs)
def lv (L : List Lk) (vs : List Int) (k : Nat) : List Int := pick (fun i => leaves vs (at3 L i)) k
def leavB (V : Int) (L : List Lk) (vs : List Int) : Bool := mayG V L && vertsB V vs
def leavV (V : Int) (L : List Lk) (vs : List Int) : List Int := if leavB V L vs then lv L vs L.length else []
def leavE (V : Int) (L : List Lk) (vs : List Int) : Int := if leavB V L vs then 0 else 800
def cutB (V : Int) (L : List Lk) (s t : Int) (vs : List Int) : Bool := leavB V L vs && decide (s ∈ vs) && isV V t && !decide (t ∈ vs)
def wk (L : List Lk) (caps vs : List Int) : Nat → Int
  | 0 => 0
  | k + 1 => wk L caps vs k + (if leaves vs (at3 L k) then capI caps k else 0)
def gets (caps xs : List Int) : List Int := xs.map fun x => capI caps x.toNat
def worthB (V : Int) (L : List Lk) (caps vs : List Int) : Bool := leavB V L vs && capsB L caps
def worthX (V : Int) (L : List Lk) (caps vs : List Int) : Int := if worthB V L caps vs then wk L caps vs L.length else 0
def worthE (V : Int) (L : List Lk) (caps vs : List Int) : Int := if worthB V L caps vs then 0 else 800
def provE (V : Int) (L : List Lk) (caps : List Int) : Int := if mayG V L && capsB L caps then 0 else 800
def provB (V : Int) (L : List Lk) (caps : List Int) (s t R : Int) (vs : List Int) : Bool := mayG V L && capsB L caps && cutB V L s t vs && decide (worthX V L caps vs < R)

theorem verts_stop {V : Int} {vs : List Int} {k : Nat} (h : k < vs.length) (e : riseB V vs k = false) : vertsB V vs = false := range_stop h e
theorem verts_at {V : Int} {vs : List Int} (h : vertsB V vs = true) {i : Nat} (hi : i < vs.length) : riseB V vs i = true := List.all_eq_true.1 h i (List.mem_range.2 hi)
theorem verts_mem {V : Int} {vs : List Int} (h : vertsB V vs = true) {x : Int} (hx : x ∈ vs) : isV V x = true := by
  obtain ⟨i, hi, e⟩ := List.getElem_of_mem hx
  have := verts_at h hi
  simp only [riseB, Bool.and_eq_true] at this
  rw [List.getElem?_eq_getElem hi, Option.getD_some, e] at this
  exact this.1
theorem verts_mk {V : Int} {vs : List Int} (h : ∀ x ∈ vs, isV V x = true) (r : vs.Pairwise (· < ·)) : vertsB V vs = true := by
  refine List.all_eq_true.2 fun i hi => ?_
  have hi := List.mem_range.1 hi
  simp only [riseB, Bool.and_eq_true, Bool.or_eq_true, decide_eq_true_eq]
  refine ⟨by rw [List.getElem?_eq_getElem hi, Option.getD_some]; exact h _ (List.getElem_mem hi), ?_⟩
  by_cases h0 : i = 0
  · exact .inl h0
  · right
    rw [List.getElem?_eq_getElem hi, List.getElem?_eq_getElem (by omega : i - 1 < vs.length), Option.getD_some, Option.getD_some]
    exact List.pairwise_iff_getElem.1 r _ _ _ _ (by omega)
theorem verts_pick (p : Nat → Bool) (k : Nat) : vertsB (k : Nat) (pick p k) = true := by
  refine verts_mk (fun x hx => ?_) (pick_rise p k)
  obtain ⟨i, hi, _, rfl⟩ := pick_mem.1 hx
  simp [isV]; omega

theorem leav_no {V : Int} {L : List Lk} {vs : List Int} (h : leavB V L vs = false) : leavV V L vs = [] ∧ leavE V L vs = 800 := by simp [leavV, leavE, h]
theorem leav_yes {V : Int} {L : List Lk} {vs : List Int} (h : leavB V L vs = true) : leavV V L vs = lv L vs L.length ∧ leavE V L vs = 0 := by simp [leavV, leavE, h]
theorem leav_parts {V : Int} {L : List Lk} {vs : List Int} (h : leavB V L vs = true) : mayG V L = true ∧ vertsB V vs = true := by simpa [leavB] using h
theorem leavV_len (V : Int) (L : List Lk) (vs : List Int) : (leavV V L vs).length ≤ 16 := by
  cases h : leavB V L vs
  · rw [(leav_no h).1]; simp
  · rw [(leav_yes h).1]
    have := may_small (leav_parts h).1
    have := pick_len (fun i => leaves vs (at3 L i)) L.length
    unfold lv
    omega
theorem leavV_ok (V : Int) (L : List Lk) (vs : List Int) : ∀ i : Nat, -9223372036854775808 ≤ (leavV V L vs)[i]?.getD 0 ∧ (leavV V L vs)[i]?.getD 0 ≤ 9223372036854775807 := by
  cases h : leavB V L vs
  · rw [(leav_no h).1]; simp
  · rw [(leav_yes h).1]
    have := may_small (leav_parts h).1
    exact pick_ok (by omega)
theorem lv_ok {L : List Lk} {vs : List Int} {k : Nat} (hk : k ≤ 16) : ∀ i : Nat, -9223372036854775808 ≤ (lv L vs k)[i]?.getD 0 ∧ (lv L vs k)[i]?.getD 0 ≤ 9223372036854775807 := pick_ok (by omega)
theorem lv_yes {L : List Lk} {vs : List Int} {k : Nat} (h : leaves vs (at3 L k) = true) : lv L vs (k + 1) = lv L vs k ++ [(k : Int)] := pick_yes (p := fun i => leaves vs (at3 L i)) h
theorem lv_no {L : List Lk} {vs : List Int} {k : Nat} (h : leaves vs (at3 L k) = false) : lv L vs (k + 1) = lv L vs k := pick_no (p := fun i => leaves vs (at3 L i)) h
theorem lv_len (L : List Lk) (vs : List Int) (k : Nat) : (lv L vs k).length ≤ k := pick_len _ k

theorem wk_bd {V : Int} {L : List Lk} {caps : List Int} (vs : List Int) (h : mayG V L = true) (c : capsB L caps = true) {k : Nat} (hk : k ≤ L.length) : 0 ≤ wk L caps vs k ∧ wk L caps vs k ≤ 4611686018427387904 := by
  have c2 := (capsB_parts c).2
  have : ∀ k, k ≤ L.length → 0 ≤ wk L caps vs k ∧ wk L caps vs k ≤ capSum L k := by
    intro k
    induction k with
    | zero => intro _; simp [wk, capSum]
    | succ k ih =>
      intro hk
      have := ih (by omega)
      have := c2 k (by omega)
      simp only [wk, capSum]
      split <;> omega
  have a := this k hk
  have b := may_sum h k hk
  omega

theorem gets_lv (L : List Lk) (caps vs : List Int) : ∀ k, isum (gets caps (lv L vs k)) = wk L caps vs k
  | 0 => rfl
  | k + 1 => by
    have ih := gets_lv L caps vs k
    cases h : leaves vs (at3 L k)
    · rw [lv_no h, ih]; simp [wk, h]
    · rw [lv_yes h, gets, List.map_append, isum_app]
      rw [gets] at ih
      rw [ih]
      simp [wk, h, isum]

theorem gets_nonneg {L : List Lk} {caps vs : List Int} (c : capsB L caps = true) : ∀ x ∈ gets caps (lv L vs L.length), 0 ≤ x := by
  intro x hx
  simp only [gets, List.mem_map] at hx
  obtain ⟨y, hy, rfl⟩ := hx
  obtain ⟨i, hi, _, rfl⟩ := pick_mem.1 hy
  exact ((capsB_parts c).2 _ (by simpa using hi)).1

/-- What the first j of the links that leave are worth together. -/
def pw (L : List Lk) (caps vs : List Int) (j : Nat) : Int := isum (gets caps ((lv L vs L.length).take j))

theorem pw_zero (L : List Lk) (caps vs : List Int) : pw L caps vs 0 = 0 := by simp [pw, gets, isum]
theorem pw_all (L : List Lk) (caps vs : List Int) : pw L caps vs (lv L vs L.length).length = wk L caps vs L.length := by rw [pw, List.take_length, gets_lv]
theorem pw_step {L : List Lk} {caps vs : List Int} {j : Nat} (h : j < (lv L vs L.length).length) : pw L caps vs (j + 1) = pw L caps vs j + capI caps ((lv L vs L.length)[j]?.getD 0).toNat := by
  unfold pw
  rw [List.take_succ_eq_append_getElem h, gets, List.map_append, isum_app, ← gets]
  simp [isum, h]
theorem pw_bd {V : Int} {L : List Lk} {caps vs : List Int} (m : mayG V L = true) (c : capsB L caps = true) (j : Nat) : 0 ≤ pw L caps vs j ∧ pw L caps vs j ≤ 4611686018427387904 := by
  have h := wk_bd vs m c (Nat.le_refl _)
  rw [← gets_lv] at h
  have nn := gets_nonneg (vs := vs) c
  have e : isum (gets caps (lv L vs L.length)) = pw L caps vs j + isum (gets caps ((lv L vs L.length).drop j)) := by
    rw [pw, ← isum_app, gets, gets, gets, ← List.map_append, List.take_append_drop]
  have a : 0 ≤ pw L caps vs j := isum_nonneg fun x hx => nn x (by
    simp only [gets, List.mem_map] at hx ⊢
    obtain ⟨y, hy, rfl⟩ := hx
    exact ⟨y, List.mem_of_mem_take hy, rfl⟩)
  have b : 0 ≤ isum (gets caps ((lv L vs L.length).drop j)) := isum_nonneg fun x hx => nn x (by
    simp only [gets, List.mem_map] at hx ⊢
    obtain ⟨y, hy, rfl⟩ := hx
    exact ⟨y, List.mem_of_mem_drop hy, rfl⟩)
  omega

theorem worth_no {V : Int} {L : List Lk} {caps vs : List Int} (h : worthB V L caps vs = false) : worthX V L caps vs = 0 ∧ worthE V L caps vs = 800 := by simp [worthX, worthE, h]
theorem worth_yes {V : Int} {L : List Lk} {caps vs : List Int} (h : worthB V L caps vs = true) : worthX V L caps vs = wk L caps vs L.length ∧ worthE V L caps vs = 0 := by simp [worthX, worthE, h]
theorem worth_parts {V : Int} {L : List Lk} {caps vs : List Int} (h : worthB V L caps vs = true) : mayG V L = true ∧ vertsB V vs = true ∧ capsB L caps = true := by
  simp only [worthB, leavB, Bool.and_eq_true] at h
  exact ⟨h.1.1, h.1.2, h.2⟩
theorem worth_mk {V : Int} {L : List Lk} {caps vs : List Int} (a : mayG V L = true) (b : vertsB V vs = true) (c : capsB L caps = true) : worthB V L caps vs = true := by simp [worthB, leavB, a, b, c]
theorem worthX_bd (V : Int) (L : List Lk) (caps vs : List Int) : 0 ≤ worthX V L caps vs ∧ worthX V L caps vs ≤ 4611686018427387904 := by
  cases h : worthB V L caps vs
  · rw [(worth_no h).1]; omega
  · obtain ⟨a, _, c⟩ := worth_parts h
    rw [(worth_yes h).1]
    exact wk_bd vs a c (Nat.le_refl _)
theorem worthE_ok {V : Int} {L : List Lk} {caps vs : List Int} (h : worthE V L caps vs = 0) : worthB V L caps vs = true := by
  cases k : worthB V L caps vs
  · rw [(worth_no k).2] at h; cases h
  · rfl
theorem worthE_no {V : Int} {L : List Lk} {caps vs : List Int} (h : ¬ worthE V L caps vs = 0) : worthE V L caps vs = 800 := by
  cases k : worthB V L caps vs
  · exact (worth_no k).2
  · exact absurd (worth_yes k).2 h

theorem cut_ref (V : Int) (L : List Lk) (s t : Int) (vs : List Int) : cutB V L s t vs = (mayG V L && isV V s && isV V t && vertsB V vs && decide (s ∈ vs) && !decide (t ∈ vs)) := by
  unfold cutB leavB
  cases a : mayG V L
  · simp
  · cases b : vertsB V vs
    · simp
    · by_cases c : s ∈ vs
      · rw [verts_mem b c]
        simp [c]
      · simp [c]

theorem prov_no {V : Int} {L : List Lk} {caps : List Int} {s t R : Int} {vs : List Int} (h : (mayG V L && capsB L caps) = false) : provE V L caps = 800 ∧ provB V L caps s t R vs = false := by simp [provE, provB, h]
theorem prov_cut {V : Int} {L : List Lk} {caps : List Int} {s t R : Int} {vs : List Int} (h : (mayG V L && capsB L caps) = true) (k : cutB V L s t vs = false) : provE V L caps = 0 ∧ provB V L caps s t R vs = false := by simp [provE, provB, h, k]
theorem prov_yes {V : Int} {L : List Lk} {caps : List Int} {s t R : Int} {vs : List Int} (h : (mayG V L && capsB L caps) = true) (k : cutB V L s t vs = true) : provE V L caps = 0 ∧ worthE V L caps vs = 0 ∧ provB V L caps s t R vs = decide (worthX V L caps vs < R) := by
  have h2 := h
  simp only [Bool.and_eq_true] at h
  refine ⟨by simp [provE, h2], (worth_yes (worth_mk h.1 ?_ h.2)).2, by simp [provB, h2, k]⟩
  simp only [cutB, leavB, Bool.and_eq_true] at k
  exact k.1.1.1.2

/-- Of two sides, what leaves both together and what leaves those in both. -/
theorem leaves_pair {a b u v : List Int} {l : Lk} (h1 : l.1 ∈ u ↔ (l.1 ∈ a ∨ l.1 ∈ b)) (h2 : l.2.1 ∈ u ↔ (l.2.1 ∈ a ∨ l.2.1 ∈ b)) (h3 : l.1 ∈ v ↔ (l.1 ∈ a ∧ l.1 ∈ b)) (h4 : l.2.1 ∈ v ↔ (l.2.1 ∈ a ∧ l.2.1 ∈ b)) {x : Int} (hx : 0 ≤ x) :
    (if leaves u l then x else 0) + (if leaves v l then x else 0) ≤ (if leaves a l then x else 0) + (if leaves b l then x else 0) := by
  by_cases p : l.1 ∈ a <;> by_cases q : l.1 ∈ b <;> by_cases r : l.2.1 ∈ a <;> by_cases s : l.2.1 ∈ b <;> simp [leaves, h1, h2, h3, h4, p, q, r, s] <;> omega

def orP (a b : List Int) (i : Nat) : Bool := decide ((i : Int) ∈ a) || decide ((i : Int) ∈ b)
def andP (a b : List Int) (i : Nat) : Bool := decide ((i : Int) ∈ a) && decide ((i : Int) ∈ b)

theorem or_mem {a b : List Int} {k : Nat} {x : Int} (h0 : 0 ≤ x) (h1 : x < (k : Int)) : x ∈ pick (orP a b) k ↔ (x ∈ a ∨ x ∈ b) := by
  obtain ⟨i, rfl⟩ := Int.eq_ofNat_of_zero_le h0
  rw [pick_mem]
  constructor
  · rintro ⟨j, _, hp, e⟩
    have : j = i := by omega
    subst this
    simpa [orP] using hp
  · intro h
    exact ⟨i, by omega, by simpa [orP] using h, rfl⟩
theorem and_mem {a b : List Int} {k : Nat} {x : Int} (h0 : 0 ≤ x) (h1 : x < (k : Int)) : x ∈ pick (andP a b) k ↔ (x ∈ a ∧ x ∈ b) := by
  obtain ⟨i, rfl⟩ := Int.eq_ofNat_of_zero_le h0
  rw [pick_mem]
  constructor
  · rintro ⟨j, _, hp, e⟩
    have : j = i := by omega
    subst this
    simpa [andP] using hp
  · intro h
    exact ⟨i, by omega, by simpa [andP] using h, rfl⟩

theorem wk_pair {vn : Nat} {L : List Lk} {caps : List Int} (a b : List Int) (h : mayG (vn : Nat) L = true) (c : capsB L caps = true) : ∀ k, k ≤ L.length → wk L caps (pick (orP a b) vn) k + wk L caps (pick (andP a b) vn) k ≤ wk L caps a k + wk L caps b k
  | 0, _ => by simp [wk]
  | k + 1, hk => by
    have ih := wk_pair a b h c k (by omega)
    obtain ⟨j0, j1, j2, j3, _⟩ := may_joins h (i := k) (by omega)
    have := leaves_pair (l := at3 L k) (or_mem (a := a) (b := b) j0 j1) (or_mem (a := a) (b := b) j2 j3) (and_mem (a := a) (b := b) j0 j1) (and_mem (a := a) (b := b) j2 j3) ((capsB_parts c).2 k (by omega)).1
    simp only [wk]
    omega

/-- All vertices. -/
def allP (_ : Nat) : Bool := true
theorem all_mem {k : Nat} {x : Int} (h0 : 0 ≤ x) (h1 : x < (k : Int)) : x ∈ pick allP k := by
  obtain ⟨i, rfl⟩ := Int.eq_ofNat_of_zero_le h0
  exact pick_mem.2 ⟨i, by omega, rfl, rfl⟩
theorem lv_all {vn : Nat} {L : List Lk} (h : mayG (vn : Nat) L = true) : lv L (pick allP vn) L.length = [] := by
  refine pick_none fun i hi => ?_
  obtain ⟨_, _, j2, j3, _⟩ := may_joins h hi
  simp [leaves, all_mem j2 j3]
theorem lv_nil (L : List Lk) (k : Nat) : lv L [] k = [] := pick_none fun i _ => by simp [leaves]
theorem lv_one {V : Int} {L : List Lk} (h : mayG V L = true) (v : Int) : lv L [v] L.length = sel (fun l => l.1) L v L.length := by
  unfold lv sel
  refine pick_congr fun i hi => ?_
  obtain ⟨_, _, _, _, ne⟩ := may_joins h hi
  by_cases e : (at3 L i).1 = v
  · subst e
    have : ¬ (at3 L i).2.1 = (at3 L i).1 := fun e => ne e.symm
    simp [leaves, this]
  · simp [leaves, e]
theorem wk_all {vn : Nat} {L : List Lk} {caps : List Int} (h : mayG (vn : Nat) L = true) : wk L caps (pick allP vn) L.length = 0 := by
  rw [← gets_lv, lv_all h]; rfl
theorem verts_one {V v : Int} (h : isV V v = true) : vertsB V [v] = true := verts_mk (by simp [h]) (by simp)

end Go.Proofs.Ytppcncblmakekaa

set_option maxRecDepth 20000
namespace Go.Proofs.Ytppcncblmakekaa
open Go.RowKit

/-- Is it above the one ahead of it? -/
def upB (vs : List Int) (i : Nat) : Bool := decide (i = 0) || decide (vs[i - 1]?.getD 0 < vs[i]?.getD 0)

theorem verts_split (V : Int) (vs : List Int) : vertsB V vs = ((List.range vs.length).all (upB vs) && allV V vs) := by
  rw [Bool.eq_iff_iff, Bool.and_eq_true]
  constructor
  · intro h
    have k := fun i (hi : i < vs.length) => verts_at h hi
    refine ⟨List.all_eq_true.2 fun i hi => ?_, allV_all fun j hj => ?_⟩
    · have := k i (List.mem_range.1 hi)
      simp only [riseB, Bool.and_eq_true] at this
      exact this.2
    · have := k j hj
      simp only [riseB, Bool.and_eq_true] at this
      exact this.1
  · rintro ⟨a, b⟩
    refine List.all_eq_true.2 fun i hi => ?_
    simp only [riseB, Bool.and_eq_true]
    exact ⟨allV_at b (List.mem_range.1 hi), List.all_eq_true.1 a i hi⟩

def RiseRel (w : World) (V : Int) (A : Option Addr) (n c m : Nat) (vs : List Int) (i : Value) (wr : World) : Prop :=
  ∃ k : Nat, k ≤ m ∧ i = .int .i64 (k : Nat) ∧ w.grownBy wr none ∧ Own wr w.heap.size 24 [.int .i64 V, .slice A n c] ∧ (List.range k).all (riseB V vs) = true

theorem rise_isV {V : Int} {vs : List Int} {k : Nat} (h : isV V (vs[k]?.getD 0) = false) : riseB V vs k = false := by simp [riseB, h]
theorem rise_zero {V : Int} {vs : List Int} (h : isV V (vs[0]?.getD 0) = true) : riseB V vs 0 = true := by simp [riseB]; simpa using h
theorem rise_next {V : Int} {vs : List Int} {j : Nat} (h : isV V (vs[j + 1]?.getD 0) = true) : riseB V vs (j + 1) = decide (vs[j]?.getD 0 < vs[j + 1]?.getD 0) := by simp [riseB, h]
theorem rise_more {V : Int} {vs : List Int} {k : Nat} (h : (List.range k).all (riseB V vs) = true) (e : riseB V vs k = true) : (List.range (k + 1)).all (riseB V vs) = true := by rw [range_next, h, e]; rfl

def UpRel (w : World) (V : Int) (A : Option Addr) (n c m : Nat) (vs : List Int) (i : Value) (wr : World) : Prop :=
  ∃ k : Nat, k ≤ m ∧ i = .int .i64 (k : Nat) ∧ w.grownBy wr none ∧ Own wr w.heap.size 24 [.int .i64 V, .slice A n c] ∧ (List.range k).all (upB vs) = true

theorem up_next {vs : List Int} {j : Nat} : upB vs (j + 1) = decide (vs[j]?.getD 0 < vs[j + 1]?.getD 0) := by simp [upB]
theorem up_more {vs : List Int} {k : Nat} (h : (List.range k).all (upB vs) = true) (e : upB vs k = true) : (List.range (k + 1)).all (upB vs) = true := by rw [range_next, h, e]; rfl
theorem up_stop {V : Int} {vs : List Int} {k : Nat} (h : k < vs.length) (e : upB vs k = false) : vertsB V vs = false := by rw [verts_split, range_stop h e]; rfl

def AmRel (w : World) (n : Nat) (x : Int) (xs : List Int) (i : Value) (wr : World) : Prop :=
  ∃ k : Nat, k ≤ n ∧ i = .int .i64 (k : Nat) ∧ w.grownBy wr none ∧ ∀ j, j < k → ¬ xs[j]?.getD 0 = x

theorem am_yes {x : Int} {xs : List Int} {k : Nat} (h : k < xs.length) (e : xs[k]?.getD 0 = x) : decide (x ∈ xs) = true := by
  rw [List.getElem?_eq_getElem h, Option.getD_some] at e
  subst e
  simp
theorem am_no {x : Int} {xs : List Int} (h : ∀ j, j < xs.length → ¬ xs[j]?.getD 0 = x) : decide (x ∈ xs) = false := by
  simp only [decide_eq_false_iff_not]
  intro hx
  obtain ⟨i, hi, e⟩ := List.getElem_of_mem hx
  exact h i hi (by rw [List.getElem?_eq_getElem hi, Option.getD_some]; exact e)

theorem Among_any (x : Int) (A : Option Addr) (n c : Nat) (xs : List Int) (w : World) {B : Nat} (h : Row w B A n xs) :
    Calls Try.prog 12 #[.slice A n c, .int .i64 x] w (Says w (.bool (decide (x ∈ xs)))) := by
  have hn := h.small
  have HL := Lib.hid h.len
  have HR := Lib.hid h
  clear h
  have HS : Hid (AmRel w n x xs (.int .i64 0) w) := ⟨0, Nat.zero_le _, rfl, World.grownBy.refl w none, by omega⟩
  go_enter Try.func12, Try.ntmps12
  go_wp2
  go_loopw [5] (fun i wr => AmRel w n x xs i wr) (fun i _ => n - (intOf i).toNat)
  case atStart => exact HS.out
  case round =>
    clear HS
    obtain ⟨k, hk, rfl, hg, hno⟩ := hrel
    have G := Lib.hid hg
    have HNO := Lib.hid hno
    by_cases hlt : k < n
    · obtain ⟨b, off, hA, hb, hcell⟩ := HR.out.at_ (by omega)
      subst hA
      have d0 := kept hg (hcell k hlt)
      clear hcell hg hno
      by_cases he : xs[k]?.getD 0 = x
      · have E := Lib.hid (am_yes (by rw [HL.out]; exact hlt) he)
        rw [he] at d0
        clear he
        have hxx : (x == x) = true := by simp
        go_wp2
        go_ret
        exact ⟨ret_bool E.out, G.out⟩
      · have HN := Lib.hid he
        have hxx : (xs[k]?.getD 0 == x) = false := by simp; exact he
        have HNO2 : Hid (∀ j, j < k + 1 → ¬ xs[j]?.getD 0 = x) := fun j hj => by
          rcases Nat.lt_or_ge j k with a | a
          · exact HNO.out j a
          · obtain rfl : j = k := by omega
            exact HN.out
        clear he HN HNO
        generalize xs[k]?.getD 0 = y at *
        go_wp2
        go_roundw
        case rel => exact ⟨k + 1, by omega, by go_num, G.out, HNO2.out⟩
        case measure => simp [intOf]; omega
    · obtain rfl : k = n := by omega
      have E := Lib.hid (am_no (x := x) (xs := xs) (by rw [HL.out]; exact HNO.out))
      clear hg hno
      go_wp2
      go_ret
      exact ⟨ret_bool E.out, G.out⟩

end Go.Proofs.Ytppcncblmakekaa

set_option maxRecDepth 20000
namespace Go.Proofs.Ytppcncblmakekaa
open Go.RowKit

theorem held3 {w w1 : World} {b b2 i j : Nat} {x y z : Value} (g : w.grownBy w1 none) (h : (fun w' : World => w'.cell? ⟨b, 0, none⟩ = some x ∧ w'.cell? ⟨b, 1, none⟩ = some y ∧ w'.cell? ⟨b2, i + j, none⟩ = some z) w) :
    (fun w' : World => w'.cell? ⟨b, 0, none⟩ = some x ∧ w'.cell? ⟨b, 1, none⟩ = some y ∧ w'.cell? ⟨b2, i + j, none⟩ = some z) w1 := ⟨kept g h.1, kept g h.2.1, kept g h.2.2⟩

theorem held4c {w w1 : World} {b b2 i j k : Nat} {x y z u : Value} (g : w.grownBy w1 none) (h : (fun w' : World => w'.cell? ⟨b, 0, none⟩ = some x ∧ w'.cell? ⟨b, 1, none⟩ = some y ∧ w'.cell? ⟨b2, i + j, none⟩ = some z ∧ w'.cell? ⟨b2, i + k, none⟩ = some u) w) :
    (fun w' : World => w'.cell? ⟨b, 0, none⟩ = some x ∧ w'.cell? ⟨b, 1, none⟩ = some y ∧ w'.cell? ⟨b2, i + j, none⟩ = some z ∧ w'.cell? ⟨b2, i + k, none⟩ = some u) w1 := ⟨kept g h.1, kept g h.2.1, kept g h.2.2.1, kept g h.2.2.2⟩

theorem takeH {P : Program} {ops : Array Oper} {Q : Exit → Act → World → Prop} {md : Region.Mode} {S : World → Prop} {i d : Nat} {oi : Oper} {v : Value} {fuel : Nat} {listed : Array Bool} {a : Act} {w : World} (hi : ops[i]? = some oi) (hd : oi.dst = some d)
    (hs : Region.noSelect ops = true) (hf : Region.free md ops listed i = true) (hr : (Region.ready md ops listed).contains i = true)
    (hQ : ∀ c a w, Q (.panic c) (a.put (some d) v) w → Q (.panic c) a w) (hy : YieldsIf P ops S oi v a) (hS : S w)
    (h : wpAnyH P md ops Q S fuel (listed.setIfInBounds i true) (a.put (some d) v) w) : wpAnyH P md ops Q S (fuel + 1) listed a w :=
  wpAnyH_take hi hs hf hr (by rw [hd]; exact hQ) hy hS (by rw [hd]; exact h)

set_option maxRecDepth 20000 in
set_option maxHeartbeats 2000000 in
theorem VertsMay_any (V : Int) (A : Option Addr) (n c : Nat) (X : Option Addr) (m d : Nat) (vs : List Int) (w : World) {B : Nat} (h : Row w B X m vs) :
    Calls Try.prog 31 #[.agg #[.int .i64 V, .slice A n c], .slice X m d] w (Says w (.bool (vertsB V vs))) := by
  have hm := h.small
  have HL := Lib.hid h.len
  have HR := Lib.hid h
  clear h
  have HS : Hid (RiseRel w V A n c m vs (.int .i64 0) (w.alloc (.cells #[.int .i64 V, .slice A n c] 24))) := ⟨0, Nat.zero_le _, rfl, grow0 _ _, Own.new w 24 [.int .i64 V, .slice A n c], rfl⟩
  go_enter Try.func31, Try.ntmps31
  go_wp2
  go_loopw [5] (fun i wr => RiseRel w V A n c m vs i wr) (fun i _ => m - (intOf i).toNat)
  case atStart => exact HS.out
  case round =>
    clear HS
    obtain ⟨k, hk, rfl, hg, ob, hall⟩ := hrel
    have G := Lib.hid hg
    have HA := Lib.hid hall
    obtain ⟨c0, c1⟩ := ob.two
    have O := Lib.hid ob
    by_cases hlt : k < m
    · obtain ⟨b, off, hA, hb, hcell⟩ := HR.out.at_ (by omega)
      subst hA
      have HC := Lib.hid hcell
      have d0 := kept hg (hcell k hlt)
      have HNO := Lib.hid (verts_stop (V := V) (vs := vs) (k := k) (by rw [HL.out]; exact hlt))
      have GK := Lib.hid (World.grownBy.refl wr none)
      clear hcell hg hall ob
      cases hv : isV V (vs[k]?.getD 0)
      · have E : Hid (vertsB V vs = false) := HNO.out (rise_isV hv)
        have HV := Lib.hid hv
        clear HNO hv
        generalize vs[k]?.getD 0 = y at *
        have HSS : Hid ((fun w' : World => w'.cell? ⟨w.heap.size, 0, none⟩ = some (.int .i64 V) ∧ w'.cell? ⟨w.heap.size, 1, none⟩ = some (.slice A n c) ∧ w'.cell? ⟨b, off + k, none⟩ = some (.int .i64 y)) wr) := ⟨c0, c1, d0⟩
        go_wp2_with fail
        refine wp_region_held_drew (S := fun w' : World => w'.cell? ⟨w.heap.size, 0, none⟩ = some (.int .i64 V) ∧ w'.cell? ⟨w.heap.size, 1, none⟩ = some (.slice A n c) ∧ w'.cell? ⟨b, off + k, none⟩ = some (.int .i64 y)) (by kernel_rfl) HSS.out (fun hHeld => ?_)
        refine takeH (i := 0) (d := 12) (v := .agg #[.int .i64 V, .slice A n c]) rfl rfl (by kernel_rfl) (by kernel_rfl) (by kernel_rfl) (fun _ _ _ h => h) (Or.inl ⟨by rfl, ?_⟩) (by assumption) ?_
        · intro w hSw; go_simp
        simp only [Act.put, List.setIfInBounds_toArray, List.set_cons_zero, List.set_cons_succ]
        refine takeH (i := 1) (d := 13) (v := .slice (some ⟨b, off, none⟩) m d) rfl rfl (by kernel_rfl) (by kernel_rfl) (by kernel_rfl) (fun _ _ _ h => h) (Or.inl ⟨by rfl, ?_⟩) (by assumption) ?_
        · intro w hSw; go_simp
        simp only [Act.put, List.setIfInBounds_toArray, List.set_cons_zero, List.set_cons_succ]
        refine takeH (i := 2) (d := 14) (v := .int .i64 (k : Nat)) rfl rfl (by kernel_rfl) (by kernel_rfl) (by kernel_rfl) (fun _ _ _ h => h) (Or.inl ⟨by rfl, ?_⟩) (by assumption) ?_
        · intro w hSw; go_simp
        simp only [Act.put, List.setIfInBounds_toArray, List.set_cons_zero, List.set_cons_succ]
        refine takeH (i := 3) (d := 15) (v := .pointer (some ⟨b, off + k, none⟩)) rfl rfl (by kernel_rfl) (by kernel_rfl) (by kernel_rfl) (fun _ _ _ h => h) (Or.inl ⟨by rfl, ?_⟩) (by assumption) ?_
        · intro w hSw; go_simp
        simp only [Act.put, List.setIfInBounds_toArray, List.set_cons_zero, List.set_cons_succ]
        refine takeH (i := 4) (d := 16) (v := .int .i64 y) rfl rfl (by kernel_rfl) (by kernel_rfl) (by kernel_rfl) (fun _ _ _ h => h) (Or.inl ⟨by rfl, ?_⟩) (by assumption) ?_
        · intro w hSw; go_simp
        simp only [Act.put, List.setIfInBounds_toArray, List.set_cons_zero, List.set_cons_succ]
        refine wpAnyH_ready (rs := [5]) (by kernel_rfl) (by simp) ?_
        refine AllReadyH.cons rfl (fun K hK => ?_) AllReadyH.nil
        go_simp
        go_at_call 33
        refine (RVertex_any V y A n c _).mono ?_
        rintro e w8 ⟨he, g⟩
        rw [HV.out] at he
        subst he
        have GK : Hid (wr.grownBy w8 none) := grown_undrew g
        have HSS := Lib.hid (held3 g HSS.out)
        clear g
        go_wp2_with fail
        refine hK.out _ _ HSS.out (fun hHeld => ?_)
        clear hK
        refine takeH (i := 6) (d := 18) (v := .bool true) rfl rfl (by kernel_rfl) (by kernel_rfl) (by kernel_rfl) (fun _ _ _ h => h) (Or.inl ⟨by rfl, ?_⟩) (by assumption) ?_
        · intro w hSw; go_simp
        simp only [Act.put, List.setIfInBounds_toArray, List.set_cons_zero, List.set_cons_succ]
        refine takeH (i := 7) (d := 19) (v := .bool true) rfl rfl (by kernel_rfl) (by kernel_rfl) (by kernel_rfl) (fun _ _ _ h => h) (Or.inl ⟨by rfl, ?_⟩) (by assumption) ?_
        · intro w hSw; go_simp
        simp only [Act.put, List.setIfInBounds_toArray, List.set_cons_zero, List.set_cons_succ]
        refine takeH (i := 8) (d := 20) (v := undef) rfl rfl (by kernel_rfl) (by kernel_rfl) (by kernel_rfl) (fun _ _ _ h => h) (Or.inr ⟨by rfl, rfl⟩) (by assumption) ?_
        simp only [Act.put, List.setIfInBounds_toArray, List.set_cons_zero, List.set_cons_succ]
        refine takeH (i := 9) (d := 21) (v := undef) rfl rfl (by kernel_rfl) (by kernel_rfl) (by kernel_rfl) (fun _ _ _ h => h) (Or.inr ⟨by rfl, rfl⟩) (by assumption) ?_
        simp only [Act.put, List.setIfInBounds_toArray, List.set_cons_zero, List.set_cons_succ]
        refine takeH (i := 10) (d := 22) (v := undef) rfl rfl (by kernel_rfl) (by kernel_rfl) (by kernel_rfl) (fun _ _ _ h => h) (Or.inr ⟨by rfl, rfl⟩) (by assumption) ?_
        simp only [Act.put, List.setIfInBounds_toArray, List.set_cons_zero, List.set_cons_succ]
        refine takeH (i := 11) (d := 23) (v := undef) rfl rfl (by kernel_rfl) (by kernel_rfl) (by kernel_rfl) (fun _ _ _ h => h) (Or.inr ⟨by rfl, rfl⟩) (by assumption) ?_
        simp only [Act.put, List.setIfInBounds_toArray, List.set_cons_zero, List.set_cons_succ]
        refine takeH (i := 12) (d := 24) (v := undef) rfl rfl (by kernel_rfl) (by kernel_rfl) (by kernel_rfl) (fun _ _ _ h => h) (Or.inr ⟨by rfl, rfl⟩) (by assumption) ?_
        simp only [Act.put, List.setIfInBounds_toArray, List.set_cons_zero, List.set_cons_succ]
        refine takeH (i := 13) (d := 25) (v := undef) rfl rfl (by kernel_rfl) (by kernel_rfl) (by kernel_rfl) (fun _ _ _ h => h) (Or.inr ⟨by rfl, rfl⟩) (by assumption) ?_
        simp only [Act.put, List.setIfInBounds_toArray, List.set_cons_zero, List.set_cons_succ]
        refine takeH (i := 14) (d := 26) (v := undef) rfl rfl (by kernel_rfl) (by kernel_rfl) (by kernel_rfl) (fun _ _ _ h => h) (Or.inr ⟨by rfl, rfl⟩) (by assumption) ?_
        simp only [Act.put, List.setIfInBounds_toArray, List.set_cons_zero, List.set_cons_succ]
        refine takeH (i := 15) (d := 27) (v := undef) rfl rfl (by kernel_rfl) (by kernel_rfl) (by kernel_rfl) (fun _ _ _ h => h) (Or.inr ⟨by rfl, rfl⟩) (by assumption) ?_
        simp only [Act.put, List.setIfInBounds_toArray, List.set_cons_zero, List.set_cons_succ]
        refine takeH (i := 16) (d := 28) (v := undef) rfl rfl (by kernel_rfl) (by kernel_rfl) (by kernel_rfl) (fun _ _ _ h => h) (Or.inr ⟨by rfl, rfl⟩) (by assumption) ?_
        simp only [Act.put, List.setIfInBounds_toArray, List.set_cons_zero, List.set_cons_succ]
        refine takeH (i := 17) (d := 29) (v := undef) rfl rfl (by kernel_rfl) (by kernel_rfl) (by kernel_rfl) (fun _ _ _ h => h) (Or.inr ⟨by rfl, rfl⟩) (by assumption) ?_
        simp only [Act.put, List.setIfInBounds_toArray, List.set_cons_zero, List.set_cons_succ]
        refine takeH (i := 18) (d := 30) (v := undef) rfl rfl (by kernel_rfl) (by kernel_rfl) (by kernel_rfl) (fun _ _ _ h => h) (Or.inr ⟨by rfl, rfl⟩) (by assumption) ?_
        simp only [Act.put, List.setIfInBounds_toArray, List.set_cons_zero, List.set_cons_succ]
        refine takeH (i := 19) (d := 31) (v := undef) rfl rfl (by kernel_rfl) (by kernel_rfl) (by kernel_rfl) (fun _ _ _ h => h) (Or.inr ⟨by rfl, rfl⟩) (by assumption) ?_
        simp only [Act.put, List.setIfInBounds_toArray, List.set_cons_zero, List.set_cons_succ]
        refine takeH (i := 20) (d := 32) (v := undef) rfl rfl (by kernel_rfl) (by kernel_rfl) (by kernel_rfl) (fun _ _ _ h => h) (Or.inr ⟨by rfl, rfl⟩) (by assumption) ?_
        simp only [Act.put, List.setIfInBounds_toArray, List.set_cons_zero, List.set_cons_succ]
        refine takeH (i := 21) (d := 33) (v := undef) rfl rfl (by kernel_rfl) (by kernel_rfl) (by kernel_rfl) (fun _ _ _ h => h) (Or.inr ⟨by rfl, rfl⟩) (by assumption) ?_
        simp only [Act.put, List.setIfInBounds_toArray, List.set_cons_zero, List.set_cons_succ]
        refine takeH (i := 22) (d := 34) (v := .bool true) rfl rfl (by kernel_rfl) (by kernel_rfl) (by kernel_rfl) (fun _ _ _ h => h) (Or.inl ⟨by rfl, ?_⟩) (by assumption) ?_
        · intro w hSw; go_simp
        simp only [Act.put, List.setIfInBounds_toArray, List.set_cons_zero, List.set_cons_succ]
        refine wpAnyH_done (by kernel_rfl) ?_ _
        go_wp2
        go_ret
        exact ⟨ret_bool E.out, grown_trans G.out GK.out⟩
      by_cases hk0 : k = 0
      · have E : Hid ((List.range (k + 1)).all (riseB V vs) = true) := rise_more HA.out (by subst hk0; exact rise_zero hv)
        have HV := Lib.hid hv
        clear HNO hv HA
        generalize vs[k]?.getD 0 = y at *
        have hk1 : ¬ (0 : Int) < (k : Int) := by omega
        have hk2 : decide ((0 : Int) < (k : Int)) = false := by simp; omega
        have HK0 := Lib.hid hk0
        clear hk0
        have HSS : Hid ((fun w' : World => w'.cell? ⟨w.heap.size, 0, none⟩ = some (.int .i64 V) ∧ w'.cell? ⟨w.heap.size, 1, none⟩ = some (.slice A n c) ∧ w'.cell? ⟨b, off + k, none⟩ = some (.int .i64 y)) wr) := ⟨c0, c1, d0⟩
        go_wp2_with fail
        refine wp_region_held_drew (S := fun w' : World => w'.cell? ⟨w.heap.size, 0, none⟩ = some (.int .i64 V) ∧ w'.cell? ⟨w.heap.size, 1, none⟩ = some (.slice A n c) ∧ w'.cell? ⟨b, off + k, none⟩ = some (.int .i64 y)) (by kernel_rfl) HSS.out (fun hHeld => ?_)
        refine takeH (i := 0) (d := 12) (v := .agg #[.int .i64 V, .slice A n c]) rfl rfl (by kernel_rfl) (by kernel_rfl) (by kernel_rfl) (fun _ _ _ h => h) (Or.inl ⟨by rfl, ?_⟩) (by assumption) ?_
        · intro w hSw; go_simp
        simp only [Act.put, List.setIfInBounds_toArray, List.set_cons_zero, List.set_cons_succ]
        refine takeH (i := 1) (d := 13) (v := .slice (some ⟨b, off, none⟩) m d) rfl rfl (by kernel_rfl) (by kernel_rfl) (by kernel_rfl) (fun _ _ _ h => h) (Or.inl ⟨by rfl, ?_⟩) (by assumption) ?_
        · intro w hSw; go_simp
        simp only [Act.put, List.setIfInBounds_toArray, List.set_cons_zero, List.set_cons_succ]
        refine takeH (i := 2) (d := 14) (v := .int .i64 (k : Nat)) rfl rfl (by kernel_rfl) (by kernel_rfl) (by kernel_rfl) (fun _ _ _ h => h) (Or.inl ⟨by rfl, ?_⟩) (by assumption) ?_
        · intro w hSw; go_simp
        simp only [Act.put, List.setIfInBounds_toArray, List.set_cons_zero, List.set_cons_succ]
        refine takeH (i := 3) (d := 15) (v := .pointer (some ⟨b, off + k, none⟩)) rfl rfl (by kernel_rfl) (by kernel_rfl) (by kernel_rfl) (fun _ _ _ h => h) (Or.inl ⟨by rfl, ?_⟩) (by assumption) ?_
        · intro w hSw; go_simp
        simp only [Act.put, List.setIfInBounds_toArray, List.set_cons_zero, List.set_cons_succ]
        refine takeH (i := 4) (d := 16) (v := .int .i64 y) rfl rfl (by kernel_rfl) (by kernel_rfl) (by kernel_rfl) (fun _ _ _ h => h) (Or.inl ⟨by rfl, ?_⟩) (by assumption) ?_
        · intro w hSw; go_simp
        simp only [Act.put, List.setIfInBounds_toArray, List.set_cons_zero, List.set_cons_succ]
        refine wpAnyH_ready (rs := [5]) (by kernel_rfl) (by simp) ?_
        refine AllReadyH.cons rfl (fun K hK => ?_) AllReadyH.nil
        go_simp
        go_at_call 33
        refine (RVertex_any V y A n c _).mono ?_
        rintro e w8 ⟨he, g⟩
        rw [HV.out] at he
        subst he
        have GK : Hid (wr.grownBy w8 none) := grown_undrew g
        have HSS := Lib.hid (held3 g HSS.out)
        clear g
        go_wp2_with fail
        refine hK.out _ _ HSS.out (fun hHeld => ?_)
        clear hK
        refine takeH (i := 6) (d := 18) (v := .bool false) rfl rfl (by kernel_rfl) (by kernel_rfl) (by kernel_rfl) (fun _ _ _ h => h) (Or.inl ⟨by rfl, ?_⟩) (by assumption) ?_
        · intro w hSw; go_simp
        simp only [Act.put, List.setIfInBounds_toArray, List.set_cons_zero, List.set_cons_succ]
        refine takeH (i := 7) (d := 19) (v := .bool false) rfl rfl (by kernel_rfl) (by kernel_rfl) (by kernel_rfl) (fun _ _ _ h => h) (Or.inl ⟨by rfl, ?_⟩) (by assumption) ?_
        · intro w hSw; go_simp
        simp only [Act.put, List.setIfInBounds_toArray, List.set_cons_zero, List.set_cons_succ]
        refine takeH (i := 8) (d := 20) (v := .int .i64 (k : Nat)) rfl rfl (by kernel_rfl) (by kernel_rfl) (by kernel_rfl) (fun _ _ _ h => h) (Or.inl ⟨by rfl, ?_⟩) (by assumption) ?_
        · intro w hSw; go_simp
        simp only [Act.put, List.setIfInBounds_toArray, List.set_cons_zero, List.set_cons_succ]
        refine takeH (i := 9) (d := 21) (v := .bool false) rfl rfl (by kernel_rfl) (by kernel_rfl) (by kernel_rfl) (fun _ _ _ h => h) (Or.inl ⟨by rfl, ?_⟩) (by assumption) ?_
        · intro w hSw; go_simp; exact HK0.out
        simp only [Act.put, List.setIfInBounds_toArray, List.set_cons_zero, List.set_cons_succ]
        refine takeH (i := 10) (d := 22) (v := .bool false) rfl rfl (by kernel_rfl) (by kernel_rfl) (by kernel_rfl) (fun _ _ _ h => h) (Or.inl ⟨by rfl, ?_⟩) (by assumption) ?_
        · intro w hSw; go_simp
        simp only [Act.put, List.setIfInBounds_toArray, List.set_cons_zero, List.set_cons_succ]
        refine takeH (i := 11) (d := 23) (v := undef) rfl rfl (by kernel_rfl) (by kernel_rfl) (by kernel_rfl) (fun _ _ _ h => h) (Or.inr ⟨by rfl, rfl⟩) (by assumption) ?_
        simp only [Act.put, List.setIfInBounds_toArray, List.set_cons_zero, List.set_cons_succ]
        refine takeH (i := 12) (d := 24) (v := undef) rfl rfl (by kernel_rfl) (by kernel_rfl) (by kernel_rfl) (fun _ _ _ h => h) (Or.inr ⟨by rfl, rfl⟩) (by assumption) ?_
        simp only [Act.put, List.setIfInBounds_toArray, List.set_cons_zero, List.set_cons_succ]
        refine takeH (i := 13) (d := 25) (v := undef) rfl rfl (by kernel_rfl) (by kernel_rfl) (by kernel_rfl) (fun _ _ _ h => h) (Or.inr ⟨by rfl, rfl⟩) (by assumption) ?_
        simp only [Act.put, List.setIfInBounds_toArray, List.set_cons_zero, List.set_cons_succ]
        refine takeH (i := 14) (d := 26) (v := undef) rfl rfl (by kernel_rfl) (by kernel_rfl) (by kernel_rfl) (fun _ _ _ h => h) (Or.inr ⟨by rfl, rfl⟩) (by assumption) ?_
        simp only [Act.put, List.setIfInBounds_toArray, List.set_cons_zero, List.set_cons_succ]
        refine takeH (i := 15) (d := 27) (v := undef) rfl rfl (by kernel_rfl) (by kernel_rfl) (by kernel_rfl) (fun _ _ _ h => h) (Or.inr ⟨by rfl, rfl⟩) (by assumption) ?_
        simp only [Act.put, List.setIfInBounds_toArray, List.set_cons_zero, List.set_cons_succ]
        refine takeH (i := 16) (d := 28) (v := undef) rfl rfl (by kernel_rfl) (by kernel_rfl) (by kernel_rfl) (fun _ _ _ h => h) (Or.inr ⟨by rfl, rfl⟩) (by assumption) ?_
        simp only [Act.put, List.setIfInBounds_toArray, List.set_cons_zero, List.set_cons_succ]
        refine takeH (i := 17) (d := 29) (v := undef) rfl rfl (by kernel_rfl) (by kernel_rfl) (by kernel_rfl) (fun _ _ _ h => h) (Or.inr ⟨by rfl, rfl⟩) (by assumption) ?_
        simp only [Act.put, List.setIfInBounds_toArray, List.set_cons_zero, List.set_cons_succ]
        refine takeH (i := 18) (d := 30) (v := undef) rfl rfl (by kernel_rfl) (by kernel_rfl) (by kernel_rfl) (fun _ _ _ h => h) (Or.inr ⟨by rfl, rfl⟩) (by assumption) ?_
        simp only [Act.put, List.setIfInBounds_toArray, List.set_cons_zero, List.set_cons_succ]
        refine takeH (i := 19) (d := 31) (v := undef) rfl rfl (by kernel_rfl) (by kernel_rfl) (by kernel_rfl) (fun _ _ _ h => h) (Or.inr ⟨by rfl, rfl⟩) (by assumption) ?_
        simp only [Act.put, List.setIfInBounds_toArray, List.set_cons_zero, List.set_cons_succ]
        refine takeH (i := 20) (d := 32) (v := undef) rfl rfl (by kernel_rfl) (by kernel_rfl) (by kernel_rfl) (fun _ _ _ h => h) (Or.inr ⟨by rfl, rfl⟩) (by assumption) ?_
        simp only [Act.put, List.setIfInBounds_toArray, List.set_cons_zero, List.set_cons_succ]
        refine takeH (i := 21) (d := 33) (v := .bool false) rfl rfl (by kernel_rfl) (by kernel_rfl) (by kernel_rfl) (fun _ _ _ h => h) (Or.inl ⟨by rfl, ?_⟩) (by assumption) ?_
        · intro w hSw; go_simp
        simp only [Act.put, List.setIfInBounds_toArray, List.set_cons_zero, List.set_cons_succ]
        refine takeH (i := 22) (d := 34) (v := .bool false) rfl rfl (by kernel_rfl) (by kernel_rfl) (by kernel_rfl) (fun _ _ _ h => h) (Or.inl ⟨by rfl, ?_⟩) (by assumption) ?_
        · intro w hSw; go_simp
        simp only [Act.put, List.setIfInBounds_toArray, List.set_cons_zero, List.set_cons_succ]
        refine wpAnyH_done (by kernel_rfl) ?_ _
        go_wp2
        go_roundw
        case rel => exact ⟨k + 1, by omega, by go_num, grown_trans G.out GK.out, O.out.kept GK.out, E.out⟩
        case measure => simp [intOf]; omega
      · obtain ⟨j, rfl⟩ : ∃ j, k = j + 1 := ⟨k - 1, by omega⟩
        have e0 := kept G.out (HC.out j (by omega))
        have HE := Lib.hid (rise_next hv)
        have HV := Lib.hid hv
        clear hv hk0
        generalize hy : vs[j + 1]?.getD 0 = y at *
        generalize hz : vs[j]?.getD 0 = z at *
        clear hy hz
        have hw : IntKind.i64.wrap (j : Int) = (j : Int) := IntWalk.i64_in _ (by omega)
        have f1 : (0 : Int) ≤ (j : Int) + 1 := by omega
        have f2 : (j : Int) + 1 < (m : Int) := by omega
        have f3 : ((j : Int) + 1).toNat = j + 1 := by omega
        have f4 : (j : Int) < (m : Int) := by omega
        have f5 : (0 : Int) < (j : Int) + 1 := by omega
        have HSS : Hid ((fun w' : World => w'.cell? ⟨w.heap.size, 0, none⟩ = some (.int .i64 V) ∧ w'.cell? ⟨w.heap.size, 1, none⟩ = some (.slice A n c) ∧ w'.cell? ⟨b, off + (j + 1), none⟩ = some (.int .i64 y) ∧ w'.cell? ⟨b, off + j, none⟩ = some (.int .i64 z)) wr) := ⟨c0, c1, d0, e0⟩
        by_cases hzy : y ≤ z
        · have E : Hid (vertsB V vs = false) := HNO.out (by rw [HE.out]; simp; omega)
          clear HNO HE HA
          go_wp2_with fail
          go_region_held3 (fun w' : World => w'.cell? ⟨w.heap.size, 0, none⟩ = some (.int .i64 V) ∧ w'.cell? ⟨w.heap.size, 1, none⟩ = some (.slice A n c) ∧ w'.cell? ⟨b, off + (j + 1), none⟩ = some (.int .i64 y) ∧ w'.cell? ⟨b, off + j, none⟩ = some (.int .i64 z)) (exact HSS.out)
            (first
            | (go_at_call 33; refine (RVertex_any V y A n c _).mono ?_; rintro e w8 ⟨he, g⟩; rw [HV.out] at he; subst he; have GK : Hid (wr.grownBy w8 none) := (by first | exact grown_trans GK.out g | exact grown_trans (grown_drew GK.out) g | exact grown_trans (grown_drewN GK.out _) g); have HSS := Lib.hid (held4c g HSS.out); clear g))
          go_wp2
          go_ret
          exact ⟨ret_bool E.out, grown_trans G.out GK.out⟩
        · have E : Hid ((List.range (j + 1 + 1)).all (riseB V vs) = true) := rise_more HA.out (by rw [HE.out]; simp; omega)
          clear HNO HE HA
          go_wp2_with fail
          go_region_held3 (fun w' : World => w'.cell? ⟨w.heap.size, 0, none⟩ = some (.int .i64 V) ∧ w'.cell? ⟨w.heap.size, 1, none⟩ = some (.slice A n c) ∧ w'.cell? ⟨b, off + (j + 1), none⟩ = some (.int .i64 y) ∧ w'.cell? ⟨b, off + j, none⟩ = some (.int .i64 z)) (exact HSS.out)
            (first
            | (go_at_call 33; refine (RVertex_any V y A n c _).mono ?_; rintro e w8 ⟨he, g⟩; rw [HV.out] at he; subst he; have GK : Hid (wr.grownBy w8 none) := (by first | exact grown_trans GK.out g | exact grown_trans (grown_drew GK.out) g | exact grown_trans (grown_drewN GK.out _) g); have HSS := Lib.hid (held4c g HSS.out); clear g))
          go_wp2
          go_roundw
          case rel => exact ⟨j + 1 + 1, by omega, by go_num, grown_trans G.out GK.out, O.out.kept GK.out, E.out⟩
          case measure => simp [intOf]; omega
    · obtain rfl : k = m := by omega
      have E : Hid (vertsB V vs = true) := by rw [Hid, vertsB, HL.out]; exact HA.out
      clear hg hall ob
      go_wp2
      go_ret
      exact ⟨ret_bool E.out, G.out⟩

end Go.Proofs.Ytppcncblmakekaa

set_option maxRecDepth 20000
namespace Go.Proofs.Ytppcncblmakekaa

def linkB (n : Nat) (l : Int) : Bool := decide (0 ≤ l) && decide (l < (n : Int))
def allL (n : Nat) (xs : List Int) : Bool := xs.all (linkB n)
def frm (L : List Lk) (l : Int) : Int := (at3 L l.toNat).1
def tow (L : List Lk) (l : Int) : Int := (at3 L l.toNat).2.1
def chain (L : List Lk) : Int → List Int → Bool
  | _, [] => true
  | s, x :: r => frm L x == s && chain L (tow L x) r
def endOf (L : List Lk) : Int → List Int → Int
  | s, [] => s
  | _, x :: r => endOf L (tow L x) r
def vsOf (L : List Lk) (s : Int) (xs : List Int) : List Int := s :: xs.map (tow L)
def formW (V : Int) (L : List Lk) (s : Int) (xs : List Int) : Bool := mayG V L && isV V s && decide (xs.length ≤ 64) && allL L.length xs
def goesW (V : Int) (L : List Lk) (s : Int) (xs : List Int) : Bool := formW V L s xs && chain L s xs
def walkE (V : Int) (L : List Lk) (s : Int) (xs : List Int) : Int := if formW V L s xs then (if chain L s xs then 0 else 601) else 600
def walkV (V : Int) (L : List Lk) (s : Int) (xs : List Int) : List Int := if goesW V L s xs then vsOf L s xs else []
def noDup (xs : List Int) : Bool := decide xs.Nodup
def mayP (V : Int) (L : List Lk) (s d : Int) (xs : List Int) : Bool := goesW V L s xs && !xs.isEmpty && ((vsOf L s xs)[xs.length]?.getD 0 == d) && noDup (vsOf L s xs)

def idx (x : Int) : List Int → Option Nat
  | [] => none
  | y :: r => if y = x then some 0 else (idx x r).map (· + 1)
def idxV (x : Int) (xs : List Int) : Int := match idx x xs with | some k => (k : Int) | none => -1

def stepS (L : List Lk) (s : Int) (kept : List Int) (l : Int) : List Int := match idx (tow L l) (vsOf L s kept) with | some i => kept.take i | none => kept ++ [l]
def simK (L : List Lk) (s : Int) (xs : List Int) : List Int := xs.foldl (stepS L s) []
def simV (V : Int) (L : List Lk) (s : Int) (xs : List Int) : List Int := if goesW V L s xs then simK L s xs else []

theorem walk_form {V : Int} {L : List Lk} {s : Int} {xs : List Int} (h : formW V L s xs = false) : walkE V L s xs = 600 ∧ walkV V L s xs = [] ∧ simV V L s xs = [] := by simp [walkE, walkV, simV, goesW, h]
theorem walk_broken {V : Int} {L : List Lk} {s : Int} {xs : List Int} (h : formW V L s xs = true) (k : chain L s xs = false) : walkE V L s xs = 601 ∧ walkV V L s xs = [] ∧ simV V L s xs = [] := by simp [walkE, walkV, simV, goesW, h, k]
theorem walk_goes {V : Int} {L : List Lk} {s : Int} {xs : List Int} (h : formW V L s xs = true) (k : chain L s xs = true) : walkE V L s xs = 0 ∧ walkV V L s xs = vsOf L s xs ∧ simV V L s xs = simK L s xs := by simp [walkE, walkV, simV, goesW, h, k]

theorem walk_ok {V : Int} {L : List Lk} {s : Int} {xs : List Int} (h : goesW V L s xs = true) : walkE V L s xs = 0 ∧ walkV V L s xs = vsOf L s xs ∧ simV V L s xs = simK L s xs := by
  simp only [goesW, Bool.and_eq_true] at h
  exact walk_goes h.1 h.2

theorem walk_no {V : Int} {L : List Lk} {s : Int} {xs : List Int} (h : goesW V L s xs = false) : (walkE V L s xs = 600 ∨ walkE V L s xs = 601) ∧ walkV V L s xs = [] ∧ simV V L s xs = [] := by
  cases hf : formW V L s xs
  · exact ⟨.inl (walk_form hf).1, (walk_form hf).2⟩
  · cases hc : chain L s xs
    · exact ⟨.inr (walk_broken hf hc).1, (walk_broken hf hc).2⟩
    · simp [goesW, hf, hc] at h

theorem goes_parts {V : Int} {L : List Lk} {s : Int} {xs : List Int} (h : goesW V L s xs = true) : mayG V L = true ∧ (0 ≤ s ∧ s < V) ∧ xs.length ≤ 64 ∧ allL L.length xs = true ∧ chain L s xs = true := by
  simp only [goesW, formW, isV, Bool.and_eq_true, decide_eq_true_eq] at h
  obtain ⟨⟨⟨⟨a, b⟩, c⟩, d⟩, e⟩ := h
  exact ⟨a, b, c, d, e⟩

theorem goes_mk {V : Int} {L : List Lk} {s : Int} {xs : List Int} (a : mayG V L = true) (b : 0 ≤ s ∧ s < V) (c : xs.length ≤ 64) (d : allL L.length xs = true) (e : chain L s xs = true) : goesW V L s xs = true := by
  simp [goesW, formW, isV, a, b.1, b.2, c, d, e]

theorem allL_get {n : Nat} {xs : List Int} (h : allL n xs = true) {i : Nat} (hi : i < xs.length) : ∃ j : Nat, j < n ∧ xs[i]?.getD 0 = (j : Int) := by
  have := List.all_eq_true.1 h _ (List.getElem_mem hi)
  simp only [linkB, Bool.and_eq_true, decide_eq_true_eq] at this
  rw [List.getElem?_eq_getElem hi, Option.getD_some]
  exact ⟨xs[i].toNat, by omega, by omega⟩

theorem take_next {xs : List Int} {i : Nat} (h : i < xs.length) : xs.take (i + 1) = xs.take i ++ [xs[i]?.getD 0] := by
  rw [List.take_add_one, List.getElem?_eq_getElem h]; rfl

theorem allL_step {n : Nat} {xs : List Int} {k : Nat} (h : k < xs.length) : allL n (xs.take (k + 1)) = (allL n (xs.take k) && linkB n (xs[k]?.getD 0)) := by
  rw [take_next h, allL, allL, List.all_append]
  simp

theorem allL_no {n : Nat} {xs : List Int} {k : Nat} (h : k < xs.length) (hk : linkB n (xs[k]?.getD 0) = false) : allL n xs = false := by
  rw [List.getElem?_eq_getElem h, Option.getD_some] at hk
  cases e : allL n xs
  · rfl
  · rw [List.all_eq_true.1 e _ (List.getElem_mem h)] at hk
    cases hk

theorem vsOf_len (L : List Lk) (s : Int) (xs : List Int) : (vsOf L s xs).length = xs.length + 1 := by simp [vsOf]

theorem vsOf_take (L : List Lk) (s : Int) (xs : List Int) (k : Nat) : vsOf L s (xs.take k) = (vsOf L s xs).take (k + 1) := by simp [vsOf, List.map_take]

theorem vsOf_app (L : List Lk) (s : Int) (xs : List Int) (l : Int) : vsOf L s (xs ++ [l]) = vsOf L s xs ++ [tow L l] := by simp [vsOf]

theorem vsOf_next (L : List Lk) (s : Int) {xs : List Int} {k : Nat} (h : k < xs.length) : vsOf L s (xs.take (k + 1)) = vsOf L s (xs.take k) ++ [tow L (xs[k]?.getD 0)] := by
  rw [take_next h, vsOf_app]

theorem chain_app (L : List Lk) : ∀ (a b : List Int) (s : Int), chain L s (a ++ b) = (chain L s a && chain L (endOf L s a) b)
  | [], b, s => by simp [chain, endOf]
  | x :: r, b, s => by simp [chain, endOf, chain_app L r b, Bool.and_assoc]

theorem end_app (L : List Lk) : ∀ (a b : List Int) (s : Int), endOf L s (a ++ b) = endOf L (endOf L s a) b
  | [], b, s => by simp [endOf]
  | x :: r, b, s => by simp [endOf, end_app L r b]

theorem end_at (L : List Lk) : ∀ (xs : List Int) (s : Int), (vsOf L s xs)[xs.length]?.getD 0 = endOf L s xs
  | [], s => by simp [vsOf, endOf]
  | x :: r, s => by have := end_at L r (tow L x); simpa [vsOf, endOf] using this

theorem end_take (L : List Lk) (s : Int) {xs : List Int} {k : Nat} (h : k ≤ xs.length) : endOf L s (xs.take k) = (vsOf L s xs)[k]?.getD 0 := by
  rw [← end_at, vsOf_take, List.length_take, Nat.min_eq_left h, List.getElem?_take_of_lt (by omega)]

theorem chain_take {L : List Lk} {s : Int} {xs : List Int} (h : chain L s xs = true) (k : Nat) : chain L s (xs.take k) = true := by
  rw [← List.take_append_drop k xs, chain_app, Bool.and_eq_true] at h
  exact h.1

theorem chain_step {L : List Lk} {s : Int} {xs : List Int} {k : Nat} (h : k < xs.length) (hc : chain L s (xs.take k) = true) (hf : frm L (xs[k]?.getD 0) = (vsOf L s (xs.take k))[k]?.getD 0) : chain L s (xs.take (k + 1)) = true := by
  have e := end_at L (xs.take k) s
  rw [List.length_take, Nat.min_eq_left (by omega)] at e
  rw [take_next h, chain_app, hc]
  simp [chain, hf, e]

theorem chain_stop {L : List Lk} {s : Int} {xs : List Int} {k : Nat} (h : k < xs.length) (hf : ¬ frm L (xs[k]?.getD 0) = (vsOf L s (xs.take k))[k]?.getD 0) : chain L s xs = false := by
  cases hc : chain L s xs
  · rfl
  · have h1 := chain_take hc (k + 1)
    have e := end_at L (xs.take k) s
    rw [List.length_take, Nat.min_eq_left (by omega)] at e
    rw [take_next h, chain_app] at h1
    simp only [chain, Bool.and_true, Bool.and_eq_true, beq_iff_eq] at h1
    exact absurd (h1.2.trans e.symm) hf

theorem idx_mem {x : Int} : ∀ {xs : List Int}, (idx x xs).isSome = decide (x ∈ xs)
  | [] => by simp [idx]
  | y :: r => by
    by_cases h : y = x
    · simp [idx, h]
    · have h' : ¬ x = y := fun e => h e.symm
      simp [idx, h, h', idx_mem (xs := r)]

theorem idx_none {x : Int} {xs : List Int} : idx x xs = none ↔ x ∉ xs := by
  have h := idx_mem (x := x) (xs := xs)
  cases e : idx x xs
  · simp [e] at h; simp [h]
  · simp [e] at h; simp [h]

theorem idx_of {x : Int} : ∀ {xs : List Int} {k : Nat}, k < xs.length → xs[k]?.getD 0 = x → (∀ j, j < k → ¬ xs[j]?.getD 0 = x) → idx x xs = some k
  | [], _, h, _, _ => absurd h (by simp)
  | y :: r, 0, _, e, _ => by simp at e; simp [idx, e]
  | y :: r, k + 1, h, e, n => by
    have h0 := n 0 (by omega)
    simp at h0
    rw [idx, if_neg h0, idx_of (xs := r) (k := k) (by simpa using h) (by simpa using e) (fun j hj => by have := n (j + 1) (by omega); simpa using this)]
    rfl

theorem idx_some {x : Int} : ∀ {xs : List Int} {k : Nat}, idx x xs = some k → k < xs.length ∧ xs[k]?.getD 0 = x
  | [], _, h => by simp [idx] at h
  | y :: r, k, h => by
    rw [idx] at h
    by_cases e : y = x
    · rw [if_pos e] at h
      injection h with h
      subst h
      simp [e]
    · rw [if_neg e] at h
      cases hr : idx x r with
      | none => rw [hr] at h; cases h
      | some j =>
        rw [hr] at h
        injection h with h
        subst h
        obtain ⟨a, b⟩ := idx_some hr
        exact ⟨by simpa using a, by simpa using b⟩

theorem not_mem_of {x : Int} {xs : List Int} (h : ∀ j, j < xs.length → ¬ xs[j]?.getD 0 = x) : x ∉ xs := by
  intro hx
  obtain ⟨i, hi, e⟩ := List.getElem_of_mem hx
  exact h i hi (by rw [List.getElem?_eq_getElem hi]; exact e)

theorem idxV_none {x : Int} {xs : List Int} (h : ∀ j, j < xs.length → ¬ xs[j]?.getD 0 = x) : idxV x xs = -1 := by
  rw [idxV, idx_none.2 (not_mem_of h)]

theorem idxV_some {x : Int} {xs : List Int} {k : Nat} (hk : k < xs.length) (e : xs[k]?.getD 0 = x) (h : ∀ j, j < k → ¬ xs[j]?.getD 0 = x) : idxV x xs = (k : Int) := by
  rw [idxV, idx_of hk e h]

theorem idxV_ge (x : Int) (xs : List Int) : decide (0 ≤ idxV x xs) = decide (x ∈ xs) := by
  rw [← idx_mem (x := x) (xs := xs), idxV]
  cases idx x xs <;> simp

theorem nodup_step {xs : List Int} {k : Nat} (h : k < xs.length) : noDup (xs.take (k + 1)) = (noDup (xs.take k) && !decide (xs[k]?.getD 0 ∈ xs.take k)) := by
  rw [take_next h, noDup, noDup, Bool.eq_iff_iff]
  simp only [decide_eq_true_eq, Bool.and_eq_true, Bool.not_eq_true', decide_eq_false_iff_not, List.nodup_append, List.mem_singleton]
  constructor
  · rintro ⟨a, _, b⟩
    exact ⟨a, fun hm => b _ hm _ rfl rfl⟩
  · rintro ⟨a, b⟩
    exact ⟨a, by simp, fun y hy z hz e => b (hz ▸ e ▸ hy)⟩

theorem nodup_stop {xs : List Int} {k : Nat} (h : k < xs.length) (hm : xs[k]?.getD 0 ∈ xs.take k) : noDup xs = false := by
  cases e : noDup xs
  · rfl
  · have h1 : noDup (xs.take (k + 1)) = true := by
      simp only [noDup, decide_eq_true_eq] at e ⊢
      exact e.sublist (List.take_sublist _ _)
    rw [nodup_step h] at h1
    simp [hm] at h1

theorem mem_take_of {xs : List Int} {i j : Nat} (hj : j < i) (hi : i ≤ xs.length) : xs[j]?.getD 0 ∈ xs.take i := by
  rw [List.getElem?_eq_getElem (by omega), Option.getD_some]
  exact List.mem_iff_getElem.2 ⟨j, by simp; omega, by simp⟩

/-- What is left of a walk: it goes from the same vertex to the same one, and comes to none twice. -/
structure Left (L : List Lk) (s : Int) (kept : List Int) (cur : Int) : Prop where
  ch : chain L s kept = true
  en : endOf L s kept = cur
  nd : (vsOf L s kept).Nodup

theorem step_some {L : List Lk} {s l : Int} {kept : List Int} {i : Nat} (h : idx (tow L l) (vsOf L s kept) = some i) : stepS L s kept l = kept.take i := by rw [stepS, h]
theorem step_none {L : List Lk} {s l : Int} {kept : List Int} (h : idx (tow L l) (vsOf L s kept) = none) : stepS L s kept l = kept ++ [l] := by rw [stepS, h]

theorem Left.step {L : List Lk} {s cur l : Int} {kept : List Int} (h : Left L s kept cur) (hf : frm L l = cur) : Left L s (stepS L s kept l) (tow L l) := by
  cases hi : idx (tow L l) (vsOf L s kept) with
  | some i =>
    rw [step_some hi]
    obtain ⟨a, b⟩ := idx_some hi
    rw [vsOf_len] at a
    refine ⟨chain_take h.ch i, ?_, ?_⟩
    · rw [end_take L s (by omega), b]
    · rw [vsOf_take]; exact h.nd.sublist (List.take_sublist _ _)
  | none =>
    rw [step_none hi]
    refine ⟨?_, ?_, ?_⟩
    · rw [chain_app, h.ch, h.en]; simp [chain, hf]
    · rw [end_app]; simp [endOf]
    · rw [vsOf_app, List.nodup_append]
      exact ⟨h.nd, by simp, fun y hy z hz e => idx_none.1 hi (by simp at hz; rw [← hz, ← e]; exact hy)⟩

theorem Left.fold {L : List Lk} {s : Int} : ∀ (xs kept : List Int) (cur : Int), Left L s kept cur → chain L cur xs = true → Left L s (xs.foldl (stepS L s) kept) (endOf L cur xs)
  | [], kept, cur, h, _ => h
  | x :: r, kept, cur, h, hc => by
    simp only [chain, Bool.and_eq_true, beq_iff_eq] at hc
    exact Left.fold r _ _ (h.step hc.1) hc.2

theorem left_of {L : List Lk} {s : Int} {xs : List Int} (h : chain L s xs = true) : Left L s (simK L s xs) (endOf L s xs) := Left.fold xs [] s ⟨rfl, rfl, by simp [vsOf]⟩ h

theorem step_mem {L : List Lk} {s l : Int} {kept : List Int} {x : Int} (h : x ∈ stepS L s kept l) : x ∈ kept ∨ x = l := by
  cases hi : idx (tow L l) (vsOf L s kept) with
  | some i => rw [step_some hi] at h; exact .inl (List.mem_of_mem_take h)
  | none => rw [step_none hi] at h; simpa using h

theorem fold_mem {L : List Lk} {s : Int} : ∀ (xs kept : List Int) (x : Int), x ∈ xs.foldl (stepS L s) kept → x ∈ kept ∨ x ∈ xs
  | [], kept, x, h => .inl h
  | y :: r, kept, x, h => by
    rcases fold_mem r _ x h with h | h
    · rcases step_mem h with h | h
      · exact .inl h
      · exact .inr (by simp [h])
    · exact .inr (by simp [h])

theorem sim_mem {L : List Lk} {s : Int} {xs : List Int} {x : Int} (h : x ∈ simK L s xs) : x ∈ xs := by
  rcases fold_mem xs [] x h with h | h
  · simp at h
  · exact h

theorem step_len (L : List Lk) (s l : Int) (kept : List Int) : (stepS L s kept l).length ≤ kept.length + 1 := by
  cases hi : idx (tow L l) (vsOf L s kept) with
  | some i => rw [step_some hi, List.length_take]; omega
  | none => rw [step_none hi]; simp

theorem fold_len (L : List Lk) (s : Int) : ∀ (xs kept : List Int), (xs.foldl (stepS L s) kept).length ≤ kept.length + xs.length
  | [], kept => by simp
  | y :: r, kept => by
    have := fold_len L s r (stepS L s kept y)
    have := step_len L s y kept
    simp only [List.foldl_cons, List.length_cons]
    omega

theorem sim_len (L : List Lk) (s : Int) (xs : List Int) : (simK L s xs).length ≤ xs.length := by
  have := fold_len L s xs []
  simpa [simK] using this

theorem sim_step (L : List Lk) (s : Int) {xs : List Int} {k : Nat} (h : k < xs.length) : simK L s (xs.take (k + 1)) = stepS L s (simK L s (xs.take k)) (xs[k]?.getD 0) := by
  rw [take_next h, simK, simK, List.foldl_append]
  rfl

theorem sim_same {L : List Lk} {s : Int} {xs : List Int} (h : (vsOf L s xs).Nodup) : ∀ k, k ≤ xs.length → simK L s (xs.take k) = xs.take k
  | 0, _ => by simp [simK]
  | k + 1, hk => by
    rw [sim_step L s (by omega), sim_same h k (by omega)]
    have hn : idx (tow L (xs[k]?.getD 0)) (vsOf L s (xs.take k)) = none := by
      rw [idx_none]
      have h1 : (vsOf L s (xs.take (k + 1))).Nodup := by rw [vsOf_take]; exact h.sublist (List.take_sublist _ _)
      rw [vsOf_next L s (by omega), List.nodup_append] at h1
      exact fun hm => h1.2.2 _ hm _ (by simp) rfl
    rw [step_none hn, ← take_next (by omega)]

theorem allL_mem {n : Nat} {xs ys : List Int} (h : allL n xs = true) (k : ∀ x ∈ ys, x ∈ xs) : allL n ys = true :=
  List.all_eq_true.2 fun x hx => List.all_eq_true.1 h x (k x hx)

theorem sim_goes {V : Int} {L : List Lk} {s : Int} {xs : List Int} (h : goesW V L s xs = true) :
    goesW V L s (simK L s xs) = true ∧ (vsOf L s (simK L s xs)).Nodup ∧ endOf L s (simK L s xs) = endOf L s xs ∧ simK L s (simK L s xs) = simK L s xs := by
  obtain ⟨a, b, c, d, e⟩ := goes_parts h
  have l := left_of e
  refine ⟨goes_mk a b (by have := sim_len L s xs; omega) (allL_mem d fun x hx => sim_mem hx) l.ch, l.nd, l.en, ?_⟩
  have := sim_same l.nd _ (Nat.le_refl _)
  simpa using this

theorem tow_in {V : Int} {L : List Lk} (h : mayG V L = true) {x : Int} (hx : linkB L.length x = true) : 0 ≤ tow L x ∧ tow L x < V := by
  simp only [linkB, Bool.and_eq_true, decide_eq_true_eq] at hx
  have := may_joins h (i := x.toNat) (by omega)
  exact ⟨this.2.2.1, this.2.2.2.1⟩

theorem end_in {V : Int} {L : List Lk} (h : mayG V L = true) : ∀ (xs : List Int) (s : Int), allL L.length xs = true → (0 ≤ s ∧ s < V) → 0 ≤ endOf L s xs ∧ endOf L s xs < V
  | [], s, _, hs => hs
  | x :: r, s, ha, hs => by
    simp only [allL, List.all_cons, Bool.and_eq_true] at ha
    exact end_in h r _ ha.2 (tow_in h ha.1)

theorem vs_in {V : Int} {L : List Lk} (h : mayG V L = true) {xs : List Int} {s : Int} (ha : allL L.length xs = true) (hs : 0 ≤ s ∧ s < V) : ∀ x ∈ vsOf L s xs, 0 ≤ x ∧ x < V := by
  intro x hx
  rcases List.mem_cons.1 hx with rfl | hx
  · exact hs
  · obtain ⟨y, hy, rfl⟩ := List.mem_map.1 hx
    exact tow_in h (List.all_eq_true.1 ha y hy)

theorem get_in {xs : List Int} {lo hi : Int} (h : ∀ x ∈ xs, lo ≤ x ∧ x ≤ hi) (h0 : lo ≤ 0 ∧ 0 ≤ hi) (i : Nat) : lo ≤ xs[i]?.getD 0 ∧ xs[i]?.getD 0 ≤ hi := by
  rcases Nat.lt_or_ge i xs.length with k | k
  · rw [List.getElem?_eq_getElem k, Option.getD_some]; exact h _ (List.getElem_mem k)
  · rw [List.getElem?_eq_none k]; exact h0

theorem walkV_ok (V : Int) (L : List Lk) (s : Int) (xs : List Int) (i : Nat) : -9223372036854775808 ≤ (walkV V L s xs)[i]?.getD 0 ∧ (walkV V L s xs)[i]?.getD 0 ≤ 9223372036854775807 := by
  cases h : goesW V L s xs
  · rw [(walk_no h).2.1]; simp
  · rw [(walk_ok h).2.1]
    obtain ⟨a, b, c, d, e⟩ := goes_parts h
    have := may_small a
    exact get_in (fun x hx => by have := vs_in a d b x hx; omega) (by omega) i

theorem simV_ok (V : Int) (L : List Lk) (s : Int) (xs : List Int) (i : Nat) : -9223372036854775808 ≤ (simV V L s xs)[i]?.getD 0 ∧ (simV V L s xs)[i]?.getD 0 ≤ 9223372036854775807 := by
  cases h : goesW V L s xs
  · rw [(walk_no h).2.2]; simp
  · rw [(walk_ok h).2.2]
    obtain ⟨a, b, c, d, e⟩ := goes_parts h
    have := may_small a
    refine get_in (fun x hx => ?_) (by omega) i
    have := List.all_eq_true.1 d x (sim_mem hx)
    simp only [linkB, Bool.and_eq_true, decide_eq_true_eq] at this
    omega

end Go.Proofs.Ytppcncblmakekaa

set_option maxRecDepth 20000
namespace Go.Proofs.Ytppcncblmakekaa
open Go.RowKit

def IdxRel (w : World) (n : Nat) (x : Int) (xs : List Int) (i : Value) (wr : World) : Prop :=
  ∃ k : Nat, k ≤ n ∧ i = .int .i64 (k : Nat) ∧ w.grownBy wr none ∧ ∀ j, j < k → ¬ xs[j]?.getD 0 = x

def AreRel (w : World) (V : Int) (A : Option Addr) (n c m : Nat) (xs : List Int) (i : Value) (wr : World) : Prop :=
  ∃ k : Nat, k ≤ m ∧ i = .int .i64 (k : Nat) ∧ w.grownBy wr none ∧ Own wr w.heap.size 24 [.int .i64 V, .slice A n c] ∧ allL n (xs.take k) = true

theorem allV_links (n : Nat) (xs : List Int) : allV (n : Int) xs = allL n xs := rfl

def linksR (n : Nat) (xs : List Int) : Bool := decide (xs.length ≤ 64) && allL n xs

def TwiceRel (w : World) (n : Nat) (xs : List Int) (i : Value) (wr : World) : Prop :=
  ∃ k : Nat, k ≤ n ∧ i = .int .i64 (k : Nat) ∧ w.grownBy wr none ∧ noDup (xs.take k) = true

def TwiceIn (w : World) (k : Nat) (x : Int) (xs : List Int) (i : Value) (wr : World) : Prop :=
  ∃ j : Nat, j ≤ k ∧ i = .int .i64 (j : Nat) ∧ w.grownBy wr none ∧ ∀ t, t < j → ¬ xs[t]?.getD 0 = x

theorem nodup_next {xs : List Int} {k : Nat} (hk : k < xs.length) (h : noDup (xs.take k) = true) (n : ∀ t, t < k → ¬ xs[t]?.getD 0 = xs[k]?.getD 0) : noDup (xs.take (k + 1)) = true := by
  rw [nodup_step hk, h]
  have : ¬ xs[k]?.getD 0 ∈ xs.take k := not_mem_of fun j hj => by
    rw [List.length_take] at hj
    rw [List.getElem?_take_of_lt (by omega)]
    exact n j (by omega)
  simp [this]

end Go.Proofs.Ytppcncblmakekaa

set_option maxRecDepth 20000
namespace Go.Proofs.Ytppcncblmakekaa
open Go.RowKit

set_option maxHeartbeats 1000000 in
theorem RCutMay_any (V s t : Int) (A : Option Addr) (n c : Nat) (L : List Lk) (X : Option Addr) (m d : Nat) (vs : List Int) (w : World) {B B' : Nat} (h : Lks w B A n L) (hB : B ≤ w.heap.size) (hx : Row w B' X m vs) (hB' : B' ≤ w.heap.size) :
    Calls Try.prog 19 #[.agg #[.int .i64 V, .slice A n c], .int .i64 s, .int .i64 t, .slice X m d] w (Says w (.bool (cutB V L s t vs))) := by
  have HX := Lib.hid hx
  have HR1 := Lib.hid (h.grown hB (grow0 w (.cells #[.int .i64 V, .slice A n c] 24)))
  have HE := Lib.hid (cut_ref V L s t vs)
  clear h hx
  go_enter Try.func19, Try.ntmps19
  go_wp2_with fail
  refine (RMay_any V A n c L _ HR1.out).mono ?_
  rintro e w1 ⟨rfl, g1⟩
  obtain ⟨g, o2⟩ := box1 [.int .i64 V, .slice A n c] g1
  obtain ⟨c0, c1⟩ := o2.two
  have G := Lib.hid g
  have O2 := Lib.hid o2
  clear g g1 o2 HR1
  cases hmay : mayG V L
  · have E : Hid (cutB V L s t vs = false) := by rw [Hid, HE.out, hmay]; rfl
    clear HE hmay
    go_wp2
    go_ret
    exact ⟨ret_bool E.out, G.out⟩
  rw [hmay, Bool.true_and] at HE
  clear hmay
  go_wp2_with fail
  refine (RVertex_any V s A n c _).mono ?_
  rintro e w2 ⟨rfl, g2⟩
  have G := Lib.hid (grown_trans G.out g2)
  have O2 := Lib.hid (O2.out.kept g2)
  clear g2 c0 c1
  obtain ⟨c0, c1⟩ := O2.out.two
  cases hs : isV V s
  · have E : Hid (cutB V L s t vs = false) := by rw [Hid, HE.out, hs]; rfl
    clear HE hs
    go_wp2
    go_ret
    exact ⟨ret_bool E.out, G.out⟩
  rw [hs, Bool.true_and] at HE
  clear hs
  go_wp2_with fail
  refine (RVertex_any V t A n c _).mono ?_
  rintro e w3 ⟨rfl, g3⟩
  have G := Lib.hid (grown_trans G.out g3)
  have O2 := Lib.hid (O2.out.kept g3)
  clear g3 c0 c1
  obtain ⟨c0, c1⟩ := O2.out.two
  cases ht : isV V t
  · have E : Hid (cutB V L s t vs = false) := by rw [Hid, HE.out, ht]; rfl
    clear HE ht
    go_wp2
    go_ret
    exact ⟨ret_bool E.out, G.out⟩
  rw [ht, Bool.true_and] at HE
  clear ht
  go_wp2_with fail
  refine (VertsMay_any V A n c X m d vs _ (HX.out.grown hB' G.out)).mono ?_
  rintro e w4 ⟨rfl, g4⟩
  have G := Lib.hid (grown_trans G.out g4)
  clear g4 c0 c1 O2
  cases hv : vertsB V vs
  · have E : Hid (cutB V L s t vs = false) := by rw [Hid, HE.out, hv]; rfl
    clear HE hv
    go_wp2
    go_ret
    exact ⟨ret_bool E.out, G.out⟩
  rw [hv, Bool.true_and] at HE
  clear hv
  go_wp2_with fail
  refine (Among_any s X m d vs _ (HX.out.grown hB' G.out)).mono ?_
  rintro e w5 ⟨rfl, g5⟩
  have G := Lib.hid (grown_trans G.out g5)
  clear g5
  cases hsv : decide (s ∈ vs)
  · have E : Hid (cutB V L s t vs = false) := by rw [Hid, HE.out, hsv]; rfl
    clear HE hsv
    go_wp2
    go_ret
    exact ⟨ret_bool E.out, G.out⟩
  rw [hsv, Bool.true_and] at HE
  clear hsv
  go_wp2_with fail
  refine (Among_any t X m d vs _ (HX.out.grown hB' G.out)).mono ?_
  rintro e w6 ⟨rfl, g6⟩
  have G := Lib.hid (grown_trans G.out g6)
  clear g6
  cases hd : decide (t ∈ vs)
  · have E : Hid (cutB V L s t vs = true) := by rw [Hid, HE.out, hd]; rfl
    clear HE hd
    go_wp2
    go_ret
    exact ⟨ret_bool E.out, G.out⟩
  · have E : Hid (cutB V L s t vs = false) := by rw [Hid, HE.out, hd]; rfl
    clear HE hd
    go_wp2
    go_ret
    exact ⟨ret_bool E.out, G.out⟩

end Go.Proofs.Ytppcncblmakekaa

set_option maxRecDepth 20000
namespace Go.Proofs.Ytppcncblmakekaa
open Go.RowKit

def LvRel (w : World) (V : Int) (A : Option Addr) (n c : Nat) (L : List Lk) (vs : List Int) (o i : Value) (wr : World) : Prop :=
  ∃ k : Nat, k ≤ n ∧ i = .int .i64 (k : Nat) ∧ w.grownBy wr none ∧ Own wr w.heap.size 24 [.int .i64 V, .slice A n c] ∧ Mine wr (w.heap.size + 1) o (lv L vs k).length (lv L vs k)

theorem leav_may {V : Int} {L : List Lk} {vs : List Int} (h : mayG V L = false) : leavV V L vs = [] ∧ leavE V L vs = 800 := leav_no (by simp [leavB, h])
theorem leav_verts {V : Int} {L : List Lk} {vs : List Int} (h : vertsB V vs = false) : leavV V L vs = [] ∧ leavE V L vs = 800 := leav_no (by simp [leavB, h])
theorem leav_goes {V : Int} {L : List Lk} {vs : List Int} (h : mayG V L = true) (k : vertsB V vs = true) : leavV V L vs = lv L vs L.length ∧ leavE V L vs = 0 := leav_yes (by simp [leavB, h, k])
theorem leaves_from {vs : List Int} {f t cp : Int} (h : decide (f ∈ vs) = false) : leaves vs (f, t, cp) = false := by simp only [leaves, h, Bool.false_and]
theorem leaves_to {vs : List Int} {f t cp : Int} (h : decide (t ∈ vs) = true) : leaves vs (f, t, cp) = false := by simp only [leaves, h, Bool.not_true, Bool.and_false]
theorem leaves_yes {vs : List Int} {f t cp : Int} (h : decide (f ∈ vs) = true) (k : decide (t ∈ vs) = false) : leaves vs (f, t, cp) = true := by simp only [leaves, h, k, Bool.not_false, Bool.and_true]

set_option maxHeartbeats 2000000 in
theorem RLeaving_any (V : Int) (A : Option Addr) (n c : Nat) (L : List Lk) (X : Option Addr) (m d : Nat) (vs : List Int) (w : World) {B B' : Nat} (h : Lks w B A n L) (hB : B ≤ w.heap.size) (hx : Row w B' X m vs) (hB' : B' ≤ w.heap.size) :
    Calls Try.prog 32 #[.agg #[.int .i64 V, .slice A n c], .slice X m d] w (SelPost w (leavV V L vs) (leavE V L vs)) := by
  have hn := h.small
  have HL := Lib.hid h.len
  have HR := Lib.hid h
  have HX := Lib.hid hx
  have HR1 := Lib.hid (h.grown hB (grow0 w (.cells #[.int .i64 V, .slice A n c] 24)))
  clear h hx
  go_enter Try.func32, Try.ntmps32
  go_wp2_with fail
  refine (RMay_any V A n c L _ HR1.out).mono ?_
  rintro e w1 ⟨rfl, g1⟩
  obtain ⟨g, o2⟩ := box1 [.int .i64 V, .slice A n c] g1
  obtain ⟨c0, c1⟩ := o2.two
  have G := Lib.hid g
  have O2 := Lib.hid o2
  clear g g1 o2 HR1
  cases hm : mayG V L
  · have E := Lib.hid (leav_may (vs := vs) hm)
    go_wp2
    go_ret2
    exact ⟨.slice none 0 0, ret_sel E.out.2, by rw [E.out.1]; exact Mine.nil _ _, G.out⟩
  go_wp2_with fail
  refine (VertsMay_any V A n c X m d vs _ (HX.out.grown hB' G.out)).mono ?_
  rintro e w2 ⟨rfl, g2⟩
  have O2 := Lib.hid (O2.out.kept g2)
  have G := Lib.hid (grown_trans G.out g2)
  clear c0 c1
  obtain ⟨c0, c1⟩ := O2.out.two
  clear g2
  cases hv : vertsB V vs
  · have E := Lib.hid (leav_verts (V := V) (L := L) hv)
    go_wp2
    go_ret2
    exact ⟨.slice none 0 0, ret_sel E.out.2, by rw [E.out.1]; exact Mine.nil _ _, G.out⟩
  have E := Lib.hid (leav_goes hm hv)
  have h16 := may_small hm
  rw [HL.out] at h16
  have HS : Hid (LvRel w V A n c L vs (.slice none 0 0) (.int .i64 0) w2) := ⟨0, Nat.zero_le _, rfl, G.out, O2.out, Mine.nil _ _⟩
  clear G hm hv
  go_wp2
  go_loopw [6, 7] (fun o i wr => LvRel w V A n c L vs o i wr) (fun _ i _ => n - (intOf i).toNat)
  case atStart => exact HS.out
  case round =>
    clear HS c0 c1 O2
    obtain ⟨k, hk, rfl, hg, o2, hmine⟩ := hrel
    have G := Lib.hid hg
    have hsz := hg.size
    have l2 := o2.lt
    obtain ⟨c0, c1⟩ := o2.two
    have O2 := Lib.hid o2
    have HM := Lib.hid hmine
    by_cases hlt : k < n
    · obtain ⟨b, off, hA, hb, hcell⟩ := HR.out.cells (by omega)
      subst hA
      obtain ⟨d0, d1, d2⟩ := hcell k hlt
      have HD0 := Lib.hid d0
      have HD1 := Lib.hid d1
      have d0 := kept hg d0
      have hyes := Lib.hid (lv_yes (L := L) (vs := vs) (k := k))
      have hno := Lib.hid (lv_no (L := L) (vs := vs) (k := k))
      have hl := lv_len L vs k
      clear hcell hg o2 hmine d1 d2
      generalize at3 L k = l at *
      obtain ⟨f, t, cp⟩ := l
      simp only at d0 HD0 HD1
      go_wp2_with fail
      refine (Among_any f X m d vs _ (HX.out.grown hB' G.out)).mono ?_
      rintro e w3 ⟨rfl, g3⟩
      have O2 := Lib.hid (O2.out.kept g3)
      have G := Lib.hid (grown_trans G.out g3)
      have HM := Lib.hid (HM.out.kept g3)
      clear d0 c0 c1 g3
      obtain ⟨c0, c1⟩ := O2.out.two
      have d1 := kept G.out HD1.out
      cases hf : decide (f ∈ vs)
      · have HN := Lib.hid (hno.out (leaves_from hf))
        clear hyes hno hf
        go_wp2
        go_roundw
        case rel => exact ⟨k + 1, by omega, by go_num, G.out, O2.out, by rw [HN.out]; exact HM.out⟩
        case measure => simp [intOf]; omega
      go_wp2_with fail
      refine (Among_any t X m d vs _ (HX.out.grown hB' G.out)).mono ?_
      rintro e w4 ⟨rfl, g4⟩
      have O2 := Lib.hid (O2.out.kept g4)
      have G := Lib.hid (grown_trans G.out g4)
      have HM := Lib.hid (HM.out.kept g4)
      have hsz := G.out.size
      clear g4 c0 c1 d1
      cases ht : decide (t ∈ vs)
      · have HY := Lib.hid (hyes.out (leaves_yes hf ht))
        clear hyes hno hf ht
        have HM1 := Lib.hid (HM.out.kept (grow0 _ (.cells #[.int .i64 (k : Nat)] 3)))
        have HROW := Lib.hid (Row.newAt (w := w4) (g := w4.heap.size) (n := 1) (vs := #[.int .i64 (k : Nat)]) [(k : Int)] (by simp) rfl rfl (by simp) (by simp; omega))
        have l4 := O2.out.lt
        go_wp2_with (first | (at_builtin; refine wpList_app _ rfl _ _ rfl (w.heap.size + 1) _ _ _ rfl HM1.out _ 1 1 [(k : Int)] rfl HROW.out (by simp) (by omega) (by simp; omega) ?_))
        intro v1 w5 hm1 hg5 _
        have G5 := Lib.hid (grown_none (grown_alloc G.out (.cells #[.int .i64 (k : Nat)] 3)) hg5 (fun g hg => by have := HM.out.own_ge g hg; omega))
        have O5 := Lib.hid (Own.kept' (O2.out.alloc (.cells #[.int .i64 (k : Nat)] 3)) hg5 HM.out.apart)
        have HM5 := Lib.hid hm1
        clear hm1 hg5
        go_wp2
        go_roundw
        case rel => exact ⟨k + 1, by omega, by go_num, G5.out, O5.out, by rw [HY.out]; simpa using HM5.out⟩
        case measure => simp [intOf]; omega
      · have HN := Lib.hid (hno.out (leaves_to ht))
        clear hyes hno hf ht
        go_wp2
        go_roundw
        case rel => exact ⟨k + 1, by omega, by go_num, G.out, O2.out, by rw [HN.out]; exact HM.out⟩
        case measure => simp [intOf]; omega
    · obtain rfl : k = n := by omega
      clear hmine hg o2
      go_wp2
      go_ret2
      exact ⟨_, ret_sel E.out.2, by rw [E.out.1, HL.out]; exact HM.out.wide (by omega), G.out⟩

end Go.Proofs.Ytppcncblmakekaa

set_option maxRecDepth 20000
namespace Go.Proofs.Ytppcncblmakekaa
open Go.RowKit

def wthV (V : Int) (L : List Lk) (caps vs : List Int) : Value := .tuple #[.int .i64 (worthX V L caps vs), .int .i64 (worthE V L caps vs)]

theorem lv_get {L : List Lk} {vs : List Int} {j : Nat} (h : j < (lv L vs L.length).length) : ∃ i : Nat, i < L.length ∧ (lv L vs L.length)[j]?.getD 0 = (i : Int) := by
  obtain ⟨i, a, _, e⟩ := pick_get h
  exact ⟨i, a, e⟩

def WoRel (w1 : World) (q : Nat) (L : List Lk) (caps vs : List Int) (a i : Value) (wr : World) : Prop :=
  ∃ j : Nat, j ≤ q ∧ a = .int .i64 (pw L caps vs j) ∧ i = .int .i64 (j : Nat) ∧ w1.grownBy wr none

theorem worth_leav {V : Int} {L : List Lk} {caps vs : List Int} (h : leavB V L vs = false) : worthX V L caps vs = 0 ∧ worthE V L caps vs = 800 := worth_no (by simp [worthB, h])
theorem worth_caps {V : Int} {L : List Lk} {caps vs : List Int} (h : capsB L caps = false) : worthX V L caps vs = 0 ∧ worthE V L caps vs = 800 := worth_no (by simp [worthB, h])
theorem worth_goes {V : Int} {L : List Lk} {caps vs : List Int} (h : leavB V L vs = true) (k : capsB L caps = true) : worthX V L caps vs = wk L caps vs L.length ∧ worthE V L caps vs = 0 := worth_yes (by simp [worthB, h, k])

set_option maxHeartbeats 2000000 in
theorem RWorth_any (V : Int) (A : Option Addr) (n c : Nat) (L : List Lk) (Y : Option Addr) (p e0 : Nat) (caps : List Int) (X : Option Addr) (m d : Nat) (vs : List Int) (w : World) {B B' B'' : Nat} (h : Lks w B A n L) (hB : B ≤ w.heap.size) (hy : Row w B'' Y p caps) (hB'' : B'' ≤ w.heap.size) (hx : Row w B' X m vs) (hB' : B' ≤ w.heap.size) :
    Calls Try.prog 17 #[.agg #[.int .i64 V, .slice A n c], .slice Y p e0, .slice X m d] w (Says w (wthV V L caps vs)) := by
  have HL := Lib.hid h.len
  have HLY := Lib.hid hy.len
  have HR := Lib.hid h
  have HY := Lib.hid hy
  have HX := Lib.hid hx
  have HR1 := Lib.hid (h.grown hB (grow0 w (.cells #[.int .i64 V, .slice A n c] 24)))
  have HY1 := Lib.hid (hy.grown hB'' (grow0 w (.cells #[.int .i64 V, .slice A n c] 24)))
  clear h hx hy
  go_enter Try.func17, Try.ntmps17
  go_wp2_with fail
  refine (RCaps_any V A n c L Y p e0 caps _ HR1.out (by simp; omega) HY1.out).mono ?_
  rintro e w1 ⟨he, g1⟩
  obtain ⟨g, o2⟩ := box1 [.int .i64 V, .slice A n c] g1
  obtain ⟨c0, c1⟩ := o2.two
  have G := Lib.hid g
  have O2 := Lib.hid o2
  clear g g1 o2 HR1 HY1
  cases hmay : mayG V L
  · have E := Lib.hid (worth_leav (V := V) (L := L) (caps := caps) (vs := vs) (by simp [leavB, hmay]))
    rw [hmay] at he
    subst he
    clear hmay
    go_wp2
    go_ret2
    exact ⟨ret_two E.out.1 E.out.2, G.out⟩
  cases hcap : capsB L caps
  · have E := Lib.hid (worth_caps (V := V) (vs := vs) hcap)
    rw [hmay, hcap] at he
    subst he
    clear hcap hmay
    go_wp2
    go_ret2
    exact ⟨ret_two E.out.1 E.out.2, G.out⟩
  rw [hmay, hcap] at he
  subst he
  have HMAY := Lib.hid hmay
  have HCAP := Lib.hid hcap
  clear hmay hcap
  go_wp2_with fail
  refine (VertsMay_any V A n c X m d vs _ (HX.out.grown hB' G.out)).mono ?_
  rintro e w2 ⟨rfl, g2⟩
  have G := Lib.hid (grown_trans G.out g2)
  have O2 := Lib.hid (O2.out.kept g2)
  clear g2 c0 c1
  obtain ⟨c0, c1⟩ := O2.out.two
  cases hv : vertsB V vs
  · have E := Lib.hid (worth_leav (V := V) (L := L) (caps := caps) (vs := vs) (by simp [leavB, hv]))
    clear hv
    go_wp2
    go_ret2
    exact ⟨ret_two E.out.1 E.out.2, G.out⟩
  have hlb : leavB V L vs = true := by simp [leavB, HMAY.out, hv]
  have E := Lib.hid (worth_goes hlb HCAP.out)
  have HLB := Lib.hid hlb
  clear hv hlb
  go_wp2_with fail
  refine (RLeaving_any V A n c L X m d vs _ (HR.out.grown hB G.out) (by have := G.out.size; omega) (HX.out.grown hB' G.out) (by have := G.out.size; omega)).mono ?_
  rintro e w3 ⟨v, he, hv, g3⟩
  rw [(leav_yes HLB.out).2] at he
  subst he
  rw [(leav_yes HLB.out).1] at hv
  have h16 := (may_small HMAY.out).2.2
  have hl0 := lv_len L vs L.length
  obtain ⟨Av, cv, rfl, _, hrv⟩ := hv.row (lv_ok (by omega))
  have HRV := Lib.hid hrv
  have hq := hrv.small
  have G := Lib.hid (grown_trans G.out g3)
  clear hv hrv g3 c0 c1 O2
  have HPC := Lib.hid (capsB_parts HCAP.out).1
  have HBD := Lib.hid (fun j => pw_bd (vs := vs) HMAY.out HCAP.out j)
  have HEND := Lib.hid (pw_all L caps vs)
  have HGET := Lib.hid (fun (j : Nat) (hj : j < (lv L vs L.length).length) => lv_get hj)
  have HST := Lib.hid (fun (j : Nat) (hj : j < (lv L vs L.length).length) => pw_step (caps := caps) hj)
  have HYR := Lib.hid (HY.out.grown hB'' G.out)
  clear hl0 h16
  generalize hxs : lv L vs L.length = xs at *
  generalize hqe : xs.length = q at *
  have HS : Hid (WoRel w3 q L caps vs (.int .i64 0) (.int .i64 0) w3) := ⟨0, Nat.zero_le _, by rw [pw_zero], rfl, World.grownBy.refl w3 none⟩
  clear hxs hqe
  go_wp2
  go_loopw [10, 11] (fun a i wr => WoRel w3 q L caps vs a i wr) (fun _ i _ => q - (intOf i).toNat)
  case atStart => exact HS.out
  case round =>
    clear HS
    obtain ⟨j, hj, rfl, rfl, hg⟩ := hrel
    have G2 := Lib.hid hg
    by_cases hlt : j < q
    · obtain ⟨b, off, hA, hb, hcell⟩ := HRV.out.at_ (by omega)
      subst hA
      have d0 := kept hg (hcell j hlt)
      obtain ⟨i, hi, hxi⟩ := HGET.out j hlt
      have hip : i < p := by have := HPC.out; have := HLY.out; omega
      have HSTj := Lib.hid (HST.out j hlt)
      rw [hxi] at d0 HSTj
      obtain ⟨b2, off2, hA2, hb2, hcell2⟩ := HYR.out.at_ (by omega)
      subst hA2
      have e1 := kept hg (hcell2 i hip)
      have hb0 := HBD.out j
      have hb1 := HBD.out (j + 1)
      rw [HSTj.out] at hb1
      have e2 : capI caps ((i : Int).toNat) = caps[i]?.getD 0 := by simp [capI]
      rw [e2] at HSTj hb1
      have hps := HSTj.out
      clear hcell hcell2 hg hxi e2 HSTj
      generalize caps[i]?.getD 0 = y at *
      generalize pw L caps vs j = a at *
      have HPS := Lib.hid hps
      clear hps
      have hw : IntKind.i64.wrap (a + y) = a + y := IntWalk.i64_in _ (by omega)
      go_wp2
      go_roundw
      case rel => exact ⟨j + 1, by omega, by rw [HPS.out], by go_num, G2.out⟩
      case measure => simp [intOf]; omega
    · obtain rfl : j = q := by omega
      have E2 : Hid (worthX V L caps vs = pw L caps vs j) := by rw [Hid, E.out.1, HEND.out]
      clear hg
      generalize pw L caps vs j = a at *
      go_wp2
      go_ret2
      exact ⟨ret_two E2.out E.out.2, grown_trans G.out G2.out⟩

end Go.Proofs.Ytppcncblmakekaa

set_option maxRecDepth 20000
namespace Go.Proofs.Ytppcncblmakekaa
open Go.RowKit

def prvV (V : Int) (L : List Lk) (caps : List Int) (s t R : Int) (vs : List Int) : Value := .tuple #[.bool (provB V L caps s t R vs), .int .i64 (provE V L caps)]

set_option maxHeartbeats 2000000 in
theorem RProves_any (V s t R : Int) (A : Option Addr) (n c : Nat) (L : List Lk) (Y : Option Addr) (p e0 : Nat) (caps : List Int) (X : Option Addr) (m d : Nat) (vs : List Int) (w : World) {B B' B'' : Nat} (h : Lks w B A n L) (hB : B ≤ w.heap.size) (hy : Row w B'' Y p caps) (hB'' : B'' ≤ w.heap.size) (hx : Row w B' X m vs) (hB' : B' ≤ w.heap.size) :
    Calls Try.prog 18 #[.agg #[.int .i64 V, .slice A n c], .slice Y p e0, .int .i64 s, .int .i64 t, .int .i64 R, .slice X m d] w (Says w (prvV V L caps s t R vs)) := by
  have HR := Lib.hid h
  have HY := Lib.hid hy
  have HX := Lib.hid hx
  have HR1 := Lib.hid (h.grown hB (grow0 w (.cells #[.int .i64 V, .slice A n c] 24)))
  have HY1 := Lib.hid (hy.grown hB'' (grow0 w (.cells #[.int .i64 V, .slice A n c] 24)))
  clear h hx hy
  go_enter Try.func18, Try.ntmps18
  go_wp2_with fail
  refine (RCaps_any V A n c L Y p e0 caps _ HR1.out (by simp; omega) HY1.out).mono ?_
  rintro e w1 ⟨rfl, g1⟩
  obtain ⟨g, o2⟩ := box1 [.int .i64 V, .slice A n c] g1
  obtain ⟨c0, c1⟩ := o2.two
  have G := Lib.hid g
  have O2 := Lib.hid o2
  clear g g1 o2 HR1 HY1
  cases hb : (mayG V L && capsB L caps)
  · have E := Lib.hid (prov_no (s := s) (t := t) (R := R) (vs := vs) hb)
    clear hb
    go_wp2
    go_ret2
    exact ⟨ret_fit E.out.2 E.out.1, G.out⟩
  have HB := Lib.hid hb
  clear hb
  go_wp2_with fail
  refine (RCutMay_any V s t A n c L X m d vs _ (HR.out.grown hB G.out) (by have := G.out.size; omega) (HX.out.grown hB' G.out) (by have := G.out.size; omega)).mono ?_
  rintro e w3 ⟨rfl, g3⟩
  have G := Lib.hid (grown_trans G.out g3)
  have O2 := Lib.hid (O2.out.kept g3)
  clear g3 c0 c1
  obtain ⟨c0, c1⟩ := O2.out.two
  cases hcut : cutB V L s t vs
  · have E := Lib.hid (prov_cut (R := R) HB.out hcut)
    clear hcut
    go_wp2
    go_ret2
    exact ⟨ret_fit E.out.2 E.out.1, G.out⟩
  have E := Lib.hid (prov_yes (R := R) HB.out hcut)
  clear hcut
  go_wp2_with fail
  refine (RWorth_any V A n c L Y p e0 caps X m d vs _ (HR.out.grown hB G.out) (by have := G.out.size; omega) (HY.out.grown hB'' G.out) (by have := G.out.size; omega) (HX.out.grown hB' G.out) (by have := G.out.size; omega)).mono ?_
  rintro e w4 ⟨he, g4⟩
  have G := Lib.hid (grown_trans G.out g4)
  clear g4 c0 c1 O2
  rw [wthV] at he
  subst he
  have E1 := Lib.hid E.out.1
  have E2 := Lib.hid E.out.2.2
  clear E
  generalize worthX V L caps vs = x at *
  generalize worthE V L caps vs = z at *
  go_wp2
  go_ret2
  exact ⟨ret_fit E2.out E1.out, G.out⟩

end Go.Proofs.Ytppcncblmakekaa
