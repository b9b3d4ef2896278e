/-
  Cuts, as numbers: vertices on one side, the links that leave them, what these are worth. No program here.
-/
import Derived.Test.YtppcncblmakekaaWithinA
import Derived.Test.YtppcncblmakekaaMathArcs
import Derived.Test.YtppcncblmakekaaMathSum
set_option maxRecDepth 20000
namespace Go.Proofs.Ytppcncblmakekaa

/-- The numbers below k that p takes. -/
def pick (p : Nat → Bool) (k : Nat) : List Int := ((List.range k).filter p).map fun i : Nat => (i : Int)

theorem pick_zero (p : Nat → Bool) : pick p 0 = [] := rfl
theorem pick_yes {p : Nat → Bool} {k : Nat} (h : p k = true) : pick p (k + 1) = pick p k ++ [(k : Int)] := by simp [pick, List.range_succ, List.filter_append, h]
theorem pick_no {p : Nat → Bool} {k : Nat} (h : p k = false) : pick p (k + 1) = pick p k := by simp [pick, List.range_succ, List.filter_append, h]
theorem pick_len (p : Nat → Bool) (k : Nat) : (pick p k).length ≤ k := by
  have := List.length_filter_le p (List.range k)
  simp only [pick, List.length_map]
  simpa using this
theorem pick_mem {p : Nat → Bool} {k : Nat} {x : Int} : x ∈ pick p k ↔ ∃ i : Nat, i < k ∧ p i = true ∧ x = (i : Int) := by
  simp only [pick, List.mem_map, List.mem_filter, List.mem_range]
  constructor
  · rintro ⟨i, ⟨a, b⟩, rfl⟩; exact ⟨i, a, b, rfl⟩
  · rintro ⟨i, a, b, rfl⟩; exact ⟨i, ⟨a, b⟩, rfl⟩
theorem pick_get {p : Nat → Bool} {k j : Nat} (h : j < (pick p k).length) : ∃ i : Nat, i < k ∧ p i = true ∧ (pick p k)[j]?.getD 0 = (i : Int) := by
  have := List.getElem_mem h
  obtain ⟨i, a, b, e⟩ := pick_mem.1 this
  exact ⟨i, a, b, by rw [List.getElem?_eq_getElem h, Option.getD_some]; exact e⟩
theorem pick_ok {p : Nat → Bool} {k : Nat} (hk : k ≤ 1000) : ∀ i : Nat, -9223372036854775808 ≤ (pick p k)[i]?.getD 0 ∧ (pick p k)[i]?.getD 0 ≤ 9223372036854775807 := by
  intro i
  by_cases h : i < (pick p k).length
  · obtain ⟨j, hj, _, e⟩ := pick_get h
    omega
  · rw [List.getElem?_eq_none (by omega)]
    simp
theorem pick_congr {p q : Nat → Bool} {k : Nat} (h : ∀ i, i < k → p i = q i) : pick p k = pick q k := by
  unfold pick
  rw [List.filter_congr fun i hi => h i (List.mem_range.1 hi)]
theorem pick_none {p : Nat → Bool} {k : Nat} (h : ∀ i, i < k → p i = false) : pick p k = [] := by
  rw [pick_congr (q := fun _ => false) h]
  simp [pick]
theorem pick_rise (p : Nat → Bool) (k : Nat) : (pick p k).Pairwise (· < ·) := by
  unfold pick
  rw [List.pairwise_map]
  refine (List.pairwise_lt_range.filter p).imp ?_
  intro a b h
  omega

def riseB (V : Int) (vs : List Int) (i : Nat) : Bool := isV V (vs[i]?.getD 0) && (decide (i = 0) || decide (vs[i - 1]?.getD 0 < vs[i]?.getD 0))
def vertsB (V : Int) (vs : List Int) : Bool := (List.range vs.length).all (riseB V vs)
def leaves (vs : List Int) (l : Lk) : Bool := decide (l.1 ∈ vs) && !decide (l.2.1 ∈ vs)
def lv (L : List Lk) (vs : List Int) (k : Nat) : List Int := pick (fun i => leaves vs (at3 L i)) k
def leavB (V : Int) (L : List Lk) (vs : List Int) : Bool := mayG V L && vertsB V vs
def leavV (V : Int) (L : List Lk) (vs : List Int) : List Int := if leavB V L vs then lv L vs L.length else []
def leavE (V : Int) (L : List Lk) (vs : List Int) : Int := if leavB V L vs then 0 else 800
def cutB (V : Int) (L : List Lk) (s t : Int) (vs : List Int) : Bool := leavB V L vs && decide (s ∈ vs) && isV V t && !decide (t ∈ vs)
def wk (L : List Lk) (caps vs : List Int) : Nat → Int
  | 0 => 0
  | k + 1 => wk L caps vs k + (if leaves vs (at3 L k) then capI caps k else 0)
def gets (caps xs : List Int) : List Int := xs.map fun x => capI caps x.toNat
def worthB (V : Int) (L : List Lk) (caps vs : List Int) : Bool := leavB V L vs && capsB L caps
def worthX (V : Int) (L : List Lk) (caps vs : List Int) : Int := if worthB V L caps vs then wk L caps vs L.length else 0
def worthE (V : Int) (L : List Lk) (caps vs : List Int) : Int := if worthB V L caps vs then 0 else 800
def provE (V : Int) (L : List Lk) (caps : List Int) : Int := if mayG V L && capsB L caps then 0 else 800
def provB (V : Int) (L : List Lk) (caps : List Int) (s t R : Int) (vs : List Int) : Bool := mayG V L && capsB L caps && cutB V L s t vs && decide (worthX V L caps vs < R)

theorem verts_stop {V : Int} {vs : List Int} {k : Nat} (h : k < vs.length) (e : riseB V vs k = false) : vertsB V vs = false := range_stop h e
theorem verts_at {V : Int} {vs : List Int} (h : vertsB V vs = true) {i : Nat} (hi : i < vs.length) : riseB V vs i = true := List.all_eq_true.1 h i (List.mem_range.2 hi)
theorem verts_mem {V : Int} {vs : List Int} (h : vertsB V vs = true) {x : Int} (hx : x ∈ vs) : isV V x = true := by
  obtain ⟨i, hi, e⟩ := List.getElem_of_mem hx
  have := verts_at h hi
  simp only [riseB, Bool.and_eq_true] at this
  rw [List.getElem?_eq_getElem hi, Option.getD_some, e] at this
  exact this.1
theorem verts_mk {V : Int} {vs : List Int} (h : ∀ x ∈ vs, isV V x = true) (r : vs.Pairwise (· < ·)) : vertsB V vs = true := by
  refine List.all_eq_true.2 fun i hi => ?_
  have hi := List.mem_range.1 hi
  simp only [riseB, Bool.and_eq_true, Bool.or_eq_true, decide_eq_true_eq]
  refine ⟨by rw [List.getElem?_eq_getElem hi, Option.getD_some]; exact h _ (List.getElem_mem hi), ?_⟩
  by_cases h0 : i = 0
  · exact .inl h0
  · right
    rw [List.getElem?_eq_getElem hi, List.getElem?_eq_getElem (by omega : i - 1 < vs.length), Option.getD_some, Option.getD_some]
    exact List.pairwise_iff_getElem.1 r _ _ _ _ (by omega)
theorem verts_pick (p : Nat → Bool) (k : Nat) : vertsB (k : Nat) (pick p k) = true := by
  refine verts_mk (fun x hx => ?_) (pick_rise p k)
  obtain ⟨i, hi, _, rfl⟩ := pick_mem.1 hx
  simp [isV]; omega

theorem leav_no {V : Int} {L : List Lk} {vs : List Int} (h : leavB V L vs = false) : leavV V L vs = [] ∧ leavE V L vs = 800 := by simp [leavV, leavE, h]
theorem leav_yes {V : Int} {L : List Lk} {vs : List Int} (h : leavB V L vs = true) : leavV V L vs = lv L vs L.length ∧ leavE V L vs = 0 := by simp [leavV, leavE, h]
theorem leav_parts {V : Int} {L : List Lk} {vs : List Int} (h : leavB V L vs = true) : mayG V L = true ∧ vertsB V vs = true := by simpa [leavB] using h
theorem leavV_len (V : Int) (L : List Lk) (vs : List Int) : (leavV V L vs).length ≤ 16 := by
  cases h : leavB V L vs
  · rw [(leav_no h).1]; simp
  · rw [(leav_yes h).1]
    have := may_small (leav_parts h).1
    have := pick_len (fun i => leaves vs (at3 L i)) L.length
    unfold lv
    omega
theorem leavV_ok (V : Int) (L : List Lk) (vs : List Int) : ∀ i : Nat, -9223372036854775808 ≤ (leavV V L vs)[i]?.getD 0 ∧ (leavV V L vs)[i]?.getD 0 ≤ 9223372036854775807 := by
  cases h : leavB V L vs
  · rw [(leav_no h).1]; simp
  · rw [(leav_yes h).1]
    have := may_small (leav_parts h).1
    exact pick_ok (by omega)
theorem lv_ok {L : List Lk} {vs : List Int} {k : Nat} (hk : k ≤ 16) : ∀ i : Nat, -9223372036854775808 ≤ (lv L vs k)[i]?.getD 0 ∧ (lv L vs k)[i]?.getD 0 ≤ 9223372036854775807 := pick_ok (by omega)
theorem lv_yes {L : List Lk} {vs : List Int} {k : Nat} (h : leaves vs (at3 L k) = true) : lv L vs (k + 1) = lv L vs k ++ [(k : Int)] := pick_yes (p := fun i => leaves vs (at3 L i)) h
theorem lv_no {L : List Lk} {vs : List Int} {k : Nat} (h : leaves vs (at3 L k) = false) : lv L vs (k + 1) = lv L vs k := pick_no (p := fun i => leaves vs (at3 L i)) h
theorem lv_len (L : List Lk) (vs : List Int) (k : Nat) : (lv L vs k).length ≤ k := pick_len _ k

theorem wk_bd {V : Int} {L : List Lk} {caps : List Int} (vs : List Int) (h : mayG V L = true) (c : capsB L caps = true) {k : Nat} (hk : k ≤ L.length) : 0 ≤ wk L caps vs k ∧ wk L caps vs k ≤ 4611686018427387904 := by
  have c2 := (capsB_parts c).2
  have : ∀ k, k ≤ L.length → 0 ≤ wk L caps vs k ∧ wk L caps vs k ≤ capSum L k := by
    intro k
    induction k with
    | zero => intro _; simp [wk, capSum]
    | succ k ih =>
      intro hk
      have := ih (by omega)
      have := c2 k (by omega)
      simp only [wk, capSum]
      split <;> omega
  have a := this k hk
  have b := may_sum h k hk
  omega

theorem gets_lv (L : List Lk) (caps vs : List Int) : ∀ k, isum (gets caps (lv L vs k)) = wk L caps vs k
  | 0 => rfl
  | k + 1 => by
    have ih := gets_lv L caps vs k
    cases h : leaves vs (at3 L k)
    · rw [lv_no h, ih]; simp [wk, h]
    · rw [lv_yes h, gets, List.map_append, isum_app]
      rw [gets] at ih
      rw [ih]
      simp [wk, h, isum]

theorem gets_nonneg {L : List Lk} {caps vs : List Int} (c : capsB L caps = true) : ∀ x ∈ gets caps (lv L vs L.length), 0 ≤ x := by
  intro x hx
  simp only [gets, List.mem_map] at hx
  obtain ⟨y, hy, rfl⟩ := hx
  obtain ⟨i, hi, _, rfl⟩ := pick_mem.1 hy
  exact ((capsB_parts c).2 _ (by simpa using hi)).1

/-- What the first j of the links that leave are worth together. -/
def pw (L : List Lk) (caps vs : List Int) (j : Nat) : Int := isum (gets caps ((lv L vs L.length).take j))

theorem pw_zero (L : List Lk) (caps vs : List Int) : pw L caps vs 0 = 0 := by simp [pw, gets, isum]
theorem pw_all (L : List Lk) (caps vs : List Int) : pw L caps vs (lv L vs L.length).length = wk L caps vs L.length := by rw [pw, List.take_length, gets_lv]
theorem pw_step {L : List Lk} {caps vs : List Int} {j : Nat} (h : j < (lv L vs L.length).length) : pw L caps vs (j + 1) = pw L caps vs j + capI caps ((lv L vs L.length)[j]?.getD 0).toNat := by
  unfold pw
  rw [List.take_succ_eq_append_getElem h, gets, List.map_append, isum_app, ← gets]
  simp [isum, h]
theorem pw_bd {V : Int} {L : List Lk} {caps vs : List Int} (m : mayG V L = true) (c : capsB L caps = true) (j : Nat) : 0 ≤ pw L caps vs j ∧ pw L caps vs j ≤ 4611686018427387904 := by
  have h := wk_bd vs m c (Nat.le_refl _)
  rw [← gets_lv] at h
  have nn := gets_nonneg (vs := vs) c
  have e : isum (gets caps (lv L vs L.length)) = pw L caps vs j + isum (gets caps ((lv L vs L.length).drop j)) := by
    rw [pw, ← isum_app, gets, gets, gets, ← List.map_append, List.take_append_drop]
  have a : 0 ≤ pw L caps vs j := isum_nonneg fun x hx => nn x (by
    simp only [gets, List.mem_map] at hx ⊢
    obtain ⟨y, hy, rfl⟩ := hx
    exact ⟨y, List.mem_of_mem_take hy, rfl⟩)
  have b : 0 ≤ isum (gets caps ((lv L vs L.length).drop j)) := isum_nonneg fun x hx => nn x (by
    simp only [gets, List.mem_map] at hx ⊢
    obtain ⟨y, hy, rfl⟩ := hx
    exact ⟨y, List.mem_of_mem_drop hy, rfl⟩)
  omega

theorem worth_no {V : Int} {L : List Lk} {caps vs : List Int} (h : worthB V L caps vs = false) : worthX V L caps vs = 0 ∧ worthE V L caps vs = 800 := by simp [worthX, worthE, h]
theorem worth_yes {V : Int} {L : List Lk} {caps vs : List Int} (h : worthB V L caps vs = true) : worthX V L caps vs = wk L caps vs L.length ∧ worthE V L caps vs = 0 := by simp [worthX, worthE, h]
theorem worth_parts {V : Int} {L : List Lk} {caps vs : List Int} (h : worthB V L caps vs = true) : mayG V L = true ∧ vertsB V vs = true ∧ capsB L caps = true := by
  simp only [worthB, leavB, Bool.and_eq_true] at h
  exact ⟨h.1.1, h.1.2, h.2⟩
theorem worth_mk {V : Int} {L : List Lk} {caps vs : List Int} (a : mayG V L = true) (b : vertsB V vs = true) (c : capsB L caps = true) : worthB V L caps vs = true := by simp [worthB, leavB, a, b, c]
theorem worthX_bd (V : Int) (L : List Lk) (caps vs : List Int) : 0 ≤ worthX V L caps vs ∧ worthX V L caps vs ≤ 4611686018427387904 := by
  cases h : worthB V L caps vs
  · rw [(worth_no h).1]; omega
  · obtain ⟨a, _, c⟩ := worth_parts h
    rw [(worth_yes h).1]
    exact wk_bd vs a c (Nat.le_refl _)
theorem worthE_ok {V : Int} {L : List Lk} {caps vs : List Int} (h : worthE V L caps vs = 0) : worthB V L caps vs = true := by
  cases k : worthB V L caps vs
  · rw [(worth_no k).2] at h; cases h
  · rfl
theorem worthE_no {V : Int} {L : List Lk} {caps vs : List Int} (h : ¬ worthE V L caps vs = 0) : worthE V L caps vs = 800 := by
  cases k : worthB V L caps vs
  · exact (worth_no k).2
  · exact absurd (worth_yes k).2 h

theorem cut_ref (V : Int) (L : List Lk) (s t : Int) (vs : List Int) : cutB V L s t vs = (mayG V L && isV V s && isV V t && vertsB V vs && decide (s ∈ vs) && !decide (t ∈ vs)) := by
  unfold cutB leavB
  cases a : mayG V L
  · simp
  · cases b : vertsB V vs
    · simp
    · by_cases c : s ∈ vs
      · rw [verts_mem b c]
        simp [c]
      · simp [c]

theorem prov_no {V : Int} {L : List Lk} {caps : List Int} {s t R : Int} {vs : List Int} (h : (mayG V L && capsB L caps) = false) : provE V L caps = 800 ∧ provB V L caps s t R vs = false := by simp [provE, provB, h]
theorem prov_cut {V : Int} {L : List Lk} {caps : List Int} {s t R : Int} {vs : List Int} (h : (mayG V L && capsB L caps) = true) (k : cutB V L s t vs = false) : provE V L caps = 0 ∧ provB V L caps s t R vs = false := by simp [provE, provB, h, k]
theorem prov_yes {V : Int} {L : List Lk} {caps : List Int} {s t R : Int} {vs : List Int} (h : (mayG V L && capsB L caps) = true) (k : cutB V L s t vs = true) : provE V L caps = 0 ∧ worthE V L caps vs = 0 ∧ provB V L caps s t R vs = decide (worthX V L caps vs < R) := by
  have h2 := h
  simp only [Bool.and_eq_true] at h
  refine ⟨by simp [provE, h2], (worth_yes (worth_mk h.1 ?_ h.2)).2, by simp [provB, h2, k]⟩
  simp only [cutB, leavB, Bool.and_eq_true] at k
  exact k.1.1.1.2

/-- Of two sides, what leaves both together and what leaves those in both. -/
theorem leaves_pair {a b u v : List Int} {l : Lk} (h1 : l.1 ∈ u ↔ (l.1 ∈ a ∨ l.1 ∈ b)) (h2 : l.2.1 ∈ u ↔ (l.2.1 ∈ a ∨ l.2.1 ∈ b)) (h3 : l.1 ∈ v ↔ (l.1 ∈ a ∧ l.1 ∈ b)) (h4 : l.2.1 ∈ v ↔ (l.2.1 ∈ a ∧ l.2.1 ∈ b)) {x : Int} (hx : 0 ≤ x) :
    (if leaves u l then x else 0) + (if leaves v l then x else 0) ≤ (if leaves a l then x else 0) + (if leaves b l then x else 0) := by
  by_cases p : l.1 ∈ a <;> by_cases q : l.1 ∈ b <;> by_cases r : l.2.1 ∈ a <;> by_cases s : l.2.1 ∈ b <;> simp [leaves, h1, h2, h3, h4, p, q, r, s] <;> omega

def orP (a b : List Int) (i : Nat) : Bool := decide ((i : Int) ∈ a) || decide ((i : Int) ∈ b)
def andP (a b : List Int) (i : Nat) : Bool := decide ((i : Int) ∈ a) && decide ((i : Int) ∈ b)

theorem or_mem {a b : List Int} {k : Nat} {x : Int} (h0 : 0 ≤ x) (h1 : x < (k : Int)) : x ∈ pick (orP a b) k ↔ (x ∈ a ∨ x ∈ b) := by
  obtain ⟨i, rfl⟩ := Int.eq_ofNat_of_zero_le h0
  rw [pick_mem]
  constructor
  · rintro ⟨j, _, hp, e⟩
    have : j = i := by omega
    subst this
    simpa [orP] using hp
  · intro h
    exact ⟨i, by omega, by simpa [orP] using h, rfl⟩
theorem and_mem {a b : List Int} {k : Nat} {x : Int} (h0 : 0 ≤ x) (h1 : x < (k : Int)) : x ∈ pick (andP a b) k ↔ (x ∈ a ∧ x ∈ b) := by
  obtain ⟨i, rfl⟩ := Int.eq_ofNat_of_zero_le h0
  rw [pick_mem]
  constructor
  · rintro ⟨j, _, hp, e⟩
    have : j = i := by omega
    subst this
    simpa [andP] using hp
  · intro h
    exact ⟨i, by omega, by simpa [andP] using h, rfl⟩

theorem wk_pair {vn : Nat} {L : List Lk} {caps : List Int} (a b : List Int) (h : mayG (vn : Nat) L = true) (c : capsB L caps = true) : ∀ k, k ≤ L.length → wk L caps (pick (orP a b) vn) k + wk L caps (pick (andP a b) vn) k ≤ wk L caps a k + wk L caps b k
  | 0, _ => by simp [wk]
  | k + 1, hk => by
    have ih := wk_pair a b h c k (by omega)
    obtain ⟨j0, j1, j2, j3, _⟩ := may_joins h (i := k) (by omega)
    have := leaves_pair (l := at3 L k) (or_mem (a := a) (b := b) j0 j1) (or_mem (a := a) (b := b) j2 j3) (and_mem (a := a) (b := b) j0 j1) (and_mem (a := a) (b := b) j2 j3) ((capsB_parts c).2 k (by omega)).1
    simp only [wk]
    omega

/-- All vertices. -/
def allP (_ : Nat) : Bool := true
theorem all_mem {k : Nat} {x : Int} (h0 : 0 ≤ x) (h1 : x < (k : Int)) : x ∈ pick allP k := by
  obtain ⟨i, rfl⟩ := Int.eq_ofNat_of_zero_le h0
  exact pick_mem.2 ⟨i, by omega, rfl, rfl⟩
theorem lv_all {vn : Nat} {L : List Lk} (h : mayG (vn : Nat) L = true) : lv L (pick allP vn) L.length = [] := by
  refine pick_none fun i hi => ?_
  obtain ⟨_, _, j2, j3, _⟩ := may_joins h hi
  simp [leaves, all_mem j2 j3]
theorem lv_nil (L : List Lk) (k : Nat) : lv L [] k = [] := pick_none fun i _ => by simp [leaves]
theorem lv_one {V : Int} {L : List Lk} (h : mayG V L = true) (v : Int) : lv L [v] L.length = sel (fun l => l.1) L v L.length := by
  unfold lv sel
  refine pick_congr fun i hi => ?_
  obtain ⟨_, _, _, _, ne⟩ := may_joins h hi
  by_cases e : (at3 L i).1 = v
  · subst e
    have : ¬ (at3 L i).2.1 = (at3 L i).1 := fun e => ne e.symm
    simp [leaves, this]
  · simp [leaves, e]
theorem wk_all {vn : Nat} {L : List Lk} {caps : List Int} (h : mayG (vn : Nat) L = true) : wk L caps (pick allP vn) L.length = 0 := by
  rw [← gets_lv, lv_all h]; rfl
theorem verts_one {V v : Int} (h : isV V v = true) : vertsB V [v] = true := verts_mk (by simp [h]) (by simp)

end Go.Proofs.Ytppcncblmakekaa
