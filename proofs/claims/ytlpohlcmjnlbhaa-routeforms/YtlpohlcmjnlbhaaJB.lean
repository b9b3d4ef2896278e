/-
  Flows, as numbers: gains of vertices, room of arcs, moving a rate over arcs. No program here. Levels, as numbers: what a list of levels must keep; two that keep it are one; a search in a queue, a search round by round. No program here. A blocking flow, as numbers: what one must keep, and what follows of it: the sink stands higher, nothing turns where nothing is pushed, a flow whose sink can't be reached is as great as a cut. No program here. Cycles, as numbers: links with a rate above 0, one behind the other; what has none is the only list below it with its gains; links turned. No program here. How a blocking flow is pushed vertex by vertex over open arcs, as numbers. No program here. What Ways sees, round by round: a set of vertices that grows, or is closed. No program here. A cycle found by what goes on: of each vertex a link that leads on, round by round; steps that come back; a list with a cycle's least taken off. No program here. Cuts, as numbers: vertices on one side, the links that leave them, what these are worth. No program here.
-/
import Derived.Test.YtlpohlcmjnlbhaaWithinA
import Derived.Test.YtlpohlcmjnlbhaaJA

set_option maxRecDepth 20000
namespace Go.Proofs.Ytlpohlcmjnlbhaa

def outP (L : List Lk) (f : List Int) (v : Int) (k : Nat) : Int := if (at3 L k).1 = v then f[k]?.getD 0 else 0
def inP (L : List Lk) (f : List Int) (v : Int) (k : Nat) : Int := if (at3 L k).2.1 = v then f[k]?.getD 0 else 0
def gk (L : List Lk) (f : List Int) (v : Int) : Nat → Int
  | 0 => 0
  | k + 1 => gk L f v k + outP L f v k - inP L f v k
def gainOf (L : List Lk) (f : List Int) (v : Int) : Int := gk L f v L.length
def fitsF (V : Int) (L : List Lk) (caps f : List Int) : Bool := mayG V L && capsB L caps && ratesB caps f
def valB (V : Int) (L : List Lk) (f : List Int) (s : Int) : Bool := mayG V L && capsB L f && isV V s
def valX (V : Int) (L : List Lk) (f : List Int) (s : Int) : Int := if valB V L f s then gainOf L f s else 0
def valE (V : Int) (L : List Lk) (f : List Int) (s : Int) : Int := if valB V L f s then 0 else 900
def restB (L : List Lk) (f : List Int) (s t : Int) (v : Nat) : Bool := ((v : Int) == s) || ((v : Int) == t) || (gainOf L f v == 0)
def flowB (V : Int) (L : List Lk) (caps f : List Int) (s t : Int) : Bool :=
  fitsF V L caps f && (isV V s && isV V t) && !(s == t) && decide (0 ≤ gainOf L f s) && (List.range V.toNat).all (restB L f s t)
def roomI (caps f : List Int) (a : Int) : Int := if a % 2 = 0 then caps[(a / 2).toNat]?.getD 0 - f[(a / 2).toNat]?.getD 0 else f[(a / 2).toNat]?.getD 0
def roomB (V : Int) (L : List Lk) (caps f : List Int) (a : Int) : Bool := fitsF V L caps f && isV (2 * (L.length : Int)) a
def roomX (V : Int) (L : List Lk) (caps f : List Int) (a : Int) : Int := if roomB V L caps f a then roomI caps f a else 0
def roomE (V : Int) (L : List Lk) (caps f : List Int) (a : Int) : Int := if roomB V L caps f a then 0 else 900
def rateF (b : Int) : Bool := decide (0 ≤ b) && decide (b ≤ 4611686018427387904)
def newI (f : List Int) (b a : Int) : Int := if a % 2 = 0 then f[(a / 2).toNat]?.getD 0 + b else f[(a / 2).toNat]?.getD 0 - b
def stepM (caps : List Int) (b : Int) (f : List Int) (a : Int) : Option (List Int) := if roomI caps f a < b then none else some (f.set (a / 2).toNat (newI f b a))
def movK (caps : List Int) (b : Int) : List Int → List Int → Option (List Int)
  | f, [] => some f
  | f, a :: r => match stepM caps b f a with | none => none | some g => movK caps b g r
def formM (V : Int) (L : List Lk) (caps f : List Int) (b : Int) (rs : List Int) : Bool := fitsF V L caps f && rateF b && decide (rs.length ≤ 64) && allV (2 * (L.length : Int)) rs
def movE (V : Int) (L : List Lk) (caps f : List Int) (b : Int) (rs : List Int) : Int := if formM V L caps f b rs then (if (movK caps b f rs).isSome then 0 else 901) else 900
def movV (V : Int) (L : List Lk) (caps f : List Int) (b : Int) (rs : List Int) : List Int := if formM V L caps f b rs then (movK caps b f rs).getD [] else []

theorem caps_in {L : List Lk} {caps f : List Int} (h : capsB L caps = true) (k : ratesB caps f = true) : capsB L f = true := by
  rw [← own_caps]
  obtain ⟨a, b⟩ := capsB_parts h
  obtain ⟨c, d⟩ := ratesB_parts k
  refine ratesB_mk (by rw [own_len]; omega) fun i hi => ?_
  rw [own_len] at hi
  have h1 := b i hi
  have h2 := d i (by omega)
  have h3 : capI (ownC L) i = (at3 L i).2.2 := own_get L i
  omega

theorem fits_parts {V : Int} {L : List Lk} {caps f : List Int} (h : fitsF V L caps f = true) : mayG V L = true ∧ capsB L caps = true ∧ ratesB caps f = true ∧ capsB L f = true := by
  simp only [fitsF, Bool.and_eq_true] at h
  exact ⟨h.1.1, h.1.2, h.2, caps_in h.1.2 h.2⟩

theorem f_bd {L : List Lk} {f : List Int} (c : capsB L f = true) {k : Nat} (hk : k < L.length) : 0 ≤ f[k]?.getD 0 ∧ f[k]?.getD 0 ≤ (at3 L k).2.2 := (capsB_parts c).2 k hk

theorem gk_bd {L : List Lk} {f : List Int} (v : Int) (c : capsB L f = true) : ∀ k, k ≤ L.length → 0 ≤ capSum L k ∧ -capSum L k ≤ gk L f v k ∧ gk L f v k ≤ capSum L k
  | 0, _ => by simp [gk, capSum]
  | k + 1, hk => by
    have h1 := gk_bd v c k (by omega)
    have h2 := f_bd c (k := k) (by omega)
    simp only [gk, capSum, outP, inP]
    split <;> split <;> omega

theorem gain_room {V : Int} {L : List Lk} {f : List Int} (v : Int) (h : mayG V L = true) (c : capsB L f = true) {k : Nat} (hk : k < L.length) :
    -4611686018427387904 ≤ gk L f v k ∧ gk L f v k ≤ 4611686018427387904 ∧ 0 ≤ f[k]?.getD 0 ∧ gk L f v k + f[k]?.getD 0 ≤ 4611686018427387904 ∧ -4611686018427387904 ≤ gk L f v k - f[k]?.getD 0 := by
  have h1 := gk_bd v c k (by omega)
  have h2 := f_bd c hk
  have h3 := may_sum h (k + 1) (by omega)
  simp only [capSum] at h3
  omega

theorem gain_bd {V : Int} {L : List Lk} {f : List Int} (v : Int) (h : mayG V L = true) (c : capsB L f = true) : -4611686018427387904 ≤ gainOf L f v ∧ gainOf L f v ≤ 4611686018427387904 := by
  have h1 := gk_bd v c L.length (Nat.le_refl _)
  have h3 := may_sum h L.length (Nat.le_refl _)
  unfold gainOf
  omega

theorem gk_out {L : List Lk} {f : List Int} {v : Int} {k : Nat} (h : (at3 L k).1 = v) (n : ¬ (at3 L k).2.1 = v) : gk L f v (k + 1) = gk L f v k + f[k]?.getD 0 := by simp [gk, outP, inP, h, n]
theorem gk_in {L : List Lk} {f : List Int} {v : Int} {k : Nat} (h : ¬ (at3 L k).1 = v) (n : (at3 L k).2.1 = v) : gk L f v (k + 1) = gk L f v k - f[k]?.getD 0 := by simp [gk, outP, inP, h, n]
theorem gk_none {L : List Lk} {f : List Int} {v : Int} {k : Nat} (h : ¬ (at3 L k).1 = v) (n : ¬ (at3 L k).2.1 = v) : gk L f v (k + 1) = gk L f v k := by simp [gk, outP, inP, h, n]

theorem val_no {V : Int} {L : List Lk} {f : List Int} {s : Int} (h : valB V L f s = false) : valX V L f s = 0 ∧ valE V L f s = 900 := by simp [valX, valE, h]
theorem val_yes {V : Int} {L : List Lk} {f : List Int} {s : Int} (h : valB V L f s = true) : valX V L f s = gainOf L f s ∧ valE V L f s = 0 := by simp [valX, valE, h]
theorem room_no {V : Int} {L : List Lk} {caps f : List Int} {a : Int} (h : roomB V L caps f a = false) : roomX V L caps f a = 0 ∧ roomE V L caps f a = 900 := by simp [roomX, roomE, h]
theorem room_yes {V : Int} {L : List Lk} {caps f : List Int} {a : Int} (h : roomB V L caps f a = true) : roomX V L caps f a = roomI caps f a ∧ roomE V L caps f a = 0 := by simp [roomX, roomE, h]
theorem mov_form {V : Int} {L : List Lk} {caps f rs : List Int} {b : Int} (h : formM V L caps f b rs = false) : movE V L caps f b rs = 900 ∧ movV V L caps f b rs = [] := by simp [movE, movV, h]
theorem mov_none {V : Int} {L : List Lk} {caps f rs : List Int} {b : Int} (h : formM V L caps f b rs = true) (k : movK caps b f rs = none) : movE V L caps f b rs = 901 ∧ movV V L caps f b rs = [] := by simp [movE, movV, h, k]
theorem mov_some {V : Int} {L : List Lk} {caps f rs g : List Int} {b : Int} (h : formM V L caps f b rs = true) (k : movK caps b f rs = some g) : movE V L caps f b rs = 0 ∧ movV V L caps f b rs = g := by simp [movE, movV, h, k]

/-- An arc of link i: there (even) or back. -/
theorem arc_cases {n : Nat} {a : Int} (h : isV (2 * (n : Int)) a = true) : ∃ i : Nat, i < n ∧ (a / 2).toNat = i ∧ a.tdiv 2 = (i : Int) ∧ ((a % 2 = 0 ∧ a.tmod 2 = 0 ∧ a = 2 * (i : Int)) ∨ (a % 2 = 1 ∧ a.tmod 2 = 1 ∧ a = 2 * (i : Int) + 1)) := by
  simp only [isV, Bool.and_eq_true, decide_eq_true_eq] at h
  obtain ⟨h0, h1⟩ := h
  have e1 : a.tdiv 2 = a / 2 := Int.tdiv_eq_ediv_of_nonneg h0
  have e2 : a.tmod 2 = a % 2 := Int.tmod_eq_emod_of_nonneg h0
  refine ⟨(a / 2).toNat, by omega, rfl, by rw [e1]; omega, ?_⟩
  rw [e2]
  omega

theorem rates_at {caps f : List Int} (h : ratesB caps f = true) {i : Nat} (hi : i < caps.length) : 0 ≤ f[i]?.getD 0 ∧ f[i]?.getD 0 ≤ caps[i]?.getD 0 := (ratesB_parts h).2 i hi

theorem put_same (ms : List Int) (i : Nat) (hi : i < ms.length) : ms.set i (ms[i]?.getD 0) = ms := by simp [hi]

theorem put_get {ms : List Int} {i : Nat} (hi : i < ms.length) (x : Int) (j : Nat) : (ms.set i x)[j]?.getD 0 = if j = i then x else ms[j]?.getD 0 := by
  rw [List.getElem?_set]
  by_cases e : i = j
  · subst e; simp [hi]
  · rw [if_neg e, if_neg (fun h => e h.symm)]

theorem step_even {caps f : List Int} {b a : Int} {i : Nat} (hi : (a / 2).toNat = i) (h : a % 2 = 0) : stepM caps b f a = if caps[i]?.getD 0 - f[i]?.getD 0 < b then none else some (f.set i (f[i]?.getD 0 + b)) := by
  simp [stepM, roomI, newI, hi, h]
theorem step_odd {caps f : List Int} {b a : Int} {i : Nat} (hi : (a / 2).toNat = i) (h : a % 2 = 1) : stepM caps b f a = if f[i]?.getD 0 < b then none else some (f.set i (f[i]?.getD 0 - b)) := by
  simp [stepM, roomI, newI, hi, h]

theorem step_room {caps f : List Int} {b a : Int} (h : roomI caps f a < b) : stepM caps b f a = none := by rw [stepM, if_pos h]
theorem step_goes {caps f : List Int} {b a : Int} (h : ¬ roomI caps f a < b) : stepM caps b f a = some (f.set (a / 2).toNat (newI f b a)) := by rw [stepM, if_neg h]

theorem set_rates {caps f : List Int} (h : ratesB caps f = true) {i : Nat} (hi : i < caps.length) {x : Int} (h0 : 0 ≤ x) (h1 : x ≤ caps[i]?.getD 0) : ratesB caps (f.set i x) = true := by
  obtain ⟨a, b⟩ := ratesB_parts h
  refine ratesB_mk (by simpa using a) fun j hj => ?_
  have := b j hj
  simp only [capI] at this ⊢
  rw [put_get (by omega)]
  by_cases e : j = i
  · subst e; simp; omega
  · rw [if_neg e]; exact this

theorem step_keeps {n : Nat} {caps f g : List Int} {b a : Int} (hn : caps.length = n) (ha : isV (2 * (n : Int)) a = true) (hb : 0 ≤ b) (h : ratesB caps f = true) (e : stepM caps b f a = some g) : ratesB caps g = true := by
  obtain ⟨i, hi, hd, _, ⟨hm, _⟩ | ⟨hm, _⟩⟩ := arc_cases ha
  · rw [step_even hd hm] at e
    have := rates_at h (i := i) (by omega)
    split at e
    · cases e
    · have e := Option.some.inj e
      subst e
      exact set_rates h (by omega) (by omega) (by omega)
  · rw [step_odd hd hm] at e
    have := rates_at h (i := i) (by omega)
    split at e
    · cases e
    · have e := Option.some.inj e
      subst e
      exact set_rates h (by omega) (by omega) (by omega)

theorem mov_step {caps f g rs : List Int} {b : Int} {k : Nat} (hk : k < rs.length) (e : stepM caps b f (rs[k]?.getD 0) = some g) : movK caps b f (rs.drop k) = movK caps b g (rs.drop (k + 1)) := by
  rw [List.drop_eq_getElem_cons hk]
  rw [List.getElem?_eq_getElem hk, Option.getD_some] at e
  simp [movK, e]
theorem mov_stop {caps f rs : List Int} {b : Int} {k : Nat} (hk : k < rs.length) (e : stepM caps b f (rs[k]?.getD 0) = none) : movK caps b f (rs.drop k) = none := by
  rw [List.drop_eq_getElem_cons hk]
  rw [List.getElem?_eq_getElem hk, Option.getD_some] at e
  simp [movK, e]
theorem mov_end {caps f rs : List Int} {b : Int} {k : Nat} (hk : rs.length ≤ k) : movK caps b f (rs.drop k) = some f := by
  rw [List.drop_eq_nil_of_le hk, movK]

def flipA (a : Int) : Int := if a % 2 = 0 then a + 1 else a - 1
def backA (rs : List Int) : List Int := rs.reverse.map flipA

theorem flip_isV {n : Nat} {a : Int} (h : isV (2 * (n : Int)) a = true) : isV (2 * (n : Int)) (flipA a) = true := by
  simp only [isV, Bool.and_eq_true, decide_eq_true_eq] at h ⊢
  unfold flipA
  by_cases e : a % 2 = 0
  · rw [if_pos e]; omega
  · rw [if_neg e]; omega

theorem step_back {n : Nat} {caps f g : List Int} {b a : Int} (hn : caps.length = n) (ha : isV (2 * (n : Int)) a = true) (h : ratesB caps f = true) (e : stepM caps b f a = some g) : stepM caps b g (flipA a) = some f := by
  have hl := (ratesB_parts h).1
  obtain ⟨i, hi, hd, _, ⟨hm, _, rfl⟩ | ⟨hm, _, rfl⟩⟩ := arc_cases ha
  · rw [step_even hd hm] at e
    have h0 := rates_at h (i := i) (by omega)
    split at e
    · cases e
    · have e := Option.some.inj e
      subst e
      have ef : flipA (2 * (i : Int)) = 2 * (i : Int) + 1 := by simp [flipA, hm]
      rw [ef, step_odd (i := i) (by omega) (by omega), put_get (by omega), if_pos rfl, if_neg (by omega), List.set_set]
      have : f[i]?.getD 0 + b - b = f[i]?.getD 0 := by omega
      rw [this, put_same f i (by omega)]
  · rw [step_odd hd hm] at e
    have h0 := rates_at h (i := i) (by omega)
    split at e
    · cases e
    · have e := Option.some.inj e
      subst e
      have ef : flipA (2 * (i : Int) + 1) = 2 * (i : Int) := by unfold flipA; rw [if_neg (by omega)]; omega
      rw [ef, step_even (i := i) (by omega) (by omega), put_get (by omega), if_pos rfl, if_neg (by omega), List.set_set]
      have : f[i]?.getD 0 - b + b = f[i]?.getD 0 := by omega
      rw [this, put_same f i (by omega)]

theorem mov_app {caps : List Int} {b : Int} : ∀ {xs ys f g : List Int}, movK caps b f xs = some g → movK caps b f (xs ++ ys) = movK caps b g ys
  | [], ys, f, g, h => by
    have h := Option.some.inj h
    subst h
    rfl
  | a :: r, ys, f, g, h => by
    rw [List.cons_append, movK]
    rw [movK] at h
    cases hs : stepM caps b f a with
    | none => rw [hs] at h; cases h
    | some g1 => rw [hs] at h; exact mov_app h

theorem mov_back {n : Nat} {caps : List Int} {b : Int} (hn : caps.length = n) (hb : 0 ≤ b) : ∀ {rs f g : List Int}, allV (2 * (n : Int)) rs = true → ratesB caps f = true → movK caps b f rs = some g → movK caps b g (backA rs) = some f ∧ ratesB caps g = true
  | [], f, g, _, hr, h => by
    have h := Option.some.inj h
    subst h
    exact ⟨rfl, hr⟩
  | a :: r, f, g, ha, hr, h => by
    rw [movK] at h
    simp only [allV, List.all_cons, Bool.and_eq_true] at ha
    cases hs : stepM caps b f a with
    | none => rw [hs] at h; cases h
    | some g1 =>
      rw [hs] at h
      obtain ⟨i1, i2⟩ := mov_back hn hb ha.2 (step_keeps hn ha.1 hb hr hs) h
      refine ⟨?_, i2⟩
      have e : backA (a :: r) = backA r ++ [flipA a] := by simp [backA]
      rw [e, mov_app i1, movK, step_back hn ha.1 hr hs]
      rfl

theorem back_form {V : Int} {L : List Lk} {caps f g rs : List Int} {b : Int} (h : formM V L caps f b rs = true) (k : movK caps b f rs = some g) : formM V L caps g b (backA rs) = true ∧ movK caps b g (backA rs) = some f := by
  simp only [formM, Bool.and_eq_true, decide_eq_true_eq, rateF] at h
  obtain ⟨⟨⟨a, b1, b2⟩, c⟩, d⟩ := h
  obtain ⟨p1, p2, p3, _⟩ := fits_parts a
  have hc := (capsB_parts p2).1
  obtain ⟨q1, q2⟩ := mov_back hc b1 d p3 k
  refine ⟨?_, q1⟩
  have hv : allV (2 * (L.length : Int)) (backA rs) = true := by
    refine List.all_eq_true.2 fun x hx => ?_
    simp only [backA, List.mem_map, List.mem_reverse] at hx
    obtain ⟨y, hy, rfl⟩ := hx
    exact flip_isV (List.all_eq_true.1 d y hy)
  have hl : (backA rs).length ≤ 64 := by simpa [backA] using c
  simp [formM, fitsF, rateF, p1, p2, q2, b1, b2, hv, hl]

theorem mov_len {caps : List Int} {b : Int} : ∀ {rs f g : List Int}, movK caps b f rs = some g → g.length = f.length
  | [], f, g, h => by
    have h := Option.some.inj h
    rw [h]
  | a :: r, f, g, h => by
    rw [movK] at h
    cases hs : stepM caps b f a with
    | none => rw [hs] at h; cases h
    | some g1 =>
      rw [hs] at h
      rw [mov_len h]
      unfold stepM at hs
      split at hs
      · cases hs
      · have hs := Option.some.inj hs
        rw [← hs, List.length_set]

def sumN (g : Nat → Int) : Nat → Int
  | 0 => 0
  | k + 1 => sumN g k + g k

theorem sumN_add (g h : Nat → Int) : ∀ m, sumN (fun v => g v + h v) m = sumN g m + sumN h m
  | 0 => rfl
  | m + 1 => by simp only [sumN, sumN_add g h m]; omega
theorem sumN_le {g h : Nat → Int} (k : ∀ v, g v ≤ h v) : ∀ m, sumN g m ≤ sumN h m
  | 0 => Int.le_refl _
  | m + 1 => by have := sumN_le k m; have := k m; simp only [sumN]; omega
theorem sumN_ind (a x : Int) : ∀ m : Nat, sumN (fun v => if a = (v : Int) then x else 0) m = if 0 ≤ a ∧ a < m then x else 0
  | 0 => by rw [sumN, if_neg (by omega)]
  | m + 1 => by
    rw [sumN, sumN_ind a x m]
    by_cases e : a = (m : Int)
    · have e1 : ¬ (0 ≤ a ∧ a < (m : Int)) := by omega
      have e2 : 0 ≤ a ∧ a < ((m + 1 : Nat) : Int) := by omega
      rw [if_neg e1, if_pos e, if_pos e2]; omega
    · rw [if_neg e, Int.add_zero]
      by_cases h : 0 ≤ a ∧ a < (m : Int)
      · have e2 : 0 ≤ a ∧ a < ((m + 1 : Nat) : Int) := by omega
        rw [if_pos h, if_pos e2]
      · have e2 : ¬ (0 ≤ a ∧ a < ((m + 1 : Nat) : Int)) := by omega
        rw [if_neg h, if_neg e2]

/-- What lies on the first k links together. -/
def totF (f : List Int) : Nat → Int
  | 0 => 0
  | k + 1 => totF f k + f[k]?.getD 0
def og (L : List Lk) (f : List Int) (v : Int) : Nat → Int
  | 0 => 0
  | k + 1 => og L f v k + outP L f v k
def ig (L : List Lk) (f : List Int) (v : Int) : Nat → Int
  | 0 => 0
  | k + 1 => ig L f v k + inP L f v k

theorem gk_parts (L : List Lk) (f : List Int) (v : Int) : ∀ k, gk L f v k = og L f v k - ig L f v k
  | 0 => rfl
  | k + 1 => by simp only [gk, og, ig, gk_parts L f v k]; omega
theorem parts_nonneg {L : List Lk} {f : List Int} (v : Int) (c : capsB L f = true) : ∀ k, k ≤ L.length → 0 ≤ og L f v k ∧ 0 ≤ ig L f v k
  | 0, _ => by simp [og, ig]
  | k + 1, hk => by
    have h1 := parts_nonneg v c k (by omega)
    have h2 := f_bd c (k := k) (by omega)
    simp only [og, ig, outP, inP]
    constructor <;> split <;> omega
theorem tot_bd {L : List Lk} {f : List Int} (c : capsB L f = true) : ∀ k, k ≤ L.length → 0 ≤ totF f k ∧ totF f k ≤ capSum L k
  | 0, _ => by simp [totF, capSum]
  | k + 1, hk => by
    have h1 := tot_bd c k (by omega)
    have h2 := f_bd c (k := k) (by omega)
    simp only [totF, capSum]
    omega
theorem sum_out {L : List Lk} {f : List Int} (c : capsB L f = true) (m : Nat) : ∀ k, k ≤ L.length → sumN (fun v => og L f v k) m ≤ totF f k ∧ ((∀ i, i < k → 0 ≤ (at3 L i).1 ∧ (at3 L i).1 < m) → sumN (fun v => og L f v k) m = totF f k)
  | 0, _ => by
    have e : ∀ m, sumN (fun v : Nat => og L f v 0) m = 0 := by
      intro m
      induction m with
      | zero => rfl
      | succ m ih => rw [sumN, ih]; rfl
    rw [e]; simp [totF]
  | k + 1, hk => by
    obtain ⟨h1, h2⟩ := sum_out c m k (by omega)
    have h3 := f_bd c (k := k) (by omega)
    have e : sumN (fun v => og L f v (k + 1)) m = sumN (fun v => og L f v k) m + (if 0 ≤ (at3 L k).1 ∧ (at3 L k).1 < m then f[k]?.getD 0 else 0) := by
      rw [← sumN_ind, ← sumN_add]; rfl
    rw [e, totF]
    constructor
    · split <;> omega
    · intro h
      rw [h2 fun i hi => h i (by omega), if_pos (h k (by omega))]
theorem sum_in {L : List Lk} {f : List Int} (c : capsB L f = true) (m : Nat) : ∀ k, k ≤ L.length → sumN (fun v => ig L f v k) m ≤ totF f k ∧ ((∀ i, i < k → 0 ≤ (at3 L i).2.1 ∧ (at3 L i).2.1 < m) → sumN (fun v => ig L f v k) m = totF f k)
  | 0, _ => by
    have e : ∀ m, sumN (fun v : Nat => ig L f v 0) m = 0 := by
      intro m
      induction m with
      | zero => rfl
      | succ m ih => rw [sumN, ih]; rfl
    rw [e]; simp [totF]
  | k + 1, hk => by
    obtain ⟨h1, h2⟩ := sum_in c m k (by omega)
    have h3 := f_bd c (k := k) (by omega)
    have e : sumN (fun v => ig L f v (k + 1)) m = sumN (fun v => ig L f v k) m + (if 0 ≤ (at3 L k).2.1 ∧ (at3 L k).2.1 < m then f[k]?.getD 0 else 0) := by
      rw [← sumN_ind, ← sumN_add]; rfl
    rw [e, totF]
    constructor
    · split <;> omega
    · intro h
      rw [h2 fun i hi => h i (by omega), if_pos (h k (by omega))]

def plusK (L : List Lk) (f : List Int) (k : Nat) : Int := sumN (fun v => if 0 < gainOf L f v then gainOf L f v else 0) k
def minusK (L : List Lk) (f : List Int) (k : Nat) : Int := sumN (fun v => if 0 < gainOf L f v then 0 else -gainOf L f v) k

theorem plus_bd {V : Int} {L : List Lk} {f : List Int} (h : mayG V L = true) (c : capsB L f = true) (k : Nat) : 0 ≤ plusK L f k ∧ plusK L f k ≤ 4611686018427387904 ∧ 0 ≤ minusK L f k ∧ minusK L f k ≤ 4611686018427387904 := by
  have n := Nat.le_refl L.length
  have b0 := tot_bd c L.length n
  have b1 := may_sum h L.length n
  have z : ∀ k : Nat, sumN (fun _ => 0) k = 0 := by
    intro k
    induction k with
    | zero => rfl
    | succ k ih => rw [sumN, ih]; rfl
  have hp : ∀ v : Nat, (if 0 < gainOf L f v then gainOf L f v else 0) ≤ og L f v L.length := by
    intro v
    have p := parts_nonneg (v : Int) c L.length n
    have e : gainOf L f v = og L f v L.length - ig L f v L.length := gk_parts L f v L.length
    split <;> omega
  have hm : ∀ v : Nat, (if 0 < gainOf L f v then 0 else -gainOf L f v) ≤ ig L f v L.length := by
    intro v
    have p := parts_nonneg (v : Int) c L.length n
    have e : gainOf L f v = og L f v L.length - ig L f v L.length := gk_parts L f v L.length
    split <;> omega
  have a1 := sumN_le hp k
  have a2 := sumN_le hm k
  have a3 := (sum_out c k L.length n).1
  have a4 := (sum_in c k L.length n).1
  have a5 : (0 : Int) ≤ plusK L f k := by
    rw [← z k]; exact sumN_le (fun v => by split <;> omega) k
  have a6 : (0 : Int) ≤ minusK L f k := by
    rw [← z k]; exact sumN_le (fun v => by split <;> omega) k
  unfold plusK minusK at *
  omega

theorem plus_yes {L : List Lk} {f : List Int} {k : Nat} (h : 0 < gainOf L f k) : plusK L f (k + 1) = plusK L f k + gainOf L f k ∧ minusK L f (k + 1) = minusK L f k := by
  unfold plusK minusK
  rw [sumN, sumN, if_pos h, if_pos h]
  omega
theorem plus_no {L : List Lk} {f : List Int} {k : Nat} (h : ¬ 0 < gainOf L f k) : plusK L f (k + 1) = plusK L f k ∧ minusK L f (k + 1) = minusK L f k - gainOf L f k := by
  unfold plusK minusK
  rw [sumN, sumN, if_neg h, if_neg h]
  omega

theorem plus_minus {V : Int} {L : List Lk} {f : List Int} (h : mayG V L = true) (c : capsB L f = true) : plusK L f V.toNat = minusK L f V.toNat := by
  have n := Nat.le_refl L.length
  have j := fun i (hi : i < L.length) => may_joins h hi
  have e1 := (sum_out c V.toNat L.length n).2 fun i hi => by have := j i hi; omega
  have e2 := (sum_in c V.toNat L.length n).2 fun i hi => by have := j i hi; omega
  have e3 : sumN (fun v => (if 0 < gainOf L f v then gainOf L f v else 0) + ig L f v L.length) V.toNat = sumN (fun v => (if 0 < gainOf L f v then 0 else -gainOf L f v) + og L f v L.length) V.toNat := by
    congr 1
    funext v
    have e : gainOf L f v = og L f v L.length - ig L f v L.length := gk_parts L f v L.length
    split <;> omega
  rw [sumN_add, sumN_add, e1, e2] at e3
  unfold plusK minusK
  omega

end Go.Proofs.Ytlpohlcmjnlbhaa

set_option maxRecDepth 20000
namespace Go.Proofs.Ytlpohlcmjnlbhaa

def lvAt (M : List Int) (v : Int) : Int := M[v.toNat]?.getD 0
def inV (V : Nat) (v : Int) : Prop := 0 ≤ v ∧ v < V

/-- An arc with room leads from u to v. -/
def Leads (ls : List Lk) (caps f : List Int) (m : Nat) (u v : Int) : Prop := ∃ a : Nat, a < m ∧ tailOf ls a = u ∧ headOf ls a = v ∧ 0 < roomI caps f (a : Int)

structure IsLv (V : Nat) (E : Int → Int → Prop) (s : Int) (M : List Int) : Prop where
  len : M.length = V
  src : lvAt M s = 0
  bd : ∀ v, inV V v → -1 ≤ lvAt M v ∧ lvAt M v < V
  zero : ∀ v, inV V v → lvAt M v = 0 → v = s
  up : ∀ u v, E u v → 0 ≤ lvAt M u → 0 ≤ lvAt M v ∧ lvAt M v ≤ lvAt M u + 1
  led : ∀ v, inV V v → 1 ≤ lvAt M v → ∃ u, E u v ∧ lvAt M u + 1 = lvAt M v

theorem lv_le {V : Nat} {E E' : Int → Int → Prop} {s : Int} {M M' : List Int} (hE : ∀ u v, E u v → inV V u ∧ inV V v) (hEE : ∀ u v, E u v → E' u v) (h : IsLv V E s M) (h' : IsLv V E' s M') :
    ∀ (d : Nat) (v : Int), inV V v → lvAt M v = d → 0 ≤ lvAt M' v ∧ lvAt M' v ≤ d
  | 0, v, hv, e => by
    obtain rfl := h.zero v hv e
    have := h'.src
    omega
  | d + 1, v, hv, e => by
    obtain ⟨u, hu, k⟩ := h.led v hv (by omega)
    have ih := lv_le hE hEE h h' d u (hE u v hu).1 (by omega)
    have := h'.up u v (hEE u v hu) ih.1
    omega

/-- Two lists of levels are one. -/
theorem lev_one {V : Nat} {E E' : Int → Int → Prop} {s : Int} {M M' : List Int} (hE : ∀ u v, E u v → inV V u ∧ inV V v) (hEE : ∀ u v, E u v ↔ E' u v) (h : IsLv V E s M) (h' : IsLv V E' s M') : M = M' := by
  have hE' : ∀ u v, E' u v → inV V u ∧ inV V v := fun u v k => hE u v ((hEE u v).2 k)
  refine List.ext_getElem (by rw [h.len, h'.len]) fun i h1 h2 => ?_
  have hi : inV V (i : Int) := ⟨by omega, by have := h.len; omega⟩
  have e1 : lvAt M (i : Int) = M[i] := by simp [lvAt, h1]
  have e2 : lvAt M' (i : Int) = M'[i] := by simp [lvAt, h2]
  rw [← e1, ← e2]
  have b1 := h.bd _ hi
  have b2 := h'.bd _ hi
  by_cases k : 0 ≤ lvAt M (i : Int)
  · have a1 := lv_le hE (fun u v => (hEE u v).1) h h' (lvAt M (i : Int)).toNat _ hi (by omega)
    have a2 := lv_le hE' (fun u v => (hEE u v).2) h' h (lvAt M' (i : Int)).toNat _ hi (by omega)
    omega
  · by_cases k' : 0 ≤ lvAt M' (i : Int)
    · have a2 := lv_le hE' (fun u v => (hEE u v).2) h' h (lvAt M' (i : Int)).toNat _ hi (by omega)
      omega
    · omega

theorem lv_set {M : List Int} {h x v : Int} (hh : inV M.length h) (hv : 0 ≤ v) : lvAt (M.set h.toNat x) v = if v = h then x else lvAt M v := by
  obtain ⟨h0, h1⟩ := hh
  unfold lvAt
  by_cases e : v = h
  · subst e
    rw [if_pos rfl, List.getElem?_set_self (by omega)]
    rfl
  · rw [if_neg e, List.getElem?_set_ne (by omega)]

theorem lv_at {M : List Int} {v : Int} (h : inV M.length v) : M[v.toNat]? = some (lvAt M v) := by
  obtain ⟨h0, h1⟩ := h
  unfold lvAt
  rw [List.getElem?_eq_getElem (by omega)]
  rfl

def negs (M : List Int) : Nat := M.countP (fun x => decide (x < 0))

theorem negs_set {M : List Int} {h x : Int} (hh : inV M.length h) (hx : 0 ≤ x) (hn : lvAt M h < 0) : negs (M.set h.toNat x) + 1 = negs M := by
  have h2 : h.toNat < M.length := by have := hh.1; have := hh.2; omega
  have e : M[h.toNat] < 0 := by
    have := lv_at hh
    rw [List.getElem?_eq_getElem h2] at this
    have := Option.some.inj this
    omega
  have hp : 0 < M.countP (fun x => decide (x < 0)) := List.countP_pos_iff.2 ⟨M[h.toNat], List.getElem_mem h2, by simpa using e⟩
  unfold negs
  rw [List.countP_set h2, if_pos (by simpa using e), if_neg (by simp; omega)]
  omega

def qAt (Q : List Int) (i : Nat) : Int := Q[i]?.getD 0

/-- The search: M the levels, Q those reached; the first at of them are done, of the next one its first j heads. -/
structure Bfs (V : Nat) (hd : Int → List Int) (s : Int) (M Q : List Int) (at' j : Nat) : Prop where
  len : M.length = V
  src : lvAt M s = 0
  low : ∀ v, inV V v → -1 ≤ lvAt M v
  isin : ∀ i, i < Q.length → inV V (qAt Q i)
  has : ∀ v, inV V v → 0 ≤ lvAt M v → ∃ i, i < Q.length ∧ qAt Q i = v
  got : ∀ i, i < Q.length → 0 ≤ lvAt M (qAt Q i) ∧ lvAt M (qAt Q i) ≤ i
  many : Q.length + negs M = V
  zero : ∀ v, inV V v → lvAt M v = 0 → v = s
  led : ∀ v, inV V v → 1 ≤ lvAt M v → ∃ u, inV V u ∧ v ∈ hd u ∧ lvAt M u + 1 = lvAt M v
  rise : ∀ i k, i ≤ k → k < Q.length → lvAt M (qAt Q i) ≤ lvAt M (qAt Q k)
  near : at' < Q.length → ∀ i, i < Q.length → lvAt M (qAt Q i) ≤ lvAt M (qAt Q at') + 1
  past : ∀ i, i < at' → i < Q.length → ∀ h ∈ hd (qAt Q i), 0 ≤ lvAt M h ∧ lvAt M h ≤ lvAt M (qAt Q i) + 1
  part : at' < Q.length → ∀ k, k < j → k < (hd (qAt Q at')).length → 0 ≤ lvAt M ((hd (qAt Q at'))[k]?.getD 0) ∧ lvAt M ((hd (qAt Q at'))[k]?.getD 0) ≤ lvAt M (qAt Q at') + 1

theorem rep_at {V : Nat} {v : Int} (h : inV V v) : lvAt (List.replicate V (-1)) v = -1 := by
  obtain ⟨h0, h1⟩ := h
  unfold lvAt
  rw [List.getElem?_replicate, if_pos (by omega)]
  rfl

theorem negs_rep (V : Nat) : negs (List.replicate V (-1)) = V := by simp [negs, List.countP_replicate]

theorem bfs_first {V : Nat} {hd : Int → List Int} {s : Int} (hs : inV V s) : Bfs V hd s ((List.replicate V (-1)).set s.toNat 0) [s] 0 0 := by
  have hl : inV (List.replicate V (-1 : Int)).length s := by simpa using hs
  have e : ∀ v, inV V v → lvAt ((List.replicate V (-1)).set s.toNat 0) v = if v = s then 0 else -1 := by
    intro v hv
    rw [lv_set hl hv.1, rep_at hv]
  have hn := negs_set (x := 0) hl (Int.le_refl _) (by rw [rep_at hs]; omega)
  rw [negs_rep] at hn
  have q0 : ∀ i, i < [s].length → qAt [s] i = s := by
    intro i hi
    obtain rfl : i = 0 := by simp at hi; exact hi
    rfl
  refine ⟨by simp, by rw [e s hs, if_pos rfl], fun v hv => by rw [e v hv]; split <;> omega, fun i hi => by rw [q0 i hi]; exact hs, fun v hv h => ?_, fun i hi => ?_, by simp; omega, fun v hv h => ?_, fun v hv h => ?_, fun i k hik hk => ?_, fun _ i hi => ?_, fun i h => by omega, fun _ k h => by omega⟩
  · rw [e v hv] at h
    by_cases k : v = s
    · exact ⟨0, by simp, k.symm⟩
    · rw [if_neg k] at h; omega
  · rw [q0 i hi, e s hs, if_pos rfl]; omega
  · rw [e v hv] at h
    by_cases k : v = s
    · exact k
    · rw [if_neg k] at h; omega
  · rw [e v hv] at h
    by_cases k : v = s
    · rw [if_pos k] at h; omega
    · rw [if_neg k] at h; omega
  · rw [q0 i (by omega), q0 k hk]; omega
  · rw [q0 i hi, q0 0 (by simp)]; omega

theorem bfs_next {V : Nat} {hd : Int → List Int} {s : Int} {M Q : List Int} {a j : Nat} (b : Bfs V hd s M Q a j) (ha : a < Q.length) (hj : (hd (qAt Q a)).length ≤ j) : Bfs V hd s M Q (a + 1) 0 := by
  refine ⟨b.len, b.src, b.low, b.isin, b.has, b.got, b.many, b.zero, b.led, b.rise, fun h i hi => ?_, fun i h1 h2 x hx => ?_, fun _ k h => by omega⟩
  · have h1 := b.near ha i hi
    have h2 := b.rise a (a + 1) (by omega) h
    omega
  · by_cases e : i < a
    · exact b.past i e h2 x hx
    · obtain rfl : i = a := by omega
      obtain ⟨k, hk, rfl⟩ := List.getElem_of_mem hx
      have := b.part ha k (by omega) hk
      rw [List.getElem?_eq_getElem hk] at this
      exact this

theorem bfs_old {V : Nat} {hd : Int → List Int} {s : Int} {M Q : List Int} {a j : Nat} (b : Bfs V hd s M Q a j) (hv : inV V ((hd (qAt Q a))[j]?.getD 0)) (hn : 0 ≤ lvAt M ((hd (qAt Q a))[j]?.getD 0)) : Bfs V hd s M Q a (j + 1) := by
  refine ⟨b.len, b.src, b.low, b.isin, b.has, b.got, b.many, b.zero, b.led, b.rise, b.near, b.past, fun h k h1 h2 => ?_⟩
  by_cases e : k < j
  · exact b.part h k e h2
  · obtain rfl : k = j := by omega
    obtain ⟨i, hi, e⟩ := b.has _ hv hn
    have := b.near h i hi
    rw [e] at this
    exact ⟨hn, this⟩

theorem q_app {Q : List Int} {x : Int} {i : Nat} (h : i < Q.length) : qAt (Q ++ [x]) i = qAt Q i := by
  unfold qAt
  rw [List.getElem?_append_left h]
theorem q_last {Q : List Int} {x : Int} : qAt (Q ++ [x]) Q.length = x := by simp [qAt]

theorem bfs_new {V : Nat} {hd : Int → List Int} {s : Int} {M Q : List Int} {a j : Nat} {x : Int} (b : Bfs V hd s M Q a j) (ha : a < Q.length) (hj : j < (hd (qAt Q a)).length) (hx : (hd (qAt Q a))[j]?.getD 0 = x) (hv : inV V x) (hn : lvAt M x < 0) :
    Bfs V hd s (M.set x.toNat (lvAt M (qAt Q a) + 1)) (Q ++ [x]) a (j + 1) := by
  have hl : inV M.length x := by rw [b.len]; exact hv
  have g := b.got a ha
  have hne : ∀ v, 0 ≤ lvAt M v → v ≠ x := fun v h e => by subst e; omega
  have e : ∀ v, 0 ≤ v → lvAt (M.set x.toNat (lvAt M (qAt Q a) + 1)) v = if v = x then lvAt M (qAt Q a) + 1 else lvAt M v := fun v hv => lv_set hl hv
  have ex := e x hv.1
  rw [if_pos rfl] at ex
  have eo : ∀ v, inV V v → 0 ≤ lvAt M v → lvAt (M.set x.toNat (lvAt M (qAt Q a) + 1)) v = lvAt M v := fun v hv h => by rw [e v hv.1, if_neg (hne v h)]
  have eq : ∀ i, i < Q.length → lvAt (M.set x.toNat (lvAt M (qAt Q a) + 1)) (qAt (Q ++ [x]) i) = lvAt M (qAt Q i) := fun i hi => by rw [q_app hi]; exact eo _ (b.isin i hi) (b.got i hi).1
  have el : lvAt (M.set x.toNat (lvAt M (qAt Q a) + 1)) (qAt (Q ++ [x]) Q.length) = lvAt M (qAt Q a) + 1 := by rw [q_last]; exact ex
  have hs : (Q ++ [x]).length = Q.length + 1 := by simp
  have hsv : inV V s := by
    obtain ⟨i, hi, h⟩ : ∃ i, i < Q.length ∧ qAt Q i = s := by
      have g0 := b.got 0 (by omega)
      have z := b.zero (qAt Q 0) (b.isin 0 (by omega)) (by omega)
      exact ⟨0, by omega, z⟩
    rw [← h]
    exact b.isin i hi
  have hq : qAt (Q ++ [x]) a = qAt Q a := q_app ha
  refine ⟨by simpa using b.len, by rw [eo s hsv (by rw [b.src]; omega)]; exact b.src, fun v hv => ?_, fun i hi => ?_, fun v hv h => ?_, fun i hi => ?_, ?_, fun v hv h => ?_, fun v hv h => ?_, fun i k hik hk => ?_, fun _ i hi => ?_, fun i h1 h2 y hy => ?_, fun _ k h1 h2 => ?_⟩
  · rw [e v hv.1]
    have := b.low v hv
    split <;> omega
  · by_cases k : i < Q.length
    · rw [q_app k]; exact b.isin i k
    · obtain rfl : i = Q.length := by omega
      rw [q_last]; exact hv
  · by_cases k : v = x
    · exact ⟨Q.length, by omega, by rw [q_last, k]⟩
    · rw [e v hv.1, if_neg k] at h
      obtain ⟨i, hi, r⟩ := b.has v hv h
      exact ⟨i, by omega, by rw [q_app hi]; exact r⟩
  · by_cases k : i < Q.length
    · rw [eq i k]; exact b.got i k
    · obtain rfl : i = Q.length := by omega
      rw [el]; omega
  · have h1 := negs_set (x := lvAt M (qAt Q a) + 1) hl (by omega) hn
    have h2 := b.many
    omega
  · by_cases k : v = x
    · subst k; omega
    · rw [e v hv.1, if_neg k] at h
      exact b.zero v hv h
  · by_cases k : v = x
    · subst k
      refine ⟨qAt Q a, b.isin a ha, ?_, ?_⟩
      · rw [← hx, List.getElem?_eq_getElem hj]
        exact List.getElem_mem hj
      · rw [ex, eo _ (b.isin a ha) g.1]
    · rw [e v hv.1, if_neg k] at h ⊢
      obtain ⟨u, h1, h2, h3⟩ := b.led v hv h
      refine ⟨u, h1, h2, ?_⟩
      rw [eo u h1 (by omega)]
      exact h3
  · by_cases k2 : k < Q.length
    · rw [eq i (by omega), eq k k2]
      exact b.rise i k hik k2
    · obtain rfl : k = Q.length := by omega
      rw [el]
      by_cases k3 : i < Q.length
      · rw [eq i k3]
        exact b.near ha i k3
      · obtain rfl : i = Q.length := by omega
        rw [el]; omega
  · rw [eq a ha]
    by_cases k : i < Q.length
    · rw [eq i k]; exact b.near ha i k
    · obtain rfl : i = Q.length := by omega
      rw [el]; omega
  · have hi : i < Q.length := by omega
    rw [eq i hi]
    rw [q_app hi] at hy
    have := b.past i h1 hi y hy
    by_cases k : y = x
    · subst k; omega
    · by_cases hy0 : 0 ≤ y
      · rw [e y hy0, if_neg k]; exact this
      · have e1 : y.toNat = 0 := by omega
        have e2 : x.toNat ≠ 0 ∨ x.toNat = 0 := by omega
        rcases e2 with e2 | e2
        · have : lvAt (M.set x.toNat (lvAt M (qAt Q a) + 1)) y = lvAt M y := by
            unfold lvAt
            rw [e1, List.getElem?_set_ne (by omega)]
          rw [this]; assumption
        · have e3 : lvAt M y = lvAt M x := by unfold lvAt; rw [e1, e2]
          omega
  · rw [hq] at h2 ⊢
    rw [eo _ (b.isin a ha) g.1]
    by_cases e1 : k < j
    · have := b.part ha k e1 h2
      generalize (hd (qAt Q a))[k]?.getD 0 = y at *
      by_cases k : y = x
      · subst k; omega
      · by_cases hy0 : 0 ≤ y
        · rw [e y hy0, if_neg k]; exact this
        · have e1 : y.toNat = 0 := by omega
          rcases (show x.toNat ≠ 0 ∨ x.toNat = 0 by omega) with e2 | e2
          · have e4 : lvAt (M.set x.toNat (lvAt M (qAt Q a) + 1)) y = lvAt M y := by
              unfold lvAt
              rw [e1, List.getElem?_set_ne (by omega)]
            rw [e4]; exact this
          · have e3 : lvAt M y = lvAt M x := by unfold lvAt; rw [e1, e2]
            omega
    · obtain rfl : k = j := by omega
      rw [hx, ex]
      omega

theorem bfs_end {V : Nat} {hd : Int → List Int} {s : Int} {M Q : List Int} {a j : Nat} (E : Int → Int → Prop) (hE : ∀ u v, E u v → inV V u ∧ inV V v) (hh : ∀ u v, inV V u → (E u v ↔ v ∈ hd u)) (b : Bfs V hd s M Q a j) (ha : Q.length ≤ a) : IsLv V E s M := by
  refine ⟨b.len, b.src, fun v hv => ⟨b.low v hv, ?_⟩, b.zero, fun u v h hu => ?_, fun v hv h => ?_⟩
  · have hm := b.many
    by_cases k : 0 ≤ lvAt M v
    · obtain ⟨i, hi, e⟩ := b.has v hv k
      have := (b.got i hi).2
      rw [e] at this
      omega
    · have := hv.1; have := hv.2; omega
  · obtain ⟨i, hi, e⟩ := b.has u (hE u v h).1 hu
    have hm := (hh u v (hE u v h).1).1 h
    rw [← e] at hm ⊢
    exact b.past i (by omega) hi v hm
  · obtain ⟨u, h1, h2, h3⟩ := b.led v hv h
    exact ⟨u, (hh u v h1).2 h2, h3⟩

/-- The search round by round: those of a level below t are there, of level t those to which one of the first k arcs leads. -/
def Hit (ls : List Lk) (caps f : List Int) (M : List Int) (t : Int) (k : Nat) (v : Int) : Prop := ∃ a : Nat, a < k ∧ headOf ls a = v ∧ lvAt M (tailOf ls a) = t ∧ 0 < roomI caps f (a : Int)

structure Rnd (V : Nat) (ls : List Lk) (caps f M R : List Int) (t k : Nat) : Prop where
  len : R.length = V
  at_ : ∀ v, inV V v → (0 ≤ lvAt M v ∧ lvAt M v ≤ t ∧ lvAt R v = lvAt M v) ∨ (lvAt M v = t + 1 ∧ Hit ls caps f M t k v ∧ lvAt R v = t + 1) ∨ (¬ (0 ≤ lvAt M v ∧ lvAt M v ≤ t) ∧ ¬ (lvAt M v = t + 1 ∧ Hit ls caps f M t k v) ∧ lvAt R v = -1)

theorem rnd_first {V : Nat} {ls : List Lk} {caps f M : List Int} {E : Int → Int → Prop} {s : Int} (hs : inV V s) (h : IsLv V E s M) : Rnd V ls caps f M ((List.replicate V (-1)).set s.toNat 0) 0 0 := by
  have hl : inV (List.replicate V (-1 : Int)).length s := by simpa using hs
  refine ⟨by simp, fun v hv => ?_⟩
  have e : lvAt ((List.replicate V (-1)).set s.toNat 0) v = if v = s then 0 else -1 := by rw [lv_set hl hv.1, rep_at hv]
  rw [e]
  by_cases k : v = s
  · subst k
    have := h.src
    rw [if_pos rfl]
    exact .inl (by omega)
  · rw [if_neg k]
    refine .inr (.inr ⟨fun h2 => k (h.zero v hv (by omega)), fun h2 => ?_, rfl⟩)
    obtain ⟨_, a, ha, _⟩ := h2
    omega

theorem rnd_round {V : Nat} {ls : List Lk} {caps f M R : List Int} {s : Int} {t m : Nat} (h : IsLv V (Leads ls caps f m) s M) (r : Rnd V ls caps f M R t m) : Rnd V ls caps f M R (t + 1) 0 := by
  refine ⟨r.len, fun v hv => ?_⟩
  rcases r.at_ v hv with k | k | k
  · exact .inl (by omega)
  · exact .inl (by omega)
  · refine .inr (.inr ⟨fun h2 => ?_, fun h2 => ?_, k.2.2⟩)
    · refine k.2.1 ⟨by omega, ?_⟩
      obtain ⟨u, ⟨a, ha, h3, h4, h5⟩, h6⟩ := h.led v hv (by omega)
      exact ⟨a, ha, h4, by rw [h3]; omega, h5⟩
    · obtain ⟨_, a, ha, _⟩ := h2
      omega

theorem rnd_end {V : Nat} {ls : List Lk} {caps f M R : List Int} {E : Int → Int → Prop} {s : Int} (h : IsLv V E s M) (r : Rnd V ls caps f M R V 0) : R = M := by
  refine List.ext_getElem (by rw [r.len, h.len]) fun i h1 h2 => ?_
  have hi : inV V (i : Int) := ⟨by omega, by have := h.len; omega⟩
  have e1 : lvAt R (i : Int) = R[i] := by simp [lvAt, h1]
  have e2 : lvAt M (i : Int) = M[i] := by simp [lvAt, h2]
  rw [← e1, ← e2]
  have b := h.bd _ hi
  rcases r.at_ _ hi with k | k | k
  · exact k.2.2
  · omega
  · by_cases k2 : 0 ≤ lvAt M (i : Int)
    · exact absurd ⟨k2, by omega⟩ k.1
    · omega

/-- An arc that does not lead on. -/
theorem rnd_skip {V : Nat} {ls : List Lk} {caps f M R : List Int} {t k : Nat} (r : Rnd V ls caps f M R t k) (ht : inV V (tailOf ls k))
    (no : ¬ (lvAt R (tailOf ls k) = t ∧ 0 < roomI caps f (k : Int) ∧ lvAt R (headOf ls k) < 0)) : Rnd V ls caps f M R t (k + 1) := by
  refine ⟨r.len, fun v hv => ?_⟩
  rcases r.at_ v hv with c | c | c
  · exact .inl c
  · obtain ⟨c1, ⟨a, ha, c2⟩, c3⟩ := c
    exact .inr (.inl ⟨c1, ⟨a, by omega, c2⟩, c3⟩)
  · refine .inr (.inr ⟨c.1, fun h2 => ?_, c.2.2⟩)
    obtain ⟨h3, a, ha, h4, h5, h6⟩ := h2
    by_cases e : a < k
    · exact c.2.1 ⟨h3, a, e, h4, h5, h6⟩
    · obtain rfl : a = k := by omega
      refine no ⟨?_, h6, by rw [h4]; have := c.2.2; omega⟩
      rcases r.at_ _ ht with d | d | d
      · omega
      · omega
      · exact absurd ⟨by omega, by omega⟩ d.1

/-- An arc that leads on. -/
theorem rnd_put {V : Nat} {ls : List Lk} {caps f M R : List Int} {s : Int} {t k m : Nat} (h : IsLv V (Leads ls caps f m) s M) (r : Rnd V ls caps f M R t k) (hk : k < m) (ht : inV V (tailOf ls k)) (hh : inV V (headOf ls k))
    (h1 : lvAt R (tailOf ls k) = t) (h2 : 0 < roomI caps f (k : Int)) (h3 : lvAt R (headOf ls k) < 0) : Rnd V ls caps f M (R.set (headOf ls k).toNat ((t : Int) + 1)) t (k + 1) := by
  have hl : inV R.length (headOf ls k) := by rw [r.len]; exact hh
  have htl : lvAt M (tailOf ls k) = t := by
    rcases r.at_ _ ht with d | d | d
    · omega
    · omega
    · omega
  have hup := h.up _ _ ⟨k, hk, rfl, rfl, h2⟩ (by omega)
  have hm : lvAt M (headOf ls k) = t + 1 := by
    rcases r.at_ _ hh with d | d | d
    · omega
    · omega
    · have := d.1; omega
  refine ⟨by simpa using r.len, fun v hv => ?_⟩
  rw [lv_set hl hv.1]
  by_cases e : v = headOf ls k
  · rw [if_pos e]
    subst e
    exact .inr (.inl ⟨hm, ⟨k, by omega, rfl, htl, h2⟩, rfl⟩)
  · rw [if_neg e]
    rcases r.at_ v hv with c | c | c
    · exact .inl c
    · obtain ⟨c1, ⟨a, ha, c2⟩, c3⟩ := c
      exact .inr (.inl ⟨c1, ⟨a, by omega, c2⟩, c3⟩)
    · refine .inr (.inr ⟨c.1, fun h2 => ?_, c.2.2⟩)
      obtain ⟨h3, a, ha, h4, h5, h6⟩ := h2
      by_cases e2 : a < k
      · exact c.2.1 ⟨h3, a, e2, h4, h5, h6⟩
      · obtain rfl : a = k := by omega
        exact e h4.symm

theorem rnd_len {V : Nat} {ls : List Lk} {caps f M R : List Int} {t k : Nat} (r : Rnd V ls caps f M R t k) : ∀ v, inV V v → -1 ≤ lvAt R v ∧ lvAt R v ≤ t + 1 := by
  intro v hv
  rcases r.at_ v hv with c | c | c <;> omega

/-- The heads of the arcs with room, of those of a row. -/
def hdR (ls : List Lk) (caps f : List Int) (r : List Int) : List Int := (r.filter fun a => decide (0 < roomI caps f a)).map fun a => headOf ls a.toNat
def hdOf (ls : List Lk) (caps f : List Int) (n : Nat) (v : Int) : List Int := hdR ls caps f (rowA ls v (2 * n))

theorem take_nextI {r : List Int} {j : Nat} (hj : j < r.length) : r.take (j + 1) = r.take j ++ [r[j]?.getD 0] := by
  rw [List.take_add_one, List.getElem?_eq_getElem hj]
  rfl

theorem hd_yes {ls : List Lk} {caps f r : List Int} {j : Nat} (hj : j < r.length) (h : 0 < roomI caps f (r[j]?.getD 0)) : hdR ls caps f (r.take (j + 1)) = hdR ls caps f (r.take j) ++ [headOf ls (r[j]?.getD 0).toNat] := by
  rw [take_nextI hj]
  generalize r[j]?.getD 0 = x at *
  unfold hdR
  rw [List.filter_append, List.map_append]
  congr 1
  rw [List.filter_cons_of_pos (by simpa using h)]
  rfl

theorem hd_no {ls : List Lk} {caps f r : List Int} {j : Nat} (hj : j < r.length) (h : ¬ 0 < roomI caps f (r[j]?.getD 0)) : hdR ls caps f (r.take (j + 1)) = hdR ls caps f (r.take j) := by
  rw [take_nextI hj]
  generalize r[j]?.getD 0 = x at *
  unfold hdR
  rw [List.filter_append, List.map_append, List.filter_cons_of_neg (by simpa using h)]
  simp

theorem rowA_mem {ls : List Lk} {v : Int} : ∀ {m : Nat} {x : Int}, x ∈ rowA ls v m ↔ ∃ a : Nat, a < m ∧ x = (a : Int) ∧ tailOf ls a = v
  | 0, x => by simp [rowA]
  | m + 1, x => by
    rw [rowA, List.mem_append, rowA_mem, arcIf]
    constructor
    · rintro (⟨a, h1, h2⟩ | h)
      · exact ⟨a, by omega, h2⟩
      · by_cases k : tailOf ls m = v
        · rw [if_pos k] at h
          exact ⟨m, by omega, by simpa using h, k⟩
        · rw [if_neg k] at h
          cases h
    · rintro ⟨a, h1, h2, h3⟩
      by_cases k : a < m
      · exact .inl ⟨a, k, h2, h3⟩
      · obtain rfl : a = m := by omega
        right
        rw [if_pos h3]
        simpa using h2

theorem hd_mem {ls : List Lk} {caps f : List Int} {n : Nat} {u v : Int} : Leads ls caps f (2 * n) u v ↔ v ∈ hdOf ls caps f n u := by
  unfold hdOf hdR Leads
  rw [List.mem_map]
  constructor
  · rintro ⟨a, h1, h2, h3, h4⟩
    exact ⟨(a : Int), List.mem_filter.2 ⟨rowA_mem.2 ⟨a, h1, rfl, h2⟩, by simpa using h4⟩, by simpa using h3⟩
  · rintro ⟨x, hx, e⟩
    obtain ⟨h1, h2⟩ := List.mem_filter.1 hx
    obtain ⟨a, h3, rfl, h4⟩ := rowA_mem.1 h1
    exact ⟨a, h3, h4, by simpa using e, by simpa using h2⟩

theorem hd_len (ls : List Lk) (caps f r : List Int) : (hdR ls caps f r).length ≤ r.length := by
  unfold hdR
  rw [List.length_map]
  exact List.length_filter_le _ _

theorem leads_in {vn n : Nat} {ls : List Lk} {caps f : List Int} (hm : mayG (vn : Nat) ls = true) (hl : ls.length = n) : ∀ u v, Leads ls caps f (2 * n) u v → inV vn u ∧ inV vn v := by
  rintro u v ⟨a, h1, rfl, rfl, _⟩
  have t := tail_bd hm (a := a) (by omega)
  have h := head_bd hm (a := a) (by omega)
  exact ⟨⟨t.1, t.2⟩, h.1, h.2⟩

def lvB (V : Int) (ls : List Lk) (caps f : List Int) (s : Int) : Bool := fitsF V ls caps f && isV V s
/-- What Levels may tell. -/
def LvIs (V : Int) (ls : List Lk) (caps f : List Int) (s : Int) (M : List Int) (z : Int) : Prop :=
  (lvB V ls caps f s = true ∧ z = 0 ∧ IsLv V.toNat (Leads ls caps f (2 * ls.length)) s M) ∨ (lvB V ls caps f s = false ∧ z = 1000 ∧ M = [])

theorem lev_no {V : Int} {ls : List Lk} {caps f : List Int} {s : Int} (h : lvB V ls caps f s = false) : LvIs V ls caps f s [] 1000 := .inr ⟨h, rfl, rfl⟩
theorem lev_yes {vn n : Nat} {ls : List Lk} {caps f M : List Int} {s : Int} (h : lvB (vn : Nat) ls caps f s = true) (hl : ls.length = n) (k : IsLv vn (Leads ls caps f (2 * n)) s M) : LvIs (vn : Nat) ls caps f s M 0 := .inl ⟨h, rfl, by rw [hl]; simpa using k⟩

theorem lvB_parts {V : Int} {ls : List Lk} {caps f : List Int} {s : Int} (h : lvB V ls caps f s = true) : fitsF V ls caps f = true ∧ isV V s = true := by
  simpa [lvB] using h

theorem lv_okI {V : Nat} {E : Int → Int → Prop} {s : Int} {M : List Int} (h : IsLv V E s M) (hV : V ≤ 8) : ∀ i : Nat, -9223372036854775808 ≤ M[i]?.getD 0 ∧ M[i]?.getD 0 ≤ 9223372036854775807 := by
  intro i
  by_cases hi : i < V
  · have := h.bd (i : Int) ⟨by omega, by omega⟩
    unfold lvAt at this
    rw [Int.toNat_natCast] at this
    omega
  · rw [List.getElem?_eq_none (by have := h.len; omega)]
    simp

theorem lvIs_okI {V : Int} {ls : List Lk} {caps f M : List Int} {s z : Int} (h : LvIs V ls caps f s M z) : (∀ i : Nat, -9223372036854775808 ≤ M[i]?.getD 0 ∧ M[i]?.getD 0 ≤ 9223372036854775807) ∧ M.length ≤ 8 := by
  rcases h with ⟨h1, _, h2⟩ | ⟨_, _, rfl⟩
  · have h3 := may_small (fits_parts (lvB_parts h1).1).1
    exact ⟨lv_okI h2 (by omega), by have := h2.len; omega⟩
  · simp

theorem lvIs_one {V : Int} {ls : List Lk} {caps f M M' : List Int} {s z z' : Int} (h : LvIs V ls caps f s M z) (h' : LvIs V ls caps f s M' z') : M = M' ∧ z = z' := by
  rcases h with ⟨h1, e1, h2⟩ | ⟨h1, e1, h2⟩ <;> rcases h' with ⟨k1, e2, k2⟩ | ⟨k1, e2, k2⟩
  · have hm := (fits_parts (lvB_parts h1).1).1
    have hV := may_small hm
    obtain ⟨vn, rfl⟩ : ∃ vn : Nat, V = (vn : Nat) := ⟨V.toNat, by omega⟩
    rw [Int.toNat_natCast] at h2 k2
    exact ⟨lev_one (leads_in hm rfl) (fun _ _ => Iff.rfl) h2 k2, by omega⟩
  · rw [h1] at k1; cases k1
  · rw [h1] at k1; cases k1
  · exact ⟨by rw [h2, k2], by omega⟩

end Go.Proofs.Ytlpohlcmjnlbhaa

set_option maxRecDepth 20000
namespace Go.Proofs.Ytlpohlcmjnlbhaa

/-- An arc steps: it has room, and goes one level up. -/
def StepsA (ls : List Lk) (caps f M : List Int) (a : Nat) : Prop := 0 < roomI caps f (a : Int) ∧ 0 ≤ lvAt M (tailOf ls a) ∧ lvAt M (headOf ls a) = lvAt M (tailOf ls a) + 1

/-- There is a way from s over arcs that p lets by. -/
inductive Way (ls : List Lk) (p : Nat → Prop) (m : Nat) (s : Int) : Int → Prop
  | here : Way ls p m s s
  | on (a : Nat) : a < m → p a → Way ls p m s (tailOf ls a) → Way ls p m s (headOf ls a)

theorem Way.mono {ls : List Lk} {p q : Nat → Prop} {m : Nat} {s v : Int} (w : Way ls p m s v) (h : ∀ a, p a → q a) : Way ls q m s v := by
  induction w with
  | here => exact .here
  | on a ha hp _ ih => exact .on a ha (h a hp) ih

/-- Only over arcs that step. -/
structure Over (ls : List Lk) (caps f b M : List Int) : Prop where
  up : ∀ i : Nat, i < ls.length → f[i]?.getD 0 < b[i]?.getD 0 → StepsA ls caps f M (2 * i)
  down : ∀ i : Nat, i < ls.length → b[i]?.getD 0 < f[i]?.getD 0 → StepsA ls caps f M (2 * i + 1)

theorem roomE2 (caps f : List Int) (i : Nat) : roomI caps f ((2 * i : Nat) : Int) = caps[i]?.getD 0 - f[i]?.getD 0 := by
  have h1 : (((2 * i : Nat) : Int) / 2).toNat = i := by omega
  have h2 : ((2 * i : Nat) : Int) % 2 = 0 := by omega
  rw [roomI, if_pos h2, h1]

theorem roomO2 (caps f : List Int) (i : Nat) : roomI caps f ((2 * i + 1 : Nat) : Int) = f[i]?.getD 0 := by
  have h1 : (((2 * i + 1 : Nat) : Int) / 2).toNat = i := by omega
  have h2 : ¬ ((2 * i + 1 : Nat) : Int) % 2 = 0 := by omega
  rw [roomI, if_neg h2, h1]

/-- Room that is there now was there before, or came of an arc that steps, the other way: then it goes one level down. -/
theorem over_room {n : Nat} {ls : List Lk} {caps f b M : List Int} (hl : ls.length = n) (hr : ratesB caps f = true) (hc : caps.length = n) (o : Over ls caps f b M) {a : Nat} (ha : a < 2 * n) (h : 0 < roomI caps b (a : Int)) :
    0 < roomI caps f (a : Int) ∨ (0 ≤ lvAt M (headOf ls a) ∧ lvAt M (tailOf ls a) = lvAt M (headOf ls a) + 1) := by
  obtain ⟨_, h2⟩ := ratesB_parts hr
  rcases Nat.mod_two_eq_zero_or_one a with e | e
  · obtain ⟨i, rfl⟩ : ∃ i, a = 2 * i := ⟨a / 2, by omega⟩
    rw [roomE2] at h ⊢
    by_cases k : 0 < caps[i]?.getD 0 - f[i]?.getD 0
    · exact .inl k
    · have hs := o.down i (by omega) (by omega)
      right
      have h4 := hs.2
      rw [tail_odd, head_odd] at h4
      rw [tail_even, head_even]
      exact h4
  · obtain ⟨i, rfl⟩ : ∃ i, a = 2 * i + 1 := ⟨a / 2, by omega⟩
    rw [roomO2] at h ⊢
    have := h2 i (by omega)
    unfold capI at this
    by_cases k : 0 < f[i]?.getD 0
    · exact .inl k
    · have hs := o.up i (by omega) (by omega)
      right
      have h4 := hs.2
      rw [tail_even, head_even] at h4
      rw [tail_odd, head_odd]
      exact h4

/-- Levels never fall. -/
theorem over_low {V n : Nat} {ls : List Lk} {caps f b M N : List Int} {s : Int} (hm : mayG (V : Nat) ls = true) (hl : ls.length = n) (hr : ratesB caps f = true) (hc : caps.length = n) (o : Over ls caps f b M) (h : IsLv V (Leads ls caps f (2 * n)) s M) (k : IsLv V (Leads ls caps b (2 * n)) s N) :
    ∀ (d : Nat) (v : Int), inV V v → lvAt N v = d → 0 ≤ lvAt M v ∧ lvAt M v ≤ d
  | 0, v, hv, e => by
    obtain rfl := k.zero v hv e
    have := h.src
    omega
  | d + 1, v, hv, e => by
    obtain ⟨u, ⟨a, ha, rfl, rfl, hra⟩, hu⟩ := k.led v hv (by omega)
    have hin := leads_in (caps := caps) (f := b) hm hl (tailOf ls a) (headOf ls a) ⟨a, ha, rfl, rfl, hra⟩
    have ih := over_low hm hl hr hc o h k d (tailOf ls a) hin.1 (by omega)
    rcases over_room hl hr hc o ha hra with g | g
    · have := h.up _ _ ⟨a, ha, rfl, rfl, g⟩ ih.1
      omega
    · omega

/-- One that stands as high as before is led to over arcs that step and have room still. -/
theorem over_way {V n : Nat} {ls : List Lk} {caps f b M N : List Int} {s : Int} (hm : mayG (V : Nat) ls = true) (hl : ls.length = n) (hr : ratesB caps f = true) (hc : caps.length = n) (o : Over ls caps f b M) (h : IsLv V (Leads ls caps f (2 * n)) s M) (k : IsLv V (Leads ls caps b (2 * n)) s N) :
    ∀ (d : Nat) (v : Int), inV V v → lvAt N v = d → lvAt M v = d → Way ls (fun a => StepsA ls caps f M a ∧ 0 < roomI caps b (a : Int)) (2 * n) s v
  | 0, v, hv, e, _ => by
    obtain rfl := k.zero v hv e
    exact .here
  | d + 1, v, hv, e, e2 => by
    obtain ⟨u, ⟨a, ha, rfl, rfl, hra⟩, hu⟩ := k.led v hv (by omega)
    have hin := leads_in (caps := caps) (f := b) hm hl (tailOf ls a) (headOf ls a) ⟨a, ha, rfl, rfl, hra⟩
    have lo := over_low hm hl hr hc o h k d (tailOf ls a) hin.1 (by omega)
    rcases over_room hl hr hc o ha hra with g | g
    · have := h.up _ _ ⟨a, ha, rfl, rfl, g⟩ lo.1
      exact .on a ha ⟨⟨g, lo.1, by omega⟩, hra⟩ (over_way hm hl hr hc o h k d _ hin.1 (by omega) (by omega))
    · omega

/-- Blocked: the sink stands higher then, or nowhere. -/
theorem over_deeper {V n : Nat} {ls : List Lk} {caps f b M N : List Int} {s t : Int} (hm : mayG (V : Nat) ls = true) (hl : ls.length = n) (hr : ratesB caps f = true) (hc : caps.length = n) (o : Over ls caps f b M) (h : IsLv V (Leads ls caps f (2 * n)) s M) (k : IsLv V (Leads ls caps b (2 * n)) s N) (ht : inV V t)
    (no : ¬ Way ls (fun a => StepsA ls caps f M a ∧ 0 < roomI caps b (a : Int)) (2 * n) s t) : lvAt N t < 0 ∨ (0 ≤ lvAt M t ∧ lvAt M t < lvAt N t) := by
  by_cases g : lvAt N t < 0
  · exact .inl g
  · right
    have lo := over_low hm hl hr hc o h k (lvAt N t).toNat t ht (by omega)
    refine ⟨lo.1, ?_⟩
    by_cases e : lvAt M t = lvAt N t
    · exact absurd (over_way hm hl hr hc o h k (lvAt N t).toNat t ht (by omega) (by omega)) no
    · omega

/-- A way over arcs that step leads to each one that has a level. -/
theorem steps_way {V n : Nat} {ls : List Lk} {caps f M : List Int} {s : Int} (hm : mayG (V : Nat) ls = true) (hl : ls.length = n) (h : IsLv V (Leads ls caps f (2 * n)) s M) :
    ∀ (d : Nat) (v : Int), inV V v → lvAt M v = d → Way ls (fun a => StepsA ls caps f M a) (2 * n) s v
  | 0, v, hv, e => by
    obtain rfl := h.zero v hv e
    exact .here
  | d + 1, v, hv, e => by
    obtain ⟨u, ⟨a, ha, rfl, rfl, hra⟩, hu⟩ := h.led v hv (by omega)
    have hin := leads_in (caps := caps) (f := f) hm hl (tailOf ls a) (headOf ls a) ⟨a, ha, rfl, rfl, hra⟩
    exact .on a ha ⟨hra, by omega, by omega⟩ (steps_way hm hl h d _ hin.1 (by omega))

theorem sumN_congr {g h : Nat → Int} : ∀ m, (∀ v, v < m → g v = h v) → sumN g m = sumN h m
  | 0, _ => rfl
  | m + 1, k => by rw [sumN, sumN, sumN_congr m (fun v hv => k v (by omega)), k m (by omega)]

theorem sumN_leK {g h : Nat → Int} : ∀ m, (∀ v, v < m → g v ≤ h v) → sumN g m ≤ sumN h m
  | 0, _ => Int.le_refl _
  | m + 1, k => by
    have := sumN_leK m (fun v hv => k v (by omega))
    have := k m (by omega)
    simp only [sumN]
    omega

theorem sumN_sub (g h : Nat → Int) : ∀ m, sumN (fun v => g v - h v) m = sumN g m - sumN h m
  | 0 => rfl
  | m + 1 => by simp only [sumN, sumN_sub g h m]; omega

theorem sumN_zero : ∀ m, sumN (fun _ => 0) m = 0
  | 0 => rfl
  | m + 1 => by rw [sumN, sumN_zero m]; rfl

theorem sumN_pick (g : Nat → Int) (a x : Int) : ∀ m : Nat, sumN (fun v => g v * (if a = (v : Int) then x else 0)) m = if 0 ≤ a ∧ a < m then g a.toNat * x else 0
  | 0 => by rw [sumN, if_neg (by omega)]
  | m + 1 => by
    rw [sumN, sumN_pick g a x m]
    by_cases e : a = (m : Int)
    · have e1 : ¬ (0 ≤ a ∧ a < (m : Int)) := by omega
      have e2 : 0 ≤ a ∧ a < ((m + 1 : Nat) : Int) := by omega
      have e3 : a.toNat = m := by omega
      rw [if_neg e1, if_pos e, if_pos e2, e3, Int.zero_add]
    · rw [if_neg e, Int.mul_zero, Int.add_zero]
      by_cases h : 0 ≤ a ∧ a < (m : Int)
      · have e2 : 0 ≤ a ∧ a < ((m + 1 : Nat) : Int) := by omega
        rw [if_pos h, if_pos e2]
      · have e2 : ¬ (0 ≤ a ∧ a < ((m + 1 : Nat) : Int)) := by omega
        rw [if_neg h, if_neg e2]

/-- Gains weighed vertex by vertex are what lies on the links, weighed by the difference of their ends. -/
theorem sum_gains (g : Nat → Int) {L : List Lk} (f : List Int) {V : Nat} (hm : mayG (V : Nat) L = true) : ∀ k, k ≤ L.length → sumN (fun v => g v * gk L f (v : Int) k) V = sumN (fun i => f[i]?.getD 0 * (g (at3 L i).1.toNat - g (at3 L i).2.1.toNat)) k
  | 0, _ => by
    have : sumN (fun v => g v * gk L f (v : Int) 0) V = sumN (fun _ => 0) V := sumN_congr V (fun v _ => by rw [gk, Int.mul_zero])
    rw [this, sumN_zero]
    rfl
  | k + 1, hk => by
    have ih := sum_gains g f hm k (by omega)
    have hj := may_joins hm (i := k) (by omega)
    have e : sumN (fun v => g v * gk L f (v : Int) (k + 1)) V = sumN (fun v => (g v * gk L f (v : Int) k + g v * outP L f (v : Int) k) - g v * inP L f (v : Int) k) V :=
      sumN_congr V (fun v _ => by rw [gk, Int.mul_sub, Int.mul_add])
    rw [e, sumN_sub (fun v => g v * gk L f (v : Int) k + g v * outP L f (v : Int) k) (fun v => g v * inP L f (v : Int) k), sumN_add (fun v => g v * gk L f (v : Int) k) (fun v => g v * outP L f (v : Int) k), ih]
    have e1 := sumN_pick g (at3 L k).1 (f[k]?.getD 0) V
    have e2 := sumN_pick g (at3 L k).2.1 (f[k]?.getD 0) V
    rw [if_pos ⟨hj.1, hj.2.1⟩] at e1
    rw [if_pos ⟨hj.2.2.1, hj.2.2.2.1⟩] at e2
    unfold outP inP
    rw [e1, e2, sumN, Int.mul_sub, Int.mul_comm (g _) (f[k]?.getD 0), Int.mul_comm (g _) (f[k]?.getD 0)]
    omega

theorem sumN_two {h : Nat → Int} {a b : Nat} (hab : a ≠ b) : ∀ m, (∀ v, v < m → v ≠ a → v ≠ b → h v = 0) → sumN h m = (if a < m then h a else 0) + (if b < m then h b else 0)
  | 0, _ => by simp [sumN]
  | m + 1, k => by
    rw [sumN, sumN_two hab m (fun v hv => k v (by omega))]
    by_cases e1 : a = m
    · subst e1
      rw [if_neg (show ¬ a < a by omega), if_pos (show a < a + 1 by omega)]
      by_cases e2 : b < a
      · rw [if_pos e2, if_pos (by omega)]; omega
      · rw [if_neg e2, if_neg (by omega)]; omega
    · by_cases e2 : b = m
      · subst e2
        rw [if_neg (show ¬ b < b by omega), if_pos (show b < b + 1 by omega)]
        by_cases e3 : a < b
        · rw [if_pos e3, if_pos (by omega)]; omega
        · rw [if_neg e3, if_neg (by omega)]; omega
      · rw [k m (by omega) (fun e => e1 e.symm) (fun e => e2 e.symm)]
        have h1 : (a < m + 1) ↔ (a < m) := by omega
        have h2 : (b < m + 1) ↔ (b < m) := by omega
        simp only [h1, h2]
        omega

theorem flow_parts {V : Nat} {L : List Lk} {caps f : List Int} {s t : Int} (h : flowB (V : Nat) L caps f s t = true) :
    fitsF (V : Nat) L caps f = true ∧ inV V s ∧ inV V t ∧ s ≠ t ∧ 0 ≤ gainOf L f s ∧ ∀ v : Nat, v < V → (v : Int) ≠ s → (v : Int) ≠ t → gainOf L f (v : Int) = 0 := by
  simp only [flowB, Bool.and_eq_true, Bool.not_eq_true', beq_eq_false_iff_ne, decide_eq_true_eq, isV, List.all_eq_true, List.mem_range, Int.toNat_natCast] at h
  obtain ⟨⟨⟨⟨h1, h2, h3⟩, h4⟩, h5⟩, h6⟩ := h
  refine ⟨h1, h2, h3, h4, h5, fun v hv a b => ?_⟩
  have := h6 v hv
  simp only [restB, Bool.or_eq_true, beq_iff_eq] at this
  rcases this with (k | k) | k
  · exact absurd k a
  · exact absurd k b
  · exact k

theorem flow_sum (g : Nat → Int) {V : Nat} {L : List Lk} {caps f : List Int} {s t : Int} (h : flowB (V : Nat) L caps f s t = true) :
    g s.toNat * gainOf L f s + g t.toNat * gainOf L f t = sumN (fun i => f[i]?.getD 0 * (g (at3 L i).1.toNat - g (at3 L i).2.1.toNat)) L.length := by
  obtain ⟨h1, h2, h3, h4, _, h6⟩ := flow_parts h
  have hm := (fits_parts h1).1
  rw [← sum_gains g f hm L.length (Nat.le_refl _)]
  have s0 := h2.1
  have s1 := h2.2
  have t0 := h3.1
  have t1 := h3.2
  have e := sumN_two (h := fun v => g v * gk L f (v : Int) L.length) (a := s.toNat) (b := t.toNat) (by omega) V (fun v hv a b => by
    have : gk L f (v : Int) L.length = 0 := h6 v hv (by omega) (by omega)
    rw [this, Int.mul_zero])
  rw [if_pos (by omega), if_pos (by omega)] at e
  rw [e]
  have e1 : ((s.toNat : Nat) : Int) = s := by omega
  have e2 : ((t.toNat : Nat) : Int) = t := by omega
  simp only [gainOf, e1, e2]

theorem flow_ends {V : Nat} {L : List Lk} {caps f : List Int} {s t : Int} (h : flowB (V : Nat) L caps f s t = true) : gainOf L f t = -gainOf L f s := by
  have e := flow_sum (fun _ => 1) h
  have z : sumN (fun i => f[i]?.getD 0 * ((fun _ : Nat => (1 : Int)) (at3 L i).1.toNat - (fun _ : Nat => (1 : Int)) (at3 L i).2.1.toNat)) L.length = sumN (fun _ => 0) L.length := sumN_congr _ (fun v _ => by simp)
  rw [z, sumN_zero] at e
  omega

def ind (p : Nat → Bool) (v : Nat) : Int := if p v then 1 else 0
/-- What the links that leave a set may carry. -/
def cutW (p : Nat → Bool) (L : List Lk) (caps : List Int) (k : Nat) : Int := sumN (fun i => if p (at3 L i).1.toNat && !p (at3 L i).2.1.toNat then caps[i]?.getD 0 else 0) k

theorem flow_out {V : Nat} {L : List Lk} {caps f : List Int} {s t : Int} {p : Nat → Bool} (h : flowB (V : Nat) L caps f s t = true) (hs : p s.toNat = true) (ht : p t.toNat = false) :
    gainOf L f s = sumN (fun i => f[i]?.getD 0 * (ind p (at3 L i).1.toNat - ind p (at3 L i).2.1.toNat)) L.length := by
  have e := flow_sum (ind p) h
  rw [← e, ind, hs, ind, ht]
  simp

/-- No flow is greater than a cut. -/
theorem flow_cut {V : Nat} {L : List Lk} {caps f : List Int} {s t : Int} {p : Nat → Bool} (h : flowB (V : Nat) L caps f s t = true) (hs : p s.toNat = true) (ht : p t.toNat = false) : gainOf L f s ≤ cutW p L caps L.length := by
  rw [flow_out h hs ht]
  obtain ⟨f1, f2, f3, f4⟩ := fits_parts (flow_parts h).1
  refine sumN_leK _ fun i hi => ?_
  have hc := (capsB_parts f2).1
  have hr := (ratesB_parts f3).2 i (by omega)
  unfold capI at hr
  unfold ind
  cases p (at3 L i).1.toNat <;> cases p (at3 L i).2.1.toNat <;> simp <;> omega

/-- A set that no arc with room leaves is a cut as great as the flow. -/
theorem flow_full {V : Nat} {L : List Lk} {caps f : List Int} {s t : Int} {p : Nat → Bool} (h : flowB (V : Nat) L caps f s t = true) (hs : p s.toNat = true) (ht : p t.toNat = false)
    (hcl : ∀ a : Nat, a < 2 * L.length → 0 < roomI caps f (a : Int) → p (tailOf L a).toNat = true → p (headOf L a).toNat = true) : gainOf L f s = cutW p L caps L.length := by
  rw [flow_out h hs ht]
  obtain ⟨f1, f2, f3, f4⟩ := fits_parts (flow_parts h).1
  refine sumN_congr _ fun i hi => ?_
  have hc := (capsB_parts f2).1
  have hr := (ratesB_parts f3).2 i (by omega)
  unfold capI at hr
  have k1 := hcl (2 * i) (by omega)
  have k2 := hcl (2 * i + 1) (by omega)
  rw [roomE2, tail_even, head_even] at k1
  rw [roomO2, tail_odd, head_odd] at k2
  unfold ind
  cases e1 : p (at3 L i).1.toNat <;> cases e2 : p (at3 L i).2.1.toNat
  · simp
  · rw [e1, e2] at k2
    have : ¬ 0 < f[i]?.getD 0 := fun q => by have := k2 q rfl; cases this
    simp
    omega
  · rw [e1, e2] at k1
    have : ¬ 0 < caps[i]?.getD 0 - f[i]?.getD 0 := fun q => by have := k1 q rfl; cases this
    simp
    omega
  · simp

/-- Those that have a level: where the sink has none, the flow is as great as this cut. -/
theorem flow_reach {V : Nat} {L : List Lk} {caps f M : List Int} {s t : Int} (h : flowB (V : Nat) L caps f s t = true) (k : IsLv V (Leads L caps f (2 * L.length)) s M) (ht : lvAt M t < 0) :
    gainOf L f s = cutW (fun v => decide (0 ≤ lvAt M (v : Int))) L caps L.length := by
  obtain ⟨h1, h2, h3, _⟩ := flow_parts h
  have hm := (fits_parts h1).1
  have s0 := h2.1
  have t0 := h3.1
  have e1 : ((s.toNat : Nat) : Int) = s := by omega
  have e2 : ((t.toNat : Nat) : Int) = t := by omega
  refine flow_full h ?_ ?_ fun a ha hr hp => ?_
  · simp only [e1, k.src]; decide
  · simp only [e2, decide_eq_false_iff_not]; omega
  · have b1 := (leads_in (caps := caps) (f := f) hm rfl _ _ ⟨a, ha, rfl, rfl, hr⟩)
    have q1 := b1.1.1
    have q2 := b1.2.1
    have e3 : (((tailOf L a).toNat : Nat) : Int) = tailOf L a := by omega
    have e4 : (((headOf L a).toNat : Nat) : Int) = headOf L a := by omega
    simp only [e3, decide_eq_true_eq] at hp
    simp only [e4, decide_eq_true_eq]
    exact (k.up _ _ ⟨a, ha, rfl, rfl, hr⟩ hp).1

def farI (f b : List Int) (i : Nat) : Int := if f[i]?.getD 0 < b[i]?.getD 0 then b[i]?.getD 0 - f[i]?.getD 0 else f[i]?.getD 0 - b[i]?.getD 0

theorem far_nonneg (f b : List Int) (i : Nat) : 0 ≤ farI f b i := by
  unfold farI
  split <;> omega

/-- All that turned together is as much as was pushed, as often as the sink stands high. -/
theorem over_sum {V : Nat} {L : List Lk} {caps f b M : List Int} {s t k : Int} (hf : flowB (V : Nat) L caps f s t = true) (hb : flowB (V : Nat) L caps b s t = true) (hk : gainOf L b s = gainOf L f s + k) (o : Over L caps f b M) (h : IsLv V (Leads L caps f (2 * L.length)) s M) :
    sumN (farI f b) L.length = lvAt M t * k := by
  have e1 := flow_sum (fun v => lvAt M (v : Int)) hf
  have e2 := flow_sum (fun v => lvAt M (v : Int)) hb
  obtain ⟨h1, h2, h3, _⟩ := flow_parts hf
  have hm := (fits_parts h1).1
  have s0 := h2.1
  have t0 := h3.1
  have q1 : ((s.toNat : Nat) : Int) = s := by omega
  have q2 : ((t.toNat : Nat) : Int) = t := by omega
  simp only [q1, q2, h.src, Int.zero_mul, Int.zero_add] at e1 e2
  rw [flow_ends hf, Int.mul_neg] at e1
  rw [flow_ends hb, hk, Int.mul_neg, Int.mul_add] at e2
  have e3 : sumN (fun i => b[i]?.getD 0 * (lvAt M (((at3 L i).1.toNat : Nat) : Int) - lvAt M (((at3 L i).2.1.toNat : Nat) : Int)) - f[i]?.getD 0 * (lvAt M (((at3 L i).1.toNat : Nat) : Int) - lvAt M (((at3 L i).2.1.toNat : Nat) : Int))) L.length = sumN (fun i => 0 - farI f b i) L.length := by
    refine sumN_congr _ fun i hi => ?_
    have hj := may_joins hm hi
    have q3 : (((at3 L i).1.toNat : Nat) : Int) = (at3 L i).1 := by have := hj.1; omega
    have q4 : (((at3 L i).2.1.toNat : Nat) : Int) = (at3 L i).2.1 := by have := hj.2.2.1; omega
    simp only [q3, q4]
    rw [← Int.sub_mul]
    unfold farI
    by_cases c1 : f[i]?.getD 0 < b[i]?.getD 0
    · have st := (o.up i hi c1).2.2
      rw [tail_even, head_even] at st
      rw [if_pos c1, st, show lvAt M (at3 L i).1 - (lvAt M (at3 L i).1 + 1) = -1 by omega]
      omega
    · rw [if_neg c1]
      by_cases c2 : b[i]?.getD 0 < f[i]?.getD 0
      · have st := (o.down i hi c2).2.2
        rw [tail_odd, head_odd] at st
        rw [st, show lvAt M (at3 L i).2.1 + 1 - lvAt M (at3 L i).2.1 = 1 by omega]
        omega
      · rw [show b[i]?.getD 0 - f[i]?.getD 0 = 0 by omega, Int.zero_mul]
        omega
  rw [sumN_sub (fun i => b[i]?.getD 0 * (lvAt M (((at3 L i).1.toNat : Nat) : Int) - lvAt M (((at3 L i).2.1.toNat : Nat) : Int))) (fun i => f[i]?.getD 0 * (lvAt M (((at3 L i).1.toNat : Nat) : Int) - lvAt M (((at3 L i).2.1.toNat : Nat) : Int))), ← e1, ← e2, sumN_sub (fun _ => 0) (farI f b), sumN_zero] at e3
  omega

theorem sum_nil {h : Nat → Int} (h0 : ∀ i, 0 ≤ h i) : ∀ m, sumN h m ≤ 0 → ∀ i, i < m → h i = 0
  | 0, _, i, hi => by omega
  | m + 1, hs, i, hi => by
    rw [sumN] at hs
    have h1 : 0 ≤ sumN h m := by
      have := sumN_leK (g := fun _ => 0) (h := h) m (fun v _ => h0 v)
      rw [sumN_zero] at this
      exact this
    have h2 := h0 m
    by_cases e : i < m
    · exact sum_nil h0 m (by omega) i e
    · obtain rfl : i = m := by omega
      omega

theorem sum_pos {h : Nat → Int} (h0 : ∀ i, 0 ≤ h i) (m : Nat) : 0 ≤ sumN h m := by
  have := sumN_leK (g := fun _ => 0) (h := h) m (fun v _ => h0 v)
  rw [sumN_zero] at this
  exact this

theorem far_same {f b : List Int} {n : Nat} (h1 : f.length = n) (h2 : b.length = n) (h : ∀ i, i < n → farI f b i = 0) : b = f := by
  refine List.ext_getElem (by omega) fun i i1 i2 => ?_
  have := h i (by omega)
  unfold farI at this
  rw [List.getElem?_eq_getElem i1, List.getElem?_eq_getElem i2] at this
  simp only [Option.getD_some] at this
  split at this <;> omega

theorem flow_len {V : Nat} {L : List Lk} {caps f : List Int} {s t : Int} (h : flowB (V : Nat) L caps f s t = true) : f.length = L.length := by
  obtain ⟨_, f2, f3, _⟩ := fits_parts (flow_parts h).1
  have := (capsB_parts f2).1
  have := (ratesB_parts f3).1
  omega

/-- Nothing pushed: nothing turned. -/
theorem over_same {V : Nat} {L : List Lk} {caps f b M : List Int} {s t : Int} (hf : flowB (V : Nat) L caps f s t = true) (hb : flowB (V : Nat) L caps b s t = true) (hk : gainOf L b s = gainOf L f s) (o : Over L caps f b M) (h : IsLv V (Leads L caps f (2 * L.length)) s M) : b = f := by
  have e := over_sum (k := 0) hf hb (by omega) o h
  rw [Int.mul_zero] at e
  exact far_same (flow_len hf) (flow_len hb) (sum_nil (far_nonneg f b) L.length (by omega))

/-- Where the sink can't be reached nothing is pushed, and it is as it was. -/
theorem over_shut {V : Nat} {L : List Lk} {caps f b M : List Int} {s t k : Int} (hf : flowB (V : Nat) L caps f s t = true) (hb : flowB (V : Nat) L caps b s t = true) (hk : gainOf L b s = gainOf L f s + k) (k0 : 0 ≤ k) (o : Over L caps f b M) (h : IsLv V (Leads L caps f (2 * L.length)) s M) (ht : lvAt M t < 0) : k = 0 ∧ b = f := by
  have e := over_sum hf hb hk o h
  have hbd := h.bd t (flow_parts hf).2.2.1
  rw [show lvAt M t = -1 by omega] at e
  have p := sum_pos (far_nonneg f b) L.length
  have hz : k = 0 := by omega
  subst hz
  exact ⟨rfl, over_same hf hb (by omega) o h⟩

/-- What a blocking flow keeps. -/
structure BlkIs (V : Nat) (L : List Lk) (caps f : List Int) (s t most : Int) (b : List Int) (k : Int) (M : List Int) : Prop where
  flow : flowB (V : Nat) L caps b s t = true
  val : gainOf L b s = gainOf L f s + k
  low : 0 ≤ k
  high : k ≤ most
  over : Over L caps f b M
  shut : k = most ∨ ¬ Way L (fun a => StepsA L caps f M a ∧ 0 < roomI caps b (a : Int)) (2 * L.length) s t

/-- Something is pushed where the sink can be reached and something was asked for. -/
theorem blk_some {V : Nat} {L : List Lk} {caps f b M : List Int} {s t k most : Int} (hf : flowB (V : Nat) L caps f s t = true) (h : IsLv V (Leads L caps f (2 * L.length)) s M) (hb : BlkIs V L caps f s t most b k M) (ht : 0 ≤ lvAt M t) (hm : 0 < most) : 0 < k := by
  by_cases hk : 0 < k
  · exact hk
  · have hz : k = 0 := by have := hb.low; omega
    subst hz
    have e := over_same hf hb.flow (by have := hb.val; omega) hb.over h
    subst e
    obtain ⟨h1, _, h3, _⟩ := flow_parts hf
    have w := steps_way (fits_parts h1).1 rfl h (lvAt M t).toNat t h3 (by omega)
    rcases hb.shut with q | q
    · omega
    · refine absurd ?_ q
      exact w.mono fun a hp => ⟨hp, hp.1⟩

theorem blk_deeper {V : Nat} {L : List Lk} {caps f b M N : List Int} {s t k most : Int} (hf : flowB (V : Nat) L caps f s t = true) (h : IsLv V (Leads L caps f (2 * L.length)) s M) (hb : BlkIs V L caps f s t most b k M) (hn : IsLv V (Leads L caps b (2 * L.length)) s N) (hk : k ≠ most) : lvAt N t < 0 ∨ (0 ≤ lvAt M t ∧ lvAt M t < lvAt N t) := by
  obtain ⟨h1, _, h3, _⟩ := flow_parts hf
  obtain ⟨f1, f2, f3, _⟩ := fits_parts h1
  rcases hb.shut with q | q
  · exact absurd q hk
  · exact over_deeper f1 rfl f3 (capsB_parts f2).1 hb.over h hn h3 q

/-- A sink that can't be reached stays so. -/
theorem blk_stays {V : Nat} {L : List Lk} {caps f b M : List Int} {s t k most : Int} (hf : flowB (V : Nat) L caps f s t = true) (h : IsLv V (Leads L caps f (2 * L.length)) s M) (hb : BlkIs V L caps f s t most b k M) (ht : lvAt M t < 0) : k = 0 ∧ b = f :=
  over_shut hf hb.flow hb.val hb.low hb.over h ht

/-- There are levels. -/
theorem bfs_row {V : Nat} {hd : Int → List Int} {s : Int} (hh : ∀ u, inV V u → ∀ x ∈ hd u, inV V x) {a : Nat} {v : Int} : ∀ (d j : Nat) (M Q : List Int), Bfs V hd s M Q a j → a < Q.length → qAt Q a = v → j + d = (hd v).length →
    ∃ M' Q', Bfs V hd s M' Q' a (hd v).length ∧ a < Q'.length ∧ qAt Q' a = v
  | 0, j, M, Q, b, ha, hq, e => by
    obtain rfl : j = (hd v).length := by omega
    exact ⟨M, Q, b, ha, hq⟩
  | d + 1, j, M, Q, b, ha, hq, e => by
    have hj : j < (hd (qAt Q a)).length := by rw [hq]; omega
    have hv : inV V ((hd (qAt Q a))[j]?.getD 0) := by
      rw [List.getElem?_eq_getElem hj]
      exact hh _ (b.isin a ha) _ (List.getElem_mem hj)
    by_cases k : 0 ≤ lvAt M ((hd (qAt Q a))[j]?.getD 0)
    · exact bfs_row hh d (j + 1) M Q (bfs_old b hv k) ha hq (by omega)
    · exact bfs_row hh d (j + 1) _ _ (bfs_new b ha hj rfl hv (by omega)) (by simp; omega) (by rw [q_app ha]; exact hq) (by omega)

theorem bfs_all {V : Nat} {hd : Int → List Int} {s : Int} (hh : ∀ u, inV V u → ∀ x ∈ hd u, inV V x) : ∀ (d a : Nat) (M Q : List Int), Bfs V hd s M Q a 0 → a ≤ Q.length → a + d = V → ∃ M' Q' a', Bfs V hd s M' Q' a' 0 ∧ Q'.length ≤ a'
  | 0, a, M, Q, b, ha, e => ⟨M, Q, a, b, by have := b.many; omega⟩
  | d + 1, a, M, Q, b, ha, e => by
    by_cases k : a < Q.length
    · obtain ⟨M', Q', b', h1, h2⟩ := bfs_row hh (hd (qAt Q a)).length 0 M Q b k rfl (by omega)
      exact bfs_all hh d (a + 1) M' Q' (bfs_next b' h1 (by rw [h2]; exact Nat.le_refl _)) (by omega) (by omega)
    · exact ⟨M, Q, a, b, by omega⟩

theorem lev_there {V n : Nat} {ls : List Lk} {caps f : List Int} {s : Int} (hm : mayG (V : Nat) ls = true) (hl : ls.length = n) (hs : inV V s) : ∃ M, IsLv V (Leads ls caps f (2 * n)) s M := by
  have hh : ∀ u, inV V u → ∀ x ∈ hdOf ls caps f n u, inV V x := fun u _ x hx => (leads_in hm hl u x (hd_mem.2 hx)).2
  obtain ⟨M, Q, a, b, h⟩ := bfs_all hh V 0 _ _ (bfs_first (hd := fun v => hdOf ls caps f n v) hs) (by simp) (by omega)
  exact ⟨M, bfs_end (Leads ls caps f (2 * n)) (leads_in hm hl) (fun u v _ => hd_mem) b h⟩

/-- Block by block: the sink stands higher than there were rounds, or nowhere, or all that can be is pushed. -/
structure RoundI (V : Nat) (L : List Lk) (caps : List Int) (s t : Int) (i : Nat) (f : List Int) (all : Int) : Prop where
  flow : flowB (V : Nat) L caps f s t = true
  val : gainOf L f s = all
  far : ∀ M, IsLv V (Leads L caps f (2 * L.length)) s M → lvAt M t < 0 ∨ (i : Int) < lvAt M t ∨ all = 4611686018427387904

theorem flow_most {V : Nat} {L : List Lk} {caps f : List Int} {s t : Int} (h : flowB (V : Nat) L caps f s t = true) : 0 ≤ gainOf L f s ∧ gainOf L f s ≤ 4611686018427387904 := by
  obtain ⟨h1, _, _, _, h5, _⟩ := flow_parts h
  obtain ⟨f1, _, _, f4⟩ := fits_parts h1
  exact ⟨h5, (gain_bd s f1 f4).2⟩

theorem round_next {V : Nat} {L : List Lk} {caps f b M : List Int} {s t k all : Int} {i : Nat} (r : RoundI V L caps s t i f all) (h : IsLv V (Leads L caps f (2 * L.length)) s M) (hb : BlkIs V L caps f s t 4611686018427387904 b k M) : RoundI V L caps s t (i + 1) b (all + k) ∧ k ≤ 4611686018427387904 - all := by
  have hv := hb.val
  rw [r.val] at hv
  have m1 := flow_most r.flow
  have m2 := flow_most hb.flow
  rw [r.val] at m1
  rw [hv] at m2
  have hl := hb.low
  refine ⟨⟨hb.flow, hv, fun N hn => ?_⟩, by omega⟩
  by_cases q : k = 4611686018427387904
  · right; right; omega
  · rcases blk_deeper r.flow h hb hn q with d | ⟨d1, d2⟩
    · exact .inl d
    · rcases r.far M h with e | e | e
      · omega
      · right; left; omega
      · right; right; omega

theorem round_end {V : Nat} {L : List Lk} {caps f : List Int} {s t all : Int} (r : RoundI V L caps s t V f all) : (∃ p : Nat → Bool, p s.toNat = true ∧ p t.toNat = false ∧ all = cutW p L caps L.length) ∨ all = 4611686018427387904 := by
  obtain ⟨h1, h2, h3, _⟩ := flow_parts r.flow
  have hm := (fits_parts h1).1
  obtain ⟨M, h⟩ := lev_there (caps := caps) (f := f) hm rfl h2
  have hbd := h.bd t h3
  have s0 := h2.1
  have t0 := h3.1
  have e1 : ((s.toNat : Nat) : Int) = s := by omega
  have e2 : ((t.toNat : Nat) : Int) = t := by omega
  rcases r.far M h with e | e | e
  · left
    refine ⟨fun v => decide (0 ≤ lvAt M (v : Int)), ?_, ?_, ?_⟩
    · simp only [e1, h.src]; decide
    · simp only [e2, decide_eq_false_iff_not]; omega
    · rw [← r.val]; exact flow_reach r.flow h e
  · omega
  · exact .inr e

/-- No cut is less. -/
theorem round_least {V : Nat} {L : List Lk} {caps f : List Int} {s t all : Int} {i : Nat} (r : RoundI V L caps s t i f all) {p : Nat → Bool} (hs : p s.toNat = true) (ht : p t.toNat = false) : all ≤ cutW p L caps L.length := by
  rw [← r.val]
  exact flow_cut r.flow hs ht

theorem gk_zero (L : List Lk) (n : Nat) (v : Int) : ∀ k, gk L (List.replicate n 0) v k = 0
  | 0 => rfl
  | k + 1 => by
    have z : (List.replicate n (0 : Int))[k]?.getD 0 = 0 := by
      rw [List.getElem?_replicate]
      split <;> rfl
    rw [gk, gk_zero L n v k, outP, inP, z]
    simp

theorem round_first {V : Nat} {L : List Lk} {caps : List Int} {s t : Int} (h1 : mayG (V : Nat) L = true) (h2 : capsB L caps = true) (hs : inV V s) (ht : inV V t) (hst : s ≠ t) : RoundI V L caps s t 0 (List.replicate L.length 0) 0 := by
  have hc := (capsB_parts h2).1
  have z : ∀ i : Nat, (List.replicate L.length (0 : Int))[i]?.getD 0 = 0 := fun i => by
    rw [List.getElem?_replicate]
    split <;> rfl
  have hr : ratesB caps (List.replicate L.length 0) = true := ratesB_mk (by simp [hc]) fun i hi => by
    have := ((capsB_parts h2).2 i (by omega)).1
    unfold capI at *
    rw [z]
    omega
  refine ⟨?_, gk_zero L _ s _, fun M h => ?_⟩
  · simp only [flowB, fitsF, h1, h2, hr, Bool.and_eq_true, Bool.not_eq_true', beq_eq_false_iff_ne, decide_eq_true_eq, isV, List.all_eq_true, List.mem_range, Int.toNat_natCast]
    refine ⟨⟨⟨⟨⟨⟨trivial, trivial⟩, trivial⟩, ⟨hs.1, hs.2⟩, ht.1, ht.2⟩, hst⟩, by rw [gainOf, gk_zero]; omega⟩, fun v _ => ?_⟩
    simp only [restB, gainOf, gk_zero]
    simp
  · have hbd := h.bd t ht
    by_cases e : lvAt M t = 0
    · exact absurd (h.zero t ht e).symm hst
    · by_cases e2 : lvAt M t < 0
      · exact .inl e2
      · right; left; omega

/-- Each set of vertices is the bits of a number. -/
theorem bits_of (p : Nat → Bool) : ∀ V : Nat, ∃ B, B < 2 ^ V ∧ ∀ v, v < V → B.testBit v = p v
  | 0 => ⟨0, by simp, fun v hv => by omega⟩
  | V + 1 => by
    obtain ⟨B, h1, h2⟩ := bits_of p V
    cases hp : p V
    · refine ⟨B, by rw [Nat.pow_succ]; omega, fun v hv => ?_⟩
      by_cases e : v < V
      · exact h2 v e
      · obtain rfl : v = V := by omega
        rw [hp]
        exact Nat.testBit_lt_two_pow h1
    · refine ⟨2 ^ V + B, by rw [Nat.pow_succ]; omega, fun v hv => ?_⟩
      by_cases e : v < V
      · rw [Nat.testBit_two_pow_add_gt e, h2 v e]
      · obtain rfl : v = V := by omega
        rw [hp, Nat.testBit_two_pow_add_eq, Nat.testBit_lt_two_pow h1]
        rfl

theorem cutW_congr {V : Nat} {L : List Lk} {caps : List Int} {p q : Nat → Bool} (hm : mayG (V : Nat) L = true) (h : ∀ v, v < V → p v = q v) : cutW p L caps L.length = cutW q L caps L.length := by
  refine sumN_congr _ fun i hi => ?_
  have hj := may_joins hm hi
  rw [h _ (by omega), h _ (by omega)]

/-- The least of these numbers, of those that are let by. -/
def leastN (ok : Nat → Bool) (w : Nat → Int) : Nat → Int
  | 0 => 4611686018427387904
  | B + 1 => if ok B = true ∧ w B < leastN ok w B then w B else leastN ok w B

theorem least_low {ok : Nat → Bool} {w : Nat → Int} {x : Int} (hx : x ≤ 4611686018427387904) : ∀ m, (∀ B, B < m → ok B = true → x ≤ w B) → x ≤ leastN ok w m
  | 0, _ => hx
  | m + 1, h => by
    have ih := least_low hx m (fun B hB => h B (by omega))
    rw [leastN]
    split
    · rename_i k
      exact h m (by omega) k.1
    · exact ih

theorem least_most {ok : Nat → Bool} {w : Nat → Int} : ∀ m, leastN ok w m ≤ 4611686018427387904
  | 0 => Int.le_refl _
  | m + 1 => by
    have ih := least_most (ok := ok) (w := w) m
    rw [leastN]
    split <;> omega

theorem least_hit {ok : Nat → Bool} {w : Nat → Int} {B : Nat} (hB : ok B = true) : ∀ m, B < m → leastN ok w m ≤ w B
  | 0, h => by omega
  | m + 1, h => by
    rw [leastN]
    by_cases e : B < m
    · have ih := least_hit (w := w) hB m e
      split <;> omega
    · obtain rfl : B = m := by omega
      split
      · omega
      · rename_i k
        have : ¬ w B < leastN ok w B := fun q => k ⟨hB, q⟩
        omega

/-- Block by block the flow becomes as great as the least cut. -/
theorem round_all {V : Nat} {L : List Lk} {caps f : List Int} {s t all : Int} (r : RoundI V L caps s t V f all) :
    leastN (fun B => B.testBit s.toNat && !B.testBit t.toNat) (fun B => cutW (fun v => B.testBit v) L caps L.length) (2 ^ V) = all := by
  obtain ⟨h1, h2, h3, _⟩ := flow_parts r.flow
  have hm := (fits_parts h1).1
  have s0 := h2.1
  have s1 := h2.2
  have t0 := h3.1
  have t1 := h3.2
  have hmost := flow_most r.flow
  rw [r.val] at hmost
  have lo := least_low (ok := fun B => B.testBit s.toNat && !B.testBit t.toNat) (w := fun B => cutW (fun v => B.testBit v) L caps L.length) hmost.2 (2 ^ V) (fun B _ hB => by
    simp only [Bool.and_eq_true, Bool.not_eq_true'] at hB
    exact round_least r (p := fun v => B.testBit v) hB.1 hB.2)
  have hi : leastN (fun B => B.testBit s.toNat && !B.testBit t.toNat) (fun B => cutW (fun v => B.testBit v) L caps L.length) (2 ^ V) ≤ all := by
    rcases round_end r with ⟨p, hs, ht, e⟩ | e
    · obtain ⟨B, b1, b2⟩ := bits_of p V
      have := least_hit (ok := fun B => B.testBit s.toNat && !B.testBit t.toNat) (w := fun B => cutW (fun v => B.testBit v) L caps L.length) (B := B) (by simp only [b2 s.toNat (by omega), b2 t.toNat (by omega), hs, ht]; rfl) (2 ^ V) b1
      rw [e, ← cutW_congr (caps := caps) hm b2]
      exact this
    · rw [e]
      exact least_most _
  omega

end Go.Proofs.Ytlpohlcmjnlbhaa

set_option maxRecDepth 20000
namespace Go.Proofs.Ytlpohlcmjnlbhaa

/-- Arcs over which something goes, forth. -/
def posA (f : List Int) (a : Nat) : Prop := a % 2 = 0 ∧ 0 < f[a / 2]?.getD 0

/-- A way over links with a rate above 0. -/
abbrev Led (L : List Lk) (f : List Int) (u v : Int) : Prop := Way L (posA f) (2 * L.length) u v

theorem Led.step {L : List Lk} {f : List Int} {u : Int} {i : Nat} (hi : i < L.length) (hf : 0 < f[i]?.getD 0) (w : Led L f u (at3 L i).1) : Led L f u (at3 L i).2.1 := by
  have h := Way.on (ls := L) (p := posA f) (m := 2 * L.length) (s := u) (2 * i) (by omega) ⟨by omega, by rw [show 2 * i / 2 = i by omega]; exact hf⟩ (by rw [tail_even]; exact w)
  rw [head_even] at h
  exact h

theorem Way.trans {ls : List Lk} {p : Nat → Prop} {m : Nat} {s u v : Int} (w1 : Way ls p m s u) (w2 : Way ls p m u v) : Way ls p m s v := by
  induction w2 with
  | here => exact w1
  | on a ha hp _ ih => exact .on a ha hp ih

/-- One link ahead of a way. -/
theorem Led.first {L : List Lk} {f : List Int} {v : Int} {i : Nat} (hi : i < L.length) (hf : 0 < f[i]?.getD 0) (w : Led L f (at3 L i).2.1 v) : Led L f (at3 L i).1 v :=
  Way.trans (Led.step hi hf .here) w

/-- What a way keeps. -/
theorem Led.keep {L : List Lk} {f : List Int} {P : Int → Prop} {u v : Int} (w : Led L f u v) (h0 : P u) (h : ∀ i, i < L.length → 0 < f[i]?.getD 0 → P (at3 L i).1 → P (at3 L i).2.1) : P v := by
  induction w with
  | here => exact h0
  | on a ha hp _ ih =>
    obtain ⟨h1, h2⟩ := hp
    obtain ⟨i, rfl⟩ : ∃ i, a = 2 * i := ⟨a / 2, by omega⟩
    rw [show 2 * i / 2 = i by omega] at h2
    rw [tail_even] at ih
    rw [head_even]
    exact h i (by omega) h2 ih

/-- There is a cycle. -/
def CycP (L : List Lk) (f : List Int) : Prop := ∃ i, i < L.length ∧ 0 < f[i]?.getD 0 ∧ Led L f (at3 L i).2.1 (at3 L i).1

/-- The links of a cycle, in their row. -/
structure TurnsIs (L : List Lk) (f ls : List Int) : Prop where
  two : 2 ≤ ls.length
  most : ls.length ≤ L.length
  has : ∀ i, i < ls.length → 0 ≤ ls[i]?.getD 0 ∧ ls[i]?.getD 0 < L.length ∧ 0 < f[(ls[i]?.getD 0).toNat]?.getD 0
  next : ∀ i, i < ls.length → (at3 L (ls[i]?.getD 0).toNat).2.1 = (at3 L (ls[(i + 1) % ls.length]?.getD 0).toNat).1
  once : ∀ i j, j < i → i < ls.length → (at3 L (ls[i]?.getD 0).toNat).1 ≠ (at3 L (ls[j]?.getD 0).toNat).1

theorem turns_led {L : List Lk} {f ls : List Int} (h : TurnsIs L f ls) : ∀ k, k < ls.length → Led L f (at3 L (ls[0]?.getD 0).toNat).2.1 (at3 L (ls[k]?.getD 0).toNat).2.1
  | 0, _ => .here
  | k + 1, hk => by
    have ih := turns_led h k (by omega)
    have hn := h.next k (by omega)
    rw [Nat.mod_eq_of_lt hk] at hn
    obtain ⟨a, b, c⟩ := h.has (k + 1) hk
    rw [hn] at ih
    exact Led.step (by omega) c ih

theorem turns_cyc {L : List Lk} {f ls : List Int} (h : TurnsIs L f ls) : CycP L f := by
  have h2 := h.two
  obtain ⟨a, b, c⟩ := h.has 0 (by omega)
  have hl := turns_led h (ls.length - 1) (by omega)
  have hn := h.next (ls.length - 1) (by omega)
  rw [show ls.length - 1 + 1 = ls.length by omega, Nat.mod_self] at hn
  rw [hn] at hl
  exact ⟨(ls[0]?.getD 0).toNat, by omega, c, hl⟩

/-- Within what has no cycle there is none. -/
theorem cyc_mono {L : List Lk} {f g : List Int} (h : ∀ i, i < L.length → 0 < g[i]?.getD 0 → 0 < f[i]?.getD 0) (c : CycP L g) : CycP L f := by
  obtain ⟨i, hi, hg, w⟩ := c
  refine ⟨i, hi, h i hi hg, ?_⟩
  exact Led.keep (P := fun v => Led L f (at3 L i).2.1 v) w .here (fun j hj hp k => Led.step hj (h j hj hp) k)

theorem sum_neg {h : Nat → Int} : ∀ m, (∀ i, i < m → h i ≤ 0) → (∃ i, i < m ∧ h i < 0) → sumN h m < 0
  | 0, _, ⟨i, hi, _⟩ => by omega
  | m + 1, k, ⟨i, hi, hn⟩ => by
    have h0 : sumN h m ≤ 0 := by
      have := sumN_leK (g := h) (h := fun _ => 0) m (fun v hv => k v (by omega))
      rw [sumN_zero] at this
      exact this
    have h1 := k m (by omega)
    rw [sumN]
    by_cases e : i = m
    · subst e; omega
    · have := sum_neg m (fun i hi => k i (by omega)) ⟨i, by omega, hn⟩
      omega

/-- Nowhere above, with the same gains, and no cycle in it: the same. -/
theorem same_gains {V : Nat} {L : List Lk} {f b : List Int} (hm : mayG (V : Nat) L = true) (hb : ∀ i, i < L.length → 0 ≤ b[i]?.getD 0 ∧ b[i]?.getD 0 ≤ f[i]?.getD 0) (hg : ∀ v, v < V → gainOf L b (v : Int) = gainOf L f (v : Int)) (hc : ¬ CycP L f) : ∀ i, i < L.length → b[i]?.getD 0 = f[i]?.getD 0 := by
  intro i hi
  apply Classical.byContradiction
  intro hne
  have hbi := hb i hi
  have hfi : 0 < f[i]?.getD 0 := by omega
  classical
  let g : Nat → Int := fun v => if Led L f (at3 L i).2.1 (v : Int) then 1 else 0
  have e1 := sum_gains g f hm L.length (Nat.le_refl _)
  have e2 := sum_gains g b hm L.length (Nat.le_refl _)
  have e3 : sumN (fun v => g v * gk L b (v : Int) L.length) V = sumN (fun v => g v * gk L f (v : Int) L.length) V :=
    sumN_congr V fun v hv => by
      have := hg v hv
      unfold gainOf at this
      rw [this]
  rw [e1, e2] at e3
  have e4 := sumN_sub (fun i => f[i]?.getD 0 * (g (at3 L i).1.toNat - g (at3 L i).2.1.toNat)) (fun i => b[i]?.getD 0 * (g (at3 L i).1.toNat - g (at3 L i).2.1.toNat)) L.length
  rw [e3, Int.sub_self] at e4
  have neg : sumN (fun i => f[i]?.getD 0 * (g (at3 L i).1.toNat - g (at3 L i).2.1.toNat) - b[i]?.getD 0 * (g (at3 L i).1.toNat - g (at3 L i).2.1.toNat)) L.length < 0 := by
    have ends : ∀ j, j < L.length → (((at3 L j).1.toNat : Nat) : Int) = (at3 L j).1 ∧ (((at3 L j).2.1.toNat : Nat) : Int) = (at3 L j).2.1 := fun j hj => by
      have := may_joins hm hj
      constructor <;> omega
    refine sum_neg _ (fun j hj => ?_) ⟨i, hi, ?_⟩
    · have hbj := hb j hj
      show f[j]?.getD 0 * (g (at3 L j).1.toNat - g (at3 L j).2.1.toNat) - b[j]?.getD 0 * (g (at3 L j).1.toNat - g (at3 L j).2.1.toNat) ≤ 0
      rw [← Int.sub_mul]
      obtain ⟨d, hd⟩ : ∃ d, f[j]?.getD 0 - b[j]?.getD 0 = d := ⟨_, rfl⟩
      rw [hd]
      by_cases d0 : d = 0
      · rw [d0, Int.zero_mul]; exact Int.le_refl _
      · have hfj : 0 < f[j]?.getD 0 := by omega
        have d1 : 0 ≤ d := by omega
        have hle : g (at3 L j).1.toNat - g (at3 L j).2.1.toNat ≤ 0 := by
          show (if Led L f (at3 L i).2.1 (((at3 L j).1.toNat : Nat) : Int) then (1 : Int) else 0) - (if Led L f (at3 L i).2.1 (((at3 L j).2.1.toNat : Nat) : Int) then 1 else 0) ≤ 0
          rw [(ends j hj).1, (ends j hj).2]
          by_cases q : Led L f (at3 L i).2.1 (at3 L j).1
          · rw [if_pos q, if_pos (Led.step hj hfj q)]; decide
          · rw [if_neg q]; split <;> decide
        exact Int.mul_nonpos_of_nonneg_of_nonpos d1 hle
    · show f[i]?.getD 0 * (g (at3 L i).1.toNat - g (at3 L i).2.1.toNat) - b[i]?.getD 0 * (g (at3 L i).1.toNat - g (at3 L i).2.1.toNat) < 0
      have q1 : g (at3 L i).1.toNat = 0 := by
        show (if Led L f (at3 L i).2.1 (((at3 L i).1.toNat : Nat) : Int) then (1 : Int) else 0) = 0
        rw [(ends i hi).1, if_neg fun q => hc ⟨i, hi, hfi, q⟩]
      have q2 : g (at3 L i).2.1.toNat = 1 := by
        show (if Led L f (at3 L i).2.1 (((at3 L i).2.1.toNat : Nat) : Int) then (1 : Int) else 0) = 1
        rw [(ends i hi).2, if_pos .here]
      rw [q1, q2]
      omega
  omega

theorem same_list {f b : List Int} {n : Nat} (h1 : f.length = n) (h2 : b.length = n) (h : ∀ i, i < n → b[i]?.getD 0 = f[i]?.getD 0) : b = f := by
  apply List.ext_getElem (by omega)
  intro i hi hj
  have := h i (by omega)
  rw [List.getElem?_eq_getElem hi, List.getElem?_eq_getElem hj] at this
  exact this

/-- A list below a flow, with its gains, is a flow. -/
theorem flow_below {V : Nat} {L : List Lk} {caps f b : List Int} {s t : Int} (h : flowB (V : Nat) L caps f s t = true) (hl : b.length = L.length) (hb : ∀ i, i < L.length → 0 ≤ b[i]?.getD 0 ∧ b[i]?.getD 0 ≤ f[i]?.getD 0) (hg : ∀ v, v < V → gainOf L b (v : Int) = gainOf L f (v : Int)) : flowB (V : Nat) L caps b s t = true ∧ gainOf L b s = gainOf L f s := by
  obtain ⟨h1, h2, h3, h4, h5, h6⟩ := flow_parts h
  obtain ⟨f1, f2, f3, f4⟩ := fits_parts h1
  have hc := (capsB_parts f2).1
  have hgs : gainOf L b s = gainOf L f s := by
    have := hg s.toNat (by have := h2.1; have := h2.2; omega)
    rw [show ((s.toNat : Nat) : Int) = s by have := h2.1; omega] at this
    exact this
  have hr : ratesB caps b = true := ratesB_mk (by omega) fun i hi => by
    have := hb i (by omega)
    have := rates_at f3 hi
    unfold capI
    omega
  refine ⟨?_, hgs⟩
  simp only [flowB, fitsF, f1, f2, hr, hgs, Bool.and_eq_true, Bool.not_eq_true', beq_eq_false_iff_ne, decide_eq_true_eq, isV, List.all_eq_true, List.mem_range, Int.toNat_natCast]
  refine ⟨⟨⟨⟨⟨⟨trivial, trivial⟩, trivial⟩, ⟨h2.1, h2.2⟩, h3.1, h3.2⟩, h4⟩, h5⟩, fun v hv => ?_⟩
  simp only [restB, Bool.or_eq_true, beq_iff_eq]
  by_cases e1 : (v : Int) = s
  · exact .inl (.inl e1)
  · by_cases e2 : (v : Int) = t
    · exact .inl (.inr e2)
    · right
      rw [hg v hv, h6 v hv e1 e2]

/-- All links turned: ways go back. -/
theorem led_turn {L : List Lk} {f : List Int} {u v : Int} (w : Led L f u v) : Led (turnK L L.length) f v u := by
  have key : ∀ i, i < L.length → (at3 (turnK L L.length) i).1 = (at3 L i).2.1 ∧ (at3 (turnK L L.length) i).2.1 = (at3 L i).1 := fun i hi => by
    rw [turn_at L _ i hi, if_pos hi]
    exact ⟨rfl, rfl⟩
  refine Led.keep (P := fun x => Led (turnK L L.length) f x u) w .here fun i hi hp k => ?_
  have h := Led.first (L := turnK L L.length) (f := f) (v := u) (i := i) (by rw [turn_len]; exact hi) hp
  rw [(key i hi).1, (key i hi).2] at h
  exact h k

theorem cyc_turn {L : List Lk} {f : List Int} (c : CycP L f) : CycP (turnK L L.length) f := by
  obtain ⟨i, hi, hp, w⟩ := c
  refine ⟨i, by rw [turn_len]; exact hi, hp, ?_⟩
  rw [turn_at L _ i hi, if_pos hi]
  exact led_turn w

/-- What Find may tell. -/
def FindIs (V : Int) (L : List Lk) (f ls : List Int) (is : Bool) (z : Int) : Prop :=
  ((mayG V L && capsB L f) = true ∧ z = 0 ∧ ((is = true ∧ TurnsIs L f ls) ∨ (is = false ∧ ls = [] ∧ ¬ CycP L f))) ∨ ((mayG V L && capsB L f) = false ∧ z = 1400 ∧ is = false ∧ ls = [])

/-- What Cancel may tell. -/
def CancelIs (V : Int) (L : List Lk) (f b : List Int) (z : Int) : Prop :=
  ((mayG V L && capsB L f) = true ∧ z = 0 ∧ b.length = L.length ∧ (∀ i, i < L.length → 0 ≤ b[i]?.getD 0 ∧ b[i]?.getD 0 ≤ f[i]?.getD 0) ∧ (∀ v : Nat, (v : Int) < V → gainOf L b (v : Int) = gainOf L f (v : Int)) ∧ ¬ CycP L b) ∨ ((mayG V L && capsB L f) = false ∧ z = 1400 ∧ b = [])

end Go.Proofs.Ytlpohlcmjnlbhaa

set_option maxRecDepth 20000
namespace Go.Proofs.Ytlpohlcmjnlbhaa

/-- The arc that goes the other way over the same link. -/
def flipN (a : Nat) : Nat := if a % 2 = 0 then a + 1 else a - 1

theorem flip_even (i : Nat) : flipN (2 * i) = 2 * i + 1 := by unfold flipN; rw [if_pos (by omega)]
theorem flip_odd (i : Nat) : flipN (2 * i + 1) = 2 * i := by unfold flipN; rw [if_neg (by omega)]; rfl
theorem flip_cases (a : Nat) : ∃ i, a / 2 = i ∧ ((a = 2 * i ∧ flipN a = 2 * i + 1) ∨ (a = 2 * i + 1 ∧ flipN a = 2 * i)) := by
  refine ⟨a / 2, rfl, ?_⟩
  rcases Nat.mod_two_eq_zero_or_one a with e | e
  · have h : a = 2 * (a / 2) := by omega
    exact .inl ⟨h, by conv => lhs; rw [h]
                      exact flip_even _⟩
  · have h : a = 2 * (a / 2) + 1 := by omega
    exact .inr ⟨h, by conv => lhs; rw [h]
                      exact flip_odd _⟩
theorem flip_lt {a n : Nat} (h : a < 2 * n) : flipN a < 2 * n := by
  obtain ⟨i, _, ⟨h1, h2⟩ | ⟨h1, h2⟩⟩ := flip_cases a <;> omega
theorem flip_ne (a : Nat) : flipN a ≠ a := by
  obtain ⟨i, _, ⟨h1, h2⟩ | ⟨h1, h2⟩⟩ := flip_cases a <;> omega
theorem flip_flip (a : Nat) : flipN (flipN a) = a := by
  obtain ⟨i, _, ⟨h1, h2⟩ | ⟨h1, h2⟩⟩ := flip_cases a
  · rw [h2, flip_odd, h1]
  · rw [h2, flip_even, h1]
theorem flip_half (a : Nat) : flipN a / 2 = a / 2 := by
  obtain ⟨i, _, ⟨h1, h2⟩ | ⟨h1, h2⟩⟩ := flip_cases a <;> omega
theorem flip_tail (ls : List Lk) (a : Nat) : tailOf ls (flipN a) = headOf ls a := by
  obtain ⟨i, _, ⟨h1, h2⟩ | ⟨h1, h2⟩⟩ := flip_cases a
  · rw [h2, h1, tail_odd, head_even]
  · rw [h2, h1, tail_even, head_odd]
theorem flip_head (ls : List Lk) (a : Nat) : headOf ls (flipN a) = tailOf ls a := by
  obtain ⟨i, _, ⟨h1, h2⟩ | ⟨h1, h2⟩⟩ := flip_cases a
  · rw [h2, h1, tail_even, head_odd]
  · rw [h2, h1, tail_odd, head_even]

def rAt (R : List Int) (a : Nat) : Int := R[a]?.getD 0
def oAt (O : List (List Int)) (u : Int) : List Int := O[u.toNat]?.getD []

structure Net where
  V : Nat
  n : Nat
  ls : List Lk
  caps : List Int
  f : List Int
  M : List Int
  s : Int
  t : Int

structure Net.Ok (N : Net) : Prop where
  hl : N.ls.length = N.n
  flow : flowB (N.V : Nat) N.ls N.caps N.f N.s N.t = true
  lv : IsLv N.V (Leads N.ls N.caps N.f (2 * N.n)) N.s N.M

def Net.stp (N : Net) (a : Nat) : Prop := StepsA N.ls N.caps N.f N.M a
def Net.lev (N : Net) (v : Int) : Int := lvAt N.M v
def Net.tl (N : Net) (a : Nat) : Int := tailOf N.ls a
def Net.hd (N : Net) (a : Nat) : Int := headOf N.ls a

theorem Net.Ok.may {N : Net} (k : N.Ok) : mayG (N.V : Nat) N.ls = true := (fits_parts (flow_parts k.flow).1).1
theorem Net.Ok.tl_in {N : Net} (k : N.Ok) {a : Nat} (h : a < 2 * N.n) : inV N.V (N.tl a) := tail_bd k.may (by rw [k.hl]; exact h)
theorem Net.Ok.hd_in {N : Net} (k : N.Ok) {a : Nat} (h : a < 2 * N.n) : inV N.V (N.hd a) := head_bd k.may (by rw [k.hl]; exact h)
theorem Net.stp_lev {N : Net} {a : Nat} (h : N.stp a) : 0 ≤ N.lev (N.tl a) ∧ N.lev (N.hd a) = N.lev (N.tl a) + 1 := h.2
theorem Net.stp_flip {N : Net} {a : Nat} (h : N.stp a) : ¬ N.stp (flipN a) := by
  intro k
  have h1 := N.stp_lev h
  have h2 := N.stp_lev k
  unfold Net.tl Net.hd at h1 h2
  rw [flip_tail, flip_head] at h2
  omega

/-- There is a way on to t over arcs that p lets by. -/
inductive WTo (ls : List Lk) (p : Nat → Prop) (m : Nat) (t : Int) : Int → Prop
  | here : WTo ls p m t t
  | on (a : Nat) : a < m → p a → WTo ls p m t (headOf ls a) → WTo ls p m t (tailOf ls a)

theorem WTo.mono {ls : List Lk} {p q : Nat → Prop} {m : Nat} {t v : Int} (w : WTo ls p m t v) (h : ∀ a, a < m → p a → q a) : WTo ls q m t v := by
  induction w with
  | here => exact .here
  | on a ha hp _ ih => exact .on a ha (h a ha hp) ih

theorem way_to {ls : List Lk} {p : Nat → Prop} {m : Nat} {s t v : Int} (w : Way ls p m s v) (k : WTo ls p m t v) : WTo ls p m t s := by
  induction w with
  | here => exact k
  | on a ha hp _ ih => exact ih (.on a ha hp k)

/-- From x one can go on to t. -/
def To (N : Net) (R : List Int) (x : Int) : Prop := WTo N.ls (fun a => N.stp a ∧ 0 < rAt R a) (2 * N.n) N.t x

theorem To.less {N : Net} {R R' : List Int} {x : Int} (h : To N R' x) (k : ∀ a, a < 2 * N.n → N.stp a → rAt R' a ≤ rAt R a) : To N R x :=
  WTo.mono h fun a ha hp => ⟨hp.1, by have := k a ha hp.1; have := hp.2; omega⟩

def bOf (R : List Int) (n : Nat) : List Int := (List.range n).map fun i => rAt R (2 * i + 1)

theorem bOf_len (R : List Int) (n : Nat) : (bOf R n).length = n := by simp [bOf]
theorem bOf_at {R : List Int} {n i : Nat} (h : i < n) : (bOf R n)[i]?.getD 0 = rAt R (2 * i + 1) := by simp [bOf, h]
theorem bOf_out {R : List Int} {n i : Nat} (h : n ≤ i) : (bOf R n)[i]?.getD 0 = 0 := by
  rw [List.getElem?_eq_none (by rw [bOf_len]; exact h)]
  rfl

def gR (N : Net) (R : List Int) (x : Int) : Int := gainOf N.ls (bOf R N.n) x

theorem gk_put {L : List Lk} {f f' : List Int} {v d : Int} {i : Nat} (h : ∀ j : Nat, f'[j]?.getD 0 = f[j]?.getD 0 + if j = i then d else 0) :
    ∀ k, gk L f' v k = gk L f v k + if i < k then (if (at3 L i).1 = v then d else 0) - (if (at3 L i).2.1 = v then d else 0) else 0
  | 0 => by simp [gk]
  | k + 1 => by
    rw [gk, gk, gk_put h k, outP, inP, outP, inP, h k]
    by_cases e : k = i
    · subst e
      rw [if_neg (Nat.lt_irrefl _), if_pos (Nat.lt_succ_self _)]
      split <;> split <;> simp <;> omega
    · rw [if_neg e, Int.add_zero]
      by_cases g : i < k
      · rw [if_pos g, if_pos (show i < k + 1 by omega)]; omega
      · rw [if_neg g, if_neg (show ¬ i < k + 1 by omega)]; omega

/-- What holds of rooms and open arcs at any time. -/
structure PI (N : Net) (R : List Int) (O : List (List Int)) : Prop where
  lenR : R.length = 2 * N.n
  lenO : O.length = N.V
  low : ∀ a, a < 2 * N.n → 0 ≤ rAt R a
  pair : ∀ a, a < 2 * N.n → rAt R a + rAt R (flipN a) = N.caps[a / 2]?.getD 0
  mem : ∀ u, inV N.V u → ∀ x ∈ oAt O u, ∃ a : Nat, x = (a : Int) ∧ a < 2 * N.n ∧ N.tl a = u ∧ N.stp a
  shut : ∀ a, a < 2 * N.n → N.stp a → (a : Int) ∉ oAt O (N.tl a) → rAt R a = 0 ∨ ¬ To N R (N.hd a)
  over : ∀ a, a < 2 * N.n → N.stp a → rAt R a ≤ roomI N.caps N.f (a : Int)
  same : ∀ a, a < 2 * N.n → ¬ N.stp a → ¬ N.stp (flipN a) → rAt R a = roomI N.caps N.f (a : Int)

/-- What is done so far, from v on. -/
structure PL (N : Net) (v most : Int) (R : List Int) (O : List (List Int)) (k : Int) (R' : List Int) (O' : List (List Int)) : Prop where
  inv : PI N R' O'
  low : 0 ≤ k
  high : k ≤ most
  gain : ∀ x, gR N R' x = gR N R x + (if x = v then k else 0) - (if x = N.t then k else 0)
  down : ∀ a, a < 2 * N.n → N.stp a → rAt R' a ≤ rAt R a
  keepR : ∀ a, a < 2 * N.n → N.stp a → N.lev (N.tl a) < N.lev v → rAt R' a = rAt R a
  keepO : ∀ u, inV N.V u → N.lev u < N.lev v → oAt O' u = oAt O u

theorem pl_start {N : Net} {v most : Int} {R : List Int} {O : List (List Int)} (h : PI N R O) (hm : 0 ≤ most) : PL N v most R O 0 R O :=
  ⟨h, Int.le_refl _, hm, fun x => by simp, fun _ _ _ => Int.le_refl _, fun _ _ _ _ => rfl, fun _ _ _ => rfl⟩

theorem pl_here {N : Net} {v most : Int} {R : List Int} {O : List (List Int)} (h : PI N R O) (hm : 0 ≤ most) (hv : v = N.t) : PL N v most R O most R O :=
  ⟨h, hm, Int.le_refl _, fun x => by subst hv; omega, fun _ _ _ => Int.le_refl _, fun _ _ _ _ => rfl, fun _ _ _ => rfl⟩

/-- Some goes over an arc. -/
def overA (R : List Int) (a : Nat) (k : Int) : List Int := (R.set a (rAt R a - k)).set (flipN a) (rAt R (flipN a) + k)

theorem over_at {R : List Int} {a n : Nat} (hl : R.length = 2 * n) (ha : a < 2 * n) (k : Int) (b : Nat) : rAt (overA R a k) b = if b = flipN a then rAt R (flipN a) + k else if b = a then rAt R a - k else rAt R b := by
  have hf := flip_lt ha
  unfold overA rAt
  rw [put_get (by rw [List.length_set]; omega), put_get (by omega)]

theorem over_pi {N : Net} (ok : N.Ok) {R : List Int} {O : List (List Int)} {a : Nat} {k : Int} (h : PI N R O) (ha : a < 2 * N.n) (hs : N.stp a) (k0 : 0 ≤ k) (k1 : k ≤ rAt R a) :
    PI N (overA R a k) O ∧ (∀ b, b < 2 * N.n → N.stp b → rAt (overA R a k) b ≤ rAt R b) ∧ (∀ x, gR N (overA R a k) x = gR N R x + (if x = N.tl a then k else 0) - (if x = N.hd a then k else 0)) ∧ rAt (overA R a k) a = rAt R a - k := by
  have hat := over_at h.lenR ha k
  have hf := flip_lt ha
  have hne := flip_ne a
  have hns := N.stp_flip hs
  have hsa : rAt (overA R a k) a = rAt R a - k := by rw [hat, if_neg (fun e => hne e.symm), if_pos rfl]
  have hsf : rAt (overA R a k) (flipN a) = rAt R (flipN a) + k := by rw [hat, if_pos rfl]
  have hso : ∀ b, b ≠ a → b ≠ flipN a → rAt (overA R a k) b = rAt R b := fun b h1 h2 => by rw [hat, if_neg h2, if_neg h1]
  have hdn : ∀ b, b < 2 * N.n → N.stp b → rAt (overA R a k) b ≤ rAt R b := by
    intro b _ hb
    by_cases e1 : b = a
    · subst e1; omega
    · by_cases e2 : b = flipN a
      · subst e2; exact absurd hb hns
      · rw [hso b e1 e2]; exact Int.le_refl _
  refine ⟨⟨by simp [overA, h.lenR], h.lenO, fun b hb => ?_, fun b hb => ?_, h.mem, fun b hb hp hn => ?_, fun b hb hp => ?_, fun b hb hp hq => ?_⟩, hdn, fun x => ?_, hsa⟩
  · have h0 := h.low b hb
    by_cases e1 : b = a
    · subst e1; omega
    · by_cases e2 : b = flipN a
      · subst e2; omega
      · rw [hso b e1 e2]; exact h0
  · have h0 := h.pair b hb
    by_cases e1 : b = a
    · subst e1; rw [hsa, hsf]; omega
    · by_cases e2 : b = flipN a
      · subst e2
        rw [flip_flip] at h0 ⊢
        rw [hsa, hsf]; omega
      · rw [hso b e1 e2, hso (flipN b) (fun e => e2 (by rw [← e, flip_flip])) (fun e => e1 (by rw [← flip_flip b, e, flip_flip]))]
        exact h0
  · have h0 := h.low b hb
    have d := hdn b hb hp
    rcases h.shut b hb hp hn with e | e
    · left
      by_cases e1 : b = a
      · subst e1; omega
      · rw [hso b e1 (fun e2 => hns (e2 ▸ hp))]; exact e
    · exact .inr fun q => e (q.less hdn)
  · have := h.over b hb hp
    have := hdn b hb hp
    omega
  · rw [hso b (fun e => hp (e ▸ hs)) (fun e => hq (by rw [e, flip_flip]; exact hs))]
    exact h.same b hb hp hq
  · obtain ⟨i, _, ⟨h1, h2⟩ | ⟨h1, h2⟩⟩ := flip_cases a
    · have hi : i < N.n := by omega
      have e := gk_put (L := N.ls) (f := bOf R N.n) (f' := bOf (overA R a k) N.n) (v := x) (d := k) (i := i) (fun j => by
        by_cases hj : j < N.n
        · rw [bOf_at hj, bOf_at hj]
          by_cases e : j = i
          · subst e; rw [if_pos rfl, ← h2, hsf]
          · rw [if_neg e, hso _ (by omega) (by omega), Int.add_zero]
        · rw [bOf_out (by omega), bOf_out (by omega), if_neg (by omega)]; rfl) N.ls.length
      rw [if_pos (by rw [ok.hl]; exact hi)] at e
      unfold gR gainOf Net.tl Net.hd
      rw [e, h1, tail_even, head_even]
      simp only [eq_comm (a := x)]
      omega
    · have hi : i < N.n := by omega
      have e := gk_put (L := N.ls) (f := bOf R N.n) (f' := bOf (overA R a k) N.n) (v := x) (d := -k) (i := i) (fun j => by
        by_cases hj : j < N.n
        · rw [bOf_at hj, bOf_at hj]
          by_cases e : j = i
          · subst e; rw [if_pos rfl, ← h1, hsa]; omega
          · rw [if_neg e, hso _ (by omega) (by omega), Int.add_zero]
        · rw [bOf_out (by omega), bOf_out (by omega), if_neg (by omega)]; rfl) N.ls.length
      rw [if_pos (by rw [ok.hl]; exact hi)] at e
      unfold gR gainOf Net.tl Net.hd
      rw [e, h1, tail_odd, head_odd]
      simp only [eq_comm (a := x)]
      split <;> split <;> omega

theorem oset {O : List (List Int)} {v u : Int} (hv : inV O.length v) (hu : 0 ≤ u) (r : List Int) : oAt (O.set v.toNat r) u = if u = v then r else oAt O u := by
  obtain ⟨h0, h1⟩ := hv
  unfold oAt
  by_cases e : u = v
  · subst e
    rw [if_pos rfl, List.getElem?_set_self (by omega)]
    rfl
  · rw [if_neg e, List.getElem?_set_ne (by omega)]

/-- The first open arc is dropped: it is full, or leads nowhere. -/
theorem drop_pi {N : Net} (ok : N.Ok) {R : List Int} {O : List (List Int)} {a : Nat} {rest : List Int} (h : PI N R O) (ha : a < 2 * N.n) (ho : oAt O (N.tl a) = (a : Int) :: rest) (hd : rAt R a = 0 ∨ ¬ To N R (N.hd a)) :
    PI N R (O.set (N.tl a).toNat rest) := by
  have hin := ok.tl_in ha
  have hin' : inV O.length (N.tl a) := by rw [h.lenO]; exact hin
  refine ⟨h.lenR, by simp [h.lenO], h.low, h.pair, fun u hu x hx => ?_, fun b hb hp hn => ?_, h.over, h.same⟩
  · rw [oset hin' hu.1] at hx
    by_cases e : u = N.tl a
    · rw [if_pos e] at hx
      subst e
      exact h.mem _ hu x (by rw [ho]; exact List.mem_cons_of_mem _ hx)
    · rw [if_neg e] at hx
      exact h.mem u hu x hx
  · rw [oset hin' (ok.tl_in hb).1] at hn
    by_cases e : N.tl b = N.tl a
    · rw [if_pos e] at hn
      by_cases e2 : b = a
      · subst e2; exact hd
      · refine h.shut b hb hp ?_
        rw [e, ho]
        intro hm
        rcases List.mem_cons.1 hm with q | q
        · exact e2 (by omega)
        · exact hn q
    · rw [if_neg e] at hn
      exact h.shut b hb hp hn

/-- One round from v on: some goes over the first open arc. -/
theorem pl_step {N : Net} (ok : N.Ok) {v most m k k' : Int} {R0 R R1 : List Int} {O0 O O1 : List (List Int)} {a : Nat} {rest : List Int} (p : PL N v most R0 O0 k R O) (hv : inV N.V v)
    (ha : a < 2 * N.n) (ht : N.tl a = v) (hs : N.stp a) (ho : oAt O v = (a : Int) :: rest) (m0 : m ≤ most - k) (m1 : m ≤ rAt R a) (m2 : m = most - k ∨ m = rAt R a)
    (q : PL N (N.hd a) m R O k' R1 O1) (qe : k' = m ∨ ¬ To N R1 (N.hd a)) :
    oAt O1 v = (a : Int) :: rest ∧ 0 ≤ k' ∧ k' ≤ rAt R1 a ∧ PL N v most R0 O0 (k + k') (overA R1 a k') O1 ∧ (k + k' < most → PL N v most R0 O0 (k + k') (overA R1 a k') (O1.set v.toNat rest)) := by
  subst ht
  have hlv := N.stp_lev hs
  have e1 := q.keepR a ha hs (by omega)
  have e2 := q.keepO (N.tl a) hv (by omega)
  rw [ho] at e2
  have hk := q.high
  obtain ⟨g1, g2, g3, g4⟩ := over_pi ok q.inv ha hs q.low (by omega)
  have hq0 := q.low
  have hp0 := p.low
  have base : ∀ O', PI N (overA R1 a k') O' → (∀ u, inV N.V u → N.lev u < N.lev (N.tl a) → oAt O' u = oAt O1 u) → PL N (N.tl a) most R0 O0 (k + k') (overA R1 a k') O' := by
    intro O' hi hk'
    refine ⟨hi, by omega, by omega, fun x => ?_, fun b hb hp => ?_, fun b hb hp hlt => ?_, fun u hu hlt => ?_⟩
    · have x1 := p.gain x
      have x2 := q.gain x
      have x3 := g3 x
      rw [x3, x2, x1]
      split <;> split <;> split <;> omega
    · have x1 := p.down b hb hp
      have x2 := q.down b hb hp
      have x3 := g2 b hb hp
      omega
    · have x1 := p.keepR b hb hp hlt
      have x2 := q.keepR b hb hp (by omega)
      have hba : b ≠ a := fun e => by subst e; omega
      have hbf : b ≠ flipN a := fun e => (N.stp_flip hs) (e ▸ hp)
      rw [over_at q.inv.lenR ha, if_neg hbf, if_neg hba, x2, x1]
    · rw [hk' u hu hlt, q.keepO u hu (by omega), p.keepO u hu hlt]
  refine ⟨e2, hq0, by omega, base O1 g1 (fun _ _ _ => rfl), fun hlt => ?_⟩
  refine base _ (drop_pi ok g1 ha e2 ?_) (fun u hu hl => ?_)
  · rcases qe with e | e
    · rcases m2 with f | f
      · omega
      · left; rw [g4]; omega
    · exact .inr fun z => e (z.less g2)
  · rw [oset (by rw [q.inv.lenO]; exact hv) hu.1, if_neg (fun e => by subst e; omega)]

/-- No open arc is left: nothing goes on. -/
theorem pl_end {N : Net} {v : Int} {R : List Int} {O : List (List Int)} (h : PI N R O) (ho : oAt O v = []) (hv : v ≠ N.t) : ¬ To N R v := by
  intro w
  unfold To at w
  cases w with
  | here => exact hv rfl
  | on a ha hp w =>
    rcases h.shut a ha hp.1 (by unfold Net.tl; rw [ho]; simp) with e | e
    · have := hp.2; omega
    · exact e w

theorem room_of {N : Net} {R : List Int} {O : List (List Int)} (h : PI N R O) {a : Nat} (ha : a < 2 * N.n) : roomI N.caps (bOf R N.n) (a : Int) = rAt R a := by
  have hp := h.pair a ha
  obtain ⟨i, hi, ⟨h1, h2⟩ | ⟨h1, h2⟩⟩ := flip_cases a
  · rw [h2, hi] at hp
    rw [h1, roomE2, bOf_at (by omega)]
    rw [h1] at hp
    omega
  · rw [h1, roomO2, bOf_at (by omega)]

/-- What is pushed from the source on is a blocking flow. -/
theorem blk_of {N : Net} (ok : N.Ok) {most k : Int} {R0 R : List Int} {O0 O : List (List Int)} (hb : bOf R0 N.n = N.f) (p : PL N N.s most R0 O0 k R O) (e : k = most ∨ ¬ To N R N.s) :
    BlkIs N.V N.ls N.caps N.f N.s N.t most (bOf R N.n) k N.M := by
  obtain ⟨h1, h2, h3, h4, h5, h6⟩ := flow_parts ok.flow
  obtain ⟨f1, f2, f3, f4⟩ := fits_parts h1
  have hcl : N.caps.length = N.n := by rw [(capsB_parts f2).1, ok.hl]
  have hr : ratesB N.caps (bOf R N.n) = true := ratesB_mk (by rw [bOf_len, hcl]) fun i hi => by
    rw [hcl] at hi
    unfold capI
    rw [bOf_at hi]
    have a1 := p.inv.low (2 * i) (by omega)
    have a2 := p.inv.low (2 * i + 1) (by omega)
    have a3 := p.inv.pair (2 * i) (by omega)
    rw [flip_even, Nat.mul_div_cancel_left _ (by omega)] at a3
    omega
  have hg : ∀ x, gainOf N.ls (bOf R N.n) x = gainOf N.ls N.f x + (if x = N.s then k else 0) - (if x = N.t then k else 0) := by
    intro x
    have := p.gain x
    unfold gR at this
    rw [hb] at this
    exact this
  have hgs : gainOf N.ls (bOf R N.n) N.s = gainOf N.ls N.f N.s + k := by
    rw [hg, if_pos rfl, if_neg h4]; omega
  have hlow := p.low
  refine ⟨?_, hgs, p.low, p.high, ⟨fun i hi hlt => ?_, fun i hi hlt => ?_⟩, ?_⟩
  · simp only [flowB, fitsF, f1, f2, hr, Bool.and_eq_true, Bool.not_eq_true', beq_eq_false_iff_ne, decide_eq_true_eq, isV, List.all_eq_true, List.mem_range, Int.toNat_natCast]
    refine ⟨⟨⟨⟨⟨⟨trivial, trivial⟩, trivial⟩, ⟨h2.1, h2.2⟩, h3.1, h3.2⟩, h4⟩, by rw [hgs]; omega⟩, fun v hv => ?_⟩
    simp only [restB, Bool.or_eq_true, beq_iff_eq]
    by_cases e1 : (v : Int) = N.s
    · exact .inl (.inl e1)
    · by_cases e2 : (v : Int) = N.t
      · exact .inl (.inr e2)
      · right
        rw [hg, if_neg e1, if_neg e2, h6 v hv e1 e2]
        rfl
  · rw [ok.hl] at hi
    rw [bOf_at hi] at hlt
    have a0 : 2 * i + 1 < 2 * N.n := by omega
    by_cases s1 : N.stp (2 * i)
    · exact s1
    · by_cases s2 : N.stp (2 * i + 1)
      · have := p.inv.over _ a0 s2
        rw [roomO2] at this
        omega
      · have := p.inv.same _ a0 s2 (by rw [flip_odd]; exact s1)
        rw [roomO2] at this
        omega
  · rw [ok.hl] at hi
    rw [bOf_at hi] at hlt
    have a0 : 2 * i + 1 < 2 * N.n := by omega
    by_cases s1 : N.stp (2 * i + 1)
    · exact s1
    · by_cases s2 : N.stp (2 * i)
      · have x1 := p.inv.over _ (by omega) s2
        have x2 := p.inv.pair (2 * i) (by omega)
        rw [roomE2] at x1
        rw [flip_even, Nat.mul_div_cancel_left _ (by omega)] at x2
        omega
      · have := p.inv.same _ a0 s1 (by rw [flip_odd]; exact s2)
        rw [roomO2] at this
        omega
  · rcases e with e | e
    · exact .inl e
    · refine .inr fun w => e ?_
      rw [ok.hl] at w
      refine WTo.mono (way_to w .here) fun a ha hp => ⟨hp.1, ?_⟩
      rw [← room_of p.inv ha]
      exact hp.2

/-- The rooms of the first m arcs. -/
def roomsA (caps f : List Int) (m : Nat) : List Int := (List.range m).map fun a : Nat => roomI caps f (a : Int)
instance stepDec (ls : List Lk) (caps f M : List Int) (a : Nat) : Decidable (StepsA ls caps f M a) := by unfold StepsA; infer_instance
/-- Of the first m arcs those that step from u. -/
def opnA (N : Net) (m : Nat) (u : Int) : List Int := ((List.range m).filter fun a => decide (N.tl a = u ∧ StepsA N.ls N.caps N.f N.M a)).map fun a : Nat => (a : Int)
def opnsA (N : Net) (m : Nat) : List (List Int) := (List.range N.V).map fun u : Nat => opnA N m (u : Int)

theorem rooms_next (caps f : List Int) (m : Nat) : roomsA caps f (m + 1) = roomsA caps f m ++ [roomI caps f (m : Int)] := by simp [roomsA, List.range_succ]
theorem rooms_len (caps f : List Int) (m : Nat) : (roomsA caps f m).length = m := by simp [roomsA]
theorem rooms_at {caps f : List Int} {m a : Nat} (h : a < m) : rAt (roomsA caps f m) a = roomI caps f (a : Int) := by simp [rAt, roomsA, h]
theorem opn_yes {N : Net} {m : Nat} (h : N.stp m) : opnA N (m + 1) (N.tl m) = opnA N m (N.tl m) ++ [(m : Int)] := by
  unfold Net.stp at h
  simp [opnA, List.range_succ, h]
theorem opn_no {N : Net} {m : Nat} {u : Int} (h : ¬ (N.tl m = u ∧ N.stp m)) : opnA N (m + 1) u = opnA N m u := by
  unfold Net.stp at h
  rw [opnA, List.range_succ, List.filter_append]
  simp [h, opnA]
theorem opns_len (N : Net) (m : Nat) : (opnsA N m).length = N.V := by simp [opnsA]
theorem opns_at {N : Net} {m u : Nat} (h : u < N.V) : (opnsA N m)[u]?.getD [] = opnA N m (u : Int) := by simp [opnsA, h]
theorem opns_no {N : Net} {m : Nat} (h : ¬ N.stp m) : opnsA N (m + 1) = opnsA N m := by
  unfold opnsA
  refine List.map_congr_left fun u _ => opn_no fun k => h k.2
theorem opns_yes {N : Net} {m : Nat} (ht : inV N.V (N.tl m)) (h : N.stp m) : opnsA N (m + 1) = (opnsA N m).set (N.tl m).toNat (opnA N m (N.tl m) ++ [(m : Int)]) := by
  obtain ⟨h0, h1⟩ := ht
  refine List.ext_getElem (by simp [opnsA]) fun i i1 i2 => ?_
  have hi : i < N.V := by simpa [opnsA] using i1
  rw [List.getElem_set]
  by_cases e : (N.tl m).toNat = i
  · rw [if_pos e]
    have e2 : (i : Int) = N.tl m := by omega
    simp only [opnsA, List.getElem_map, List.getElem_range]
    rw [e2]
    exact opn_yes h
  · rw [if_neg e]
    simp only [opnsA, List.getElem_map, List.getElem_range]
    exact opn_no fun k => e (by omega)
theorem opn_mem {N : Net} {m : Nat} {u x : Int} : x ∈ opnA N m u ↔ ∃ a : Nat, x = (a : Int) ∧ a < m ∧ N.tl a = u ∧ N.stp a := by
  simp only [opnA, List.mem_map, List.mem_filter, List.mem_range, decide_eq_true_eq]
  constructor
  · rintro ⟨a, ⟨h1, h2, h3⟩, rfl⟩
    exact ⟨a, rfl, h1, h2, h3⟩
  · rintro ⟨a, rfl, h1, h2, h3⟩
    exact ⟨a, ⟨h1, h2, h3⟩, rfl⟩
theorem opn_len (N : Net) (m : Nat) (u : Int) : (opnA N m u).length ≤ m := by
  unfold opnA
  rw [List.length_map]
  exact Nat.le_trans (List.length_filter_le _ _) (by simp)

/-- So it begins. -/
theorem pi_first {N : Net} (ok : N.Ok) : PI N (roomsA N.caps N.f (2 * N.n)) (opnsA N (2 * N.n)) ∧ bOf (roomsA N.caps N.f (2 * N.n)) N.n = N.f := by
  obtain ⟨h1, _⟩ := flow_parts ok.flow
  obtain ⟨f1, f2, f3, f4⟩ := fits_parts h1
  have hcl : N.caps.length = N.n := by rw [(capsB_parts f2).1, ok.hl]
  have hfl : N.f.length = N.n := by rw [(ratesB_parts f3).1, hcl]
  have hrt : ∀ i, i < N.n → 0 ≤ N.f[i]?.getD 0 ∧ N.f[i]?.getD 0 ≤ N.caps[i]?.getD 0 := fun i hi => rates_at f3 (by omega)
  refine ⟨⟨rooms_len _ _ _, opns_len _ _, fun a ha => ?_, fun a ha => ?_, fun u hu x hx => ?_, fun a ha hp hn => ?_, fun a ha _ => ?_, fun a ha _ _ => ?_⟩, ?_⟩
  · rw [rooms_at ha]
    obtain ⟨i, _, ⟨h1, h2⟩ | ⟨h1, h2⟩⟩ := flip_cases a
    · have := hrt i (by omega)
      rw [h1, roomE2]; omega
    · have := hrt i (by omega)
      rw [h1, roomO2]; omega
  · rw [rooms_at ha, rooms_at (flip_lt ha)]
    obtain ⟨i, hi, ⟨h1, h2⟩ | ⟨h1, h2⟩⟩ := flip_cases a
    · rw [h2, hi, h1, roomE2, roomO2]; omega
    · rw [h2, hi, h1, roomE2, roomO2]; omega
  · unfold oAt at hx
    have := hu.1
    have := hu.2
    rw [opns_at (by omega), show ((u.toNat : Nat) : Int) = u by omega] at hx
    exact opn_mem.1 hx
  · refine absurd ?_ hn
    have hu := ok.tl_in ha
    have := hu.1
    have := hu.2
    unfold oAt
    rw [opns_at (by omega), show (((N.tl a).toNat : Nat) : Int) = N.tl a by omega]
    exact opn_mem.2 ⟨a, rfl, ha, rfl, hp⟩
  · rw [rooms_at ha]; exact Int.le_refl _
  · rw [rooms_at ha]
  · refine List.ext_getElem (by rw [bOf_len, hfl]) fun i i1 i2 => ?_
    have hi : i < N.n := by omega
    have e1 := bOf_at (R := roomsA N.caps N.f (2 * N.n)) hi
    rw [List.getElem?_eq_getElem i1, rooms_at (by omega), roomO2, List.getElem?_eq_getElem i2] at e1
    exact e1

end Go.Proofs.Ytlpohlcmjnlbhaa

set_option maxRecDepth 20000
namespace Go.Proofs.Ytlpohlcmjnlbhaa

def lets (bs : List Bool) (a : Nat) : Prop := bs[a]?.getD false = true
def sawB (S : List Bool) (v : Int) : Bool := S[v.toNat]?.getD false
def cntT (S : List Bool) : Nat := S.count true

theorem cnt_le (S : List Bool) : cntT S ≤ S.length := List.count_le_length

theorem cnt_set {S : List Bool} {v : Nat} (hv : v < S.length) (h : S[v]?.getD false = false) : cntT (S.set v true) = cntT S + 1 := by
  rw [List.getElem?_eq_getElem hv, Option.getD_some] at h
  unfold cntT
  rw [List.count_set hv, h]
  simp

theorem saw_same {S : List Bool} {v : Nat} (hv : v < S.length) (h : S[v]?.getD false = true) : S.set v true = S := by
  rw [List.getElem?_eq_getElem hv, Option.getD_some] at h
  apply List.ext_getElem (by simp)
  intro i h1 h2
  by_cases e : v = i
  · subst e; rw [List.getElem_set_self, h]
  · rw [List.getElem_set_ne e]

/-- Closed: no arc that lets on leads out. -/
def ClosedS (ls : List Lk) (bs : List Bool) (m : Nat) (S : List Bool) : Prop := ∀ a, a < m → lets bs a → sawB S (tailOf ls a) = true → sawB S (headOf ls a) = true

structure SawI (ls : List Lk) (bs : List Bool) (m vn : Nat) (s : Int) (S : List Bool) : Prop where
  len : S.length = vn
  way : ∀ v : Nat, v < vn → S[v]?.getD false = true → Way ls (lets bs) m s (v : Int)
  src : sawB S s = true

def OutI (ls : List Lk) (bs : List Bool) (m vn : Nat) (s : Int) (k : Nat) (S : List Bool) : Prop := SawI ls bs m vn s S ∧ (ClosedS ls bs m S ∨ k + 1 ≤ cntT S)

def InnI (ls : List Lk) (bs : List Bool) (m vn : Nat) (s : Int) (S0 : List Bool) (a : Nat) (T : List Bool) : Prop :=
  SawI ls bs m vn s T ∧ (ClosedS ls bs m S0 → T = S0) ∧ ((T = S0 ∧ ∀ b, b < a → lets bs b → sawB S0 (tailOf ls b) = true → sawB S0 (headOf ls b) = true) ∨ cntT S0 + 1 ≤ cntT T)

theorem saw_first {ls : List Lk} {bs : List Bool} {m vn s : Nat} (hs : s < vn) : OutI ls bs m vn (s : Int) 0 ((List.replicate vn false).set s true) := by
  refine ⟨⟨by simp, fun v hv h => ?_, ?_⟩, .inr ?_⟩
  · by_cases e : s = v
    · subst e; exact .here
    · rw [List.getElem?_set_ne e, List.getElem?_replicate, if_pos hv] at h
      cases h
  · rw [sawB, Int.toNat_natCast, List.getElem?_set_self (by simpa using hs)]
    rfl
  · rw [cnt_set (by simpa using hs) (by rw [List.getElem?_replicate, if_pos hs]; rfl)]
    omega

theorem inn_first {ls : List Lk} {bs : List Bool} {m vn k : Nat} {s : Int} {S : List Bool} (h : OutI ls bs m vn s k S) : InnI ls bs m vn s S 0 S :=
  ⟨h.1, fun _ => rfl, .inl ⟨rfl, fun b hb => by omega⟩⟩

theorem inn_skip {ls : List Lk} {bs : List Bool} {m vn a : Nat} {s : Int} {S0 T : List Bool} (h : InnI ls bs m vn s S0 a T) (hn : ¬ (lets bs a ∧ sawB T (tailOf ls a) = true)) : InnI ls bs m vn s S0 (a + 1) T := by
  refine ⟨h.1, h.2.1, ?_⟩
  rcases h.2.2 with ⟨rfl, hb⟩ | hc
  · refine .inl ⟨rfl, fun b hb' l1 l2 => ?_⟩
    by_cases e : b = a
    · subst e; exact absurd ⟨l1, l2⟩ hn
    · exact hb b (by omega) l1 l2
  · exact .inr hc

theorem inn_put {ls : List Lk} {bs : List Bool} {m vn a : Nat} {s : Int} {S0 T : List Bool} (h : InnI ls bs m vn s S0 a T) (ha : a < m) (hl : lets bs a) (ht : sawB T (tailOf ls a) = true) (ti : inV vn (tailOf ls a)) (hi : inV vn (headOf ls a)) : InnI ls bs m vn s S0 (a + 1) (T.set (headOf ls a).toNat true) := by
  have hlen := h.1.len
  have hv : (headOf ls a).toNat < T.length := by have := hi.1; have := hi.2; omega
  have hwt : Way ls (lets bs) m s (tailOf ls a) := by
    have := h.1.way (tailOf ls a).toNat (by have := ti.1; have := ti.2; omega) ht
    rw [show (((tailOf ls a).toNat : Nat) : Int) = tailOf ls a by have := ti.1; omega] at this
    exact this
  have hwh : Way ls (lets bs) m s (headOf ls a) := .on a ha hl hwt
  cases hh : T[(headOf ls a).toNat]?.getD false
  · -- a vertex more
    have hcnt := cnt_set hv hh
    refine ⟨⟨by simp [hlen], fun v hv' hs => ?_, ?_⟩, fun hc => ?_, .inr ?_⟩
    · by_cases e : (headOf ls a).toNat = v
      · subst e
        rw [show (((headOf ls a).toNat : Nat) : Int) = headOf ls a by have := hi.1; omega]
        exact hwh
      · rw [List.getElem?_set_ne e] at hs
        exact h.1.way v hv' hs
    · have := h.1.src
      unfold sawB at this ⊢
      by_cases e : (headOf ls a).toNat = s.toNat
      · rw [← e, List.getElem?_set_self hv]; rfl
      · rw [List.getElem?_set_ne e]; exact this
    · have e := h.2.1 hc
      subst e
      have := hc a ha hl ht
      unfold sawB at this
      rw [hh] at this
      cases this
    · rcases h.2.2 with ⟨rfl, _⟩ | hc <;> omega
  · -- seen before
    rw [saw_same hv hh]
    refine ⟨h.1, h.2.1, ?_⟩
    rcases h.2.2 with ⟨rfl, hb⟩ | hc
    · refine .inl ⟨rfl, fun b hb' l1 l2 => ?_⟩
      by_cases e : b = a
      · subst e; exact hh
      · exact hb b (by omega) l1 l2
    · exact .inr hc

theorem out_next {ls : List Lk} {bs : List Bool} {m vn k : Nat} {s : Int} {S0 T : List Bool} (h : OutI ls bs m vn s k S0) (i : InnI ls bs m vn s S0 m T) : OutI ls bs m vn s (k + 1) T := by
  refine ⟨i.1, ?_⟩
  rcases i.2.2 with ⟨rfl, hb⟩ | hc
  · exact .inl hb
  · rcases h.2 with h1 | h1
    · have e := i.2.1 h1
      subst e
      exact .inl h1
    · exact .inr (by omega)

theorem out_end {ls : List Lk} {bs : List Bool} {m vn : Nat} {s : Int} {S : List Bool} (h : OutI ls bs m vn s vn S) {t : Nat} (ht : t < vn) : S[t]?.getD false = true ↔ Way ls (lets bs) m s (t : Int) := by
  have hc : ClosedS ls bs m S := by
    rcases h.2 with h1 | h1
    · exact h1
    · have := cnt_le S
      have := h.1.len
      omega
  refine ⟨h.1.way t ht, fun w => ?_⟩
  have key : ∀ v, Way ls (lets bs) m s v → sawB S v = true := by
    intro v w
    induction w with
    | here => exact h.1.src
    | on a ha hp _ ih => exact hc a ha hp ih
  have := key _ w
  rw [sawB, Int.toNat_natCast] at this
  exact this

theorem Way.to {ls : List Lk} {p q : Nat → Prop} {m : Nat} {s v : Int} (w : Way ls p m s v) (h : ∀ a, a < m → p a → q a) : Way ls q m s v := by
  induction w with
  | here => exact .here
  | on a ha hp _ ih => exact .on a ha (h a ha hp) ih

/-- Of each arc of the first links: is it forth, over a link with a rate above 0? -/
def fillL (f : List Int) (n k : Nat) : List Bool := (List.range (2 * n)).map fun a => decide (a < 2 * k ∧ a % 2 = 0 ∧ 0 < f[a / 2]?.getD 0)

theorem fill_len (f : List Int) (n k : Nat) : (fillL f n k).length = 2 * n := by simp [fillL]
theorem fill_at {f : List Int} {n k a : Nat} (h : a < 2 * n) : (fillL f n k)[a]?.getD false = decide (a < 2 * k ∧ a % 2 = 0 ∧ 0 < f[a / 2]?.getD 0) := by simp [fillL, h]
theorem fill_zero (f : List Int) (n : Nat) : fillL f n 0 = List.replicate (2 * n) false := by
  apply List.ext_getElem (by simp [fillL])
  intro i h1 h2
  simp [fillL]
theorem fill_next {f : List Int} {n k : Nat} : (fillL f n k).set (2 * k) (decide (0 < f[k]?.getD 0)) = fillL f n (k + 1) := by
  apply List.ext_getElem (by simp [fillL])
  intro i h1 h2
  rw [List.getElem_set]
  have hi : i < 2 * n := by simpa [fillL] using h2
  by_cases e : 2 * k = i
  · subst e
    simp [fillL]
  · rw [if_neg e]
    simp only [fillL, List.getElem_map, List.getElem_range]
    rw [decide_eq_decide]
    constructor
    · rintro ⟨a, b, c⟩; exact ⟨by omega, b, c⟩
    · rintro ⟨a, b, c⟩; exact ⟨by omega, b, c⟩

end Go.Proofs.Ytlpohlcmjnlbhaa

set_option maxRecDepth 20000
namespace Go.Proofs.Ytlpohlcmjnlbhaa

theorem pigeon : ∀ (n : Nat) (g : Nat → Nat), (∀ i, i ≤ n → g i < n) → ∃ i j, i < j ∧ j ≤ n ∧ g i = g j
  | 0, g, h => absurd (h 0 (Nat.le_refl _)) (by omega)
  | n + 1, g, h => by
    by_cases hm : ∃ i, i ≤ n ∧ g i = g (n + 1)
    · obtain ⟨i, hi, e⟩ := hm
      exact ⟨i, n + 1, by omega, Nat.le_refl _, e⟩
    · have hne : ∀ i, i ≤ n → g i ≠ g (n + 1) := fun i hi e => hm ⟨i, hi, e⟩
      obtain ⟨i, j, h1, h2, e⟩ := pigeon n (fun i => if g i = n then g (n + 1) else g i) (fun i hi => by
        have a := h i (by omega)
        have b := h (n + 1) (by omega)
        have c := hne i hi
        show (if g i = n then g (n + 1) else g i) < n
        split <;> omega)
      refine ⟨i, j, h1, by omega, ?_⟩
      have a := hne i (by omega)
      have b := hne j h2
      split at e <;> split at e <;> omega

/-- The number at a place. -/
abbrev nAt (T : List Int) (v : Nat) : Int := T[v]?.getD 0

/-- Over link i one goes on from v. -/
def goesB (L : List Lk) (f T : List Int) (v i : Nat) : Prop := i < L.length ∧ (at3 L i).1 = (v : Nat) ∧ 0 < nAt f i ∧ 0 ≤ nAt T (at3 L i).2.1.toNat

/-- A link over which one goes on, or -1. -/
def LeadIs (L : List Lk) (f T : List Int) (v : Nat) (r : Int) : Prop := (∃ i : Nat, r = (i : Int) ∧ goesB L f T v i) ∨ (r = -1 ∧ ∀ i, ¬ goesB L f T v i)

def okAt (L : List Lk) (f T : List Int) (v : Nat) : Prop := 0 ≤ nAt T v → goesB L f T v (nAt T v).toNat

structure OnB (V : Nat) (L : List Lk) (f T : List Int) : Prop where
  len : T.length = V
  rng : ∀ v : Nat, -1 ≤ nAt T v ∧ nAt T v ≤ L.length
  dead : ∀ i, i < L.length → 0 < nAt f i → nAt T (at3 L i).1.toNat < 0 → nAt T (at3 L i).2.1.toNat < 0
  live : ∀ P : Nat → Prop, (∀ v, P v → ∃ i, i < L.length ∧ (at3 L i).1 = (v : Nat) ∧ 0 < nAt f i ∧ P (at3 L i).2.1.toNat) → ∀ v, v < V → P v → 0 ≤ nAt T v

def cntN (T : List Int) : Nat := T.countP fun x => decide (0 ≤ x)

def OnI (V : Nat) (L : List Lk) (f : List Int) (k v : Nat) (T : List Int) : Prop :=
  OnB V L f T ∧ ((∀ u, u < V → okAt L f T u) ∨ cntN T + k + 1 ≤ V ∨ (cntN T + k ≤ V ∧ ∀ u, u < v → okAt L f T u))

def OnO (V : Nat) (L : List Lk) (f : List Int) (k : Nat) (T : List Int) : Prop :=
  OnB V L f T ∧ ((∀ u, u < V → okAt L f T u) ∨ cntN T + k ≤ V)

theorem n_set {T : List Int} {v : Nat} (hv : v < T.length) (r : Int) (u : Nat) : nAt (T.set v r) u = if u = v then r else nAt T u := put_get hv r u

theorem cnt_put {T : List Int} {v : Nat} (hv : v < T.length) (r : Int) : cntN (T.set v r) + (if 0 ≤ nAt T v then 1 else 0) = cntN T + (if 0 ≤ r then 1 else 0) := by
  have e : nAt T v = T[v] := by simp [nAt, hv]
  have h1 : 0 ≤ T[v] → 1 ≤ T.countP fun x => decide (0 ≤ x) := fun h => by
    have := List.countP_pos_iff (p := fun x => decide (0 ≤ x)) (l := T) |>.2 ⟨T[v], List.getElem_mem hv, by simpa using h⟩
    omega
  unfold cntN
  rw [List.countP_set hv, e]
  by_cases a : 0 ≤ T[v] <;> by_cases b : 0 ≤ r <;> simp [a, b] <;> have := h1 <;> omega

theorem on_first (V : Nat) (L : List Lk) (f : List Int) : OnO V L f 0 (List.replicate V 0) := by
  have hz : ∀ v : Nat, nAt (List.replicate V 0) v = 0 := fun v => by
    unfold nAt
    rw [List.getElem?_replicate]
    split <;> rfl
  refine ⟨⟨by simp, fun v => by rw [hz]; omega, fun i _ _ h => by rw [hz] at h; omega, fun P _ v _ _ => by rw [hz]; omega⟩, .inr ?_⟩
  have := List.countP_le_length (p := fun x => decide (0 ≤ x)) (l := List.replicate V (0 : Int))
  rw [List.length_replicate] at this
  unfold cntN
  omega

theorem on_in {V : Nat} {L : List Lk} {f T : List Int} {k : Nat} (h : OnO V L f k T) : OnI V L f k 0 T := by
  refine ⟨h.1, ?_⟩
  rcases h.2 with a | a
  · exact .inl a
  · exact .inr (.inr ⟨a, fun u hu => by omega⟩)

theorem on_out {V : Nat} {L : List Lk} {f T : List Int} {k : Nat} (h : OnI V L f k V T) : OnO V L f (k + 1) T := by
  refine ⟨h.1, ?_⟩
  rcases h.2 with a | a | a
  · exact .inl a
  · exact .inr (by omega)
  · exact .inl a.2

theorem on_put {V : Nat} {L : List Lk} {f T : List Int} {k v : Nat} {r : Int} (hm : mayG (V : Nat) L = true) (h : OnI V L f k v T) (hv : v < V) (hr : LeadIs L f T v r) : OnI V L f k (v + 1) (T.set v r) := by
  obtain ⟨hb, hc⟩ := h
  have hvl : v < T.length := by have := hb.len; omega
  have hset := n_set hvl r
  have hcnt := cnt_put hvl r
  have hr1 : -1 ≤ r ∧ r ≤ L.length := by
    rcases hr with ⟨i, rfl, g, _⟩ | ⟨rfl, _⟩ <;> omega
  have hrng : ∀ u : Nat, -1 ≤ nAt (T.set v r) u ∧ nAt (T.set v r) u ≤ L.length := fun u => by
    rw [hset]
    split
    · exact hr1
    · exact hb.rng u
  have same : (0 ≤ r ↔ 0 ≤ nAt T v) → OnI V L f k (v + 1) (T.set v r) := by
    intro hs
    have hsg : ∀ u : Nat, 0 ≤ nAt (T.set v r) u ↔ 0 ≤ nAt T u := fun u => by
      rw [hset]
      split
      · subst u; exact hs
      · exact Iff.rfl
    have hneg : ∀ u : Nat, nAt (T.set v r) u < 0 ↔ nAt T u < 0 := fun u => by
      have := hsg u
      omega
    have hgo : ∀ u i, goesB L f T u i → goesB L f (T.set v r) u i := fun u i g => ⟨g.1, g.2.1, g.2.2.1, (hsg _).2 g.2.2.2⟩
    have hok : ∀ u, okAt L f T u → okAt L f (T.set v r) u := fun u ho hp => by
      rw [hset] at hp ⊢
      split
      · subst u
        rw [if_pos rfl] at hp
        rcases hr with ⟨i, rfl, g⟩ | ⟨rfl, _⟩
        · exact hgo _ _ (by simpa using g)
        · omega
      · rename_i hne
        rw [if_neg hne] at hp
        exact hgo _ _ (ho hp)
    have hokv : okAt L f (T.set v r) v := fun hp => by
      rw [hset, if_pos rfl] at hp ⊢
      rcases hr with ⟨i, rfl, g⟩ | ⟨rfl, _⟩
      · exact hgo _ _ (by simpa using g)
      · omega
    have hce : cntN (T.set v r) = cntN T := by
      by_cases a : 0 ≤ r
      · rw [if_pos a, if_pos (hs.1 a)] at hcnt; omega
      · rw [if_neg a, if_neg (fun b => a (hs.2 b))] at hcnt; omega
    refine ⟨⟨by simp [hb.len], hrng, fun i hi hf hd => (hneg _).2 (hb.dead i hi hf ((hneg _).1 hd)), fun P hP u hu pu => (hsg u).2 (hb.live P hP u hu pu)⟩, ?_⟩
    rw [hce]
    rcases hc with a | a | a
    · exact .inl fun u hu => hok u (a u hu)
    · exact .inr (.inl a)
    · refine .inr (.inr ⟨a.1, fun u hu => ?_⟩)
      by_cases e : u = v
      · subst e; exact hokv
      · exact hok u (a.2 u (by omega))
  by_cases hT : 0 ≤ nAt T v
  case neg =>
    refine same ⟨fun a => ?_, fun a => absurd a hT⟩
    rcases hr with ⟨i, rfl, g⟩ | ⟨rfl, _⟩
    · obtain ⟨g1, g2, g3, g4⟩ := g
      have := hb.dead i g1 g3 (by rw [g2, Int.toNat_natCast]; omega)
      omega
    · omega
  rcases hr with ⟨i, rfl, g⟩ | ⟨rfl, hno⟩
  · exact same ⟨fun _ => hT, fun _ => by omega⟩
  clear same
  rw [if_pos hT, if_neg (by omega)] at hcnt
  refine ⟨⟨by simp [hb.len], hrng, fun i hi hf hd => ?_, fun P hP u hu pu => ?_⟩, ?_⟩
  · have hle : ∀ u : Nat, nAt T u < 0 → nAt (T.set v (-1)) u < 0 := fun u hu => by
      rw [hset]
      split <;> omega
    by_cases e : (at3 L i).1.toNat = v
    · have := (may_joins hm hi)
      have hng := hno i
      apply hle
      apply Classical.byContradiction
      intro hn
      exact hng ⟨hi, by omega, hf, by omega⟩
    · rw [hset, if_neg e] at hd
      exact hle _ (hb.dead i hi hf hd)
  · rw [hset]
    split
    · subst u
      obtain ⟨i, hi, h1, h2, h3⟩ := hP v pu
      have hj := may_joins hm hi
      exact absurd ⟨hi, h1, h2, hb.live P hP _ (by omega) h3⟩ (hno i)
    · exact hb.live P hP u hu pu
  · rcases hc with a | a | a
    · exact absurd (a v hv hT) (hno _)
    · exact .inr (.inl (by omega))
    · exact .inr (.inl (by omega))

/-- What onward tells. -/
structure OnIs (V : Nat) (L : List Lk) (f T : List Int) : Prop where
  base : OnB V L f T
  ok : ∀ u, u < V → okAt L f T u

theorem on_end {V : Nat} {L : List Lk} {f T : List Int} (h : OnO V L f V T) : OnIs V L f T := by
  refine ⟨h.1, ?_⟩
  rcases h.2 with a | a
  · exact a
  · intro u hu hp
    have hl := h.1.len
    have h1 : 1 ≤ T.countP fun x => decide (0 ≤ x) := by
      have := List.countP_pos_iff (p := fun x => decide (0 ≤ x)) (l := T) |>.2 ⟨T[u]'(by omega), List.getElem_mem _, by simpa [nAt, show u < T.length by omega] using hp⟩
      omega
    unfold cntN at a
    omega

/-- Where nothing goes on there is no cycle. -/
theorem on_none {V : Nat} {L : List Lk} {f T : List Int} (hm : mayG (V : Nat) L = true) (h : OnB V L f T) (hn : ∀ u, u < V → nAt T u < 0) : ¬ CycP L f := by
  rintro ⟨i, hi, hf, w⟩
  have hj := may_joins hm hi
  have key := h.live (fun v => WTo L (posA f) (2 * L.length) (at3 L i).1 (v : Int)) (fun v hv => by
    have hv' : WTo L (posA f) (2 * L.length) (at3 L i).1 (v : Int) := hv
    generalize hx : (v : Int) = x at hv'
    cases hv' with
    | here =>
      refine ⟨i, hi, hx ▸ rfl, hf, ?_⟩
      rw [show (((at3 L i).2.1.toNat : Nat) : Int) = (at3 L i).2.1 by omega]
      exact way_to w .here
    | on a ha hp k =>
      obtain ⟨h1, h2⟩ := hp
      obtain ⟨j, rfl⟩ : ∃ j, a = 2 * j := ⟨a / 2, by omega⟩
      rw [show 2 * j / 2 = j by omega] at h2
      rw [head_even] at k
      have hj2 := may_joins hm (i := j) (by omega)
      refine ⟨j, by omega, by first | rw [hx, tail_even] | exact (tail_even L j).symm, h2, ?_⟩
      rw [show (((at3 L j).2.1.toNat : Nat) : Int) = (at3 L j).2.1 by omega]
      exact k) (at3 L i).1.toNat (by omega) (by
    show WTo L (posA f) (2 * L.length) (at3 L i).1 (((at3 L i).1.toNat : Nat) : Int)
    rw [show (((at3 L i).1.toNat : Nat) : Int) = (at3 L i).1 by omega]
    exact .here)
  have := hn (at3 L i).1.toNat (by omega)
  omega

/-- One step on. -/
def stN (L : List Lk) (T : List Int) (v : Nat) : Nat := (at3 L (nAt T v).toNat).2.1.toNat

def itr (g : Nat → Nat) : Nat → Nat → Nat
  | 0, v => v
  | k + 1, v => g (itr g k v)

theorem itr_add (g : Nat → Nat) (v k : Nat) : ∀ j, itr g (j + k) v = itr g j (itr g k v)
  | 0 => by simp [itr]
  | j + 1 => by rw [show j + 1 + k = (j + k) + 1 by omega, itr, itr_add g v k j, itr]

theorem come_back {V : Nat} {g : Nat → Nat} {v : Nat} (h : ∀ k, itr g k v < V) : ∃ p, 1 ≤ p ∧ itr g p (itr g V v) = itr g V v := by
  obtain ⟨i, j, h1, h2, e⟩ := pigeon V (fun i => itr g i v) (fun i _ => h i)
  refine ⟨j - i, by omega, ?_⟩
  have a := itr_add g v V (j - i)
  have b := itr_add g v j (V - i)
  have c := itr_add g v i (V - i)
  rw [← a, show j - i + V = V - i + j by omega, b, ← e, ← c, show V - i + i = V by omega]

theorem least_of {P : Nat → Prop} (n : Nat) (h : P n) : ∃ p, P p ∧ ∀ q, q < p → ¬ P q := by
  induction n using Nat.strongRecOn with
  | ind n ih =>
    by_cases k : ∃ q, q < n ∧ P q
    · obtain ⟨q, h1, h2⟩ := k
      exact ih q h1 h2
    · exact ⟨n, h, fun q hq hp => k ⟨q, hq, hp⟩⟩

theorem step_on {V : Nat} {L : List Lk} {f T : List Int} (hm : mayG (V : Nat) L = true) (h : OnIs V L f T) {v : Nat} (hv : v < V) (hp : 0 ≤ nAt T v) :
    ∃ i : Nat, nAt T v = (i : Int) ∧ i < L.length ∧ (at3 L i).1 = (v : Int) ∧ 0 < nAt f i ∧ (at3 L i).2.1 = (stN L T v : Nat) ∧ stN L T v < V ∧ 0 ≤ nAt T (stN L T v) ∧ stN L T v ≠ v := by
  obtain ⟨g1, g2, g3, g4⟩ := h.ok v hv hp
  have hj := may_joins hm g1
  refine ⟨(nAt T v).toNat, by omega, g1, g2, g3, ?_, ?_, g4, ?_⟩
  · unfold stN; omega
  · unfold stN; omega
  · unfold stN; omega

theorem itr_on {V : Nat} {L : List Lk} {f T : List Int} (hm : mayG (V : Nat) L = true) (h : OnIs V L f T) {v : Nat} (hv : v < V) (hp : 0 ≤ nAt T v) : ∀ k, itr (stN L T) k v < V ∧ 0 ≤ nAt T (itr (stN L T) k v)
  | 0 => ⟨hv, hp⟩
  | k + 1 => by
    obtain ⟨a, b⟩ := itr_on hm h hv hp k
    obtain ⟨_, _, _, _, _, _, c, d, _⟩ := step_on hm h a b
    exact ⟨c, d⟩

/-- The links of so many steps. -/
def walkT (L : List Lk) (T : List Int) (a k : Nat) : List Int := (List.range k).map fun j => nAt T (itr (stN L T) j a)

theorem walk_len (L : List Lk) (T : List Int) (a k : Nat) : (walkT L T a k).length = k := by simp [walkT]
theorem walk_at {L : List Lk} {T : List Int} {a k j : Nat} (h : j < k) : (walkT L T a k)[j]?.getD 0 = nAt T (itr (stN L T) j a) := by simp [walkT, h]
theorem walk_next (L : List Lk) (T : List Int) (a k : Nat) : walkT L T a (k + 1) = walkT L T a k ++ [nAt T (itr (stN L T) k a)] := by simp [walkT, List.range_succ]

theorem walk_turns {V : Nat} {L : List Lk} {f T : List Int} (hm : mayG (V : Nat) L = true) (h : OnIs V L f T) {a p : Nat} (ha : a < V) (hp : 0 ≤ nAt T a) (h1 : 1 ≤ p) (hb : itr (stN L T) p a = a) (hl : ∀ q, 1 ≤ q → q < p → itr (stN L T) q a ≠ a) : TurnsIs L f (walkT L T a p) := by
  have on := fun k => itr_on hm h ha hp k
  have so := fun k => step_on hm h (on k).1 (on k).2
  have diff : ∀ i j, j < i → i < p → itr (stN L T) i a ≠ itr (stN L T) j a := by
    intro i j h1 h2 e
    have x := itr_add (stN L T) a i (p - i)
    have y := itr_add (stN L T) a j (p - i)
    rw [show p - i + i = p by omega, hb, e, ← y] at x
    exact hl (p - i + j) (by omega) (by omega) x.symm
  have lks : ∀ i j, j < i → i < p → (nAt T (itr (stN L T) i a)).toNat ≠ (nAt T (itr (stN L T) j a)).toNat := by
    intro i j h1 h2 e
    obtain ⟨x, x1, _, x2, _⟩ := so i
    obtain ⟨y, y1, _, y2, _⟩ := so j
    rw [x1, y1, Int.toNat_natCast, Int.toNat_natCast] at e
    subst e
    exact diff i j h1 h2 (by omega)
  have h2 : 2 ≤ p := by
    apply Classical.byContradiction
    intro hn
    obtain rfl : p = 1 := by omega
    obtain ⟨_, _, _, _, _, _, _, _, ne⟩ := so 0
    exact ne hb
  refine ⟨by rw [walk_len]; exact h2, ?_, ?_, ?_, ?_⟩
  · rw [walk_len]
    apply Classical.byContradiction
    intro hn
    obtain ⟨i, j, k1, k2, e⟩ := pigeon L.length (fun i => (nAt T (itr (stN L T) i a)).toNat) (fun i _ => by
      obtain ⟨x, x1, x2, _⟩ := so i
      show (nAt T (itr (stN L T) i a)).toNat < L.length
      rw [x1, Int.toNat_natCast]
      exact x2)
    exact lks j i k1 (by omega) e.symm
  · intro i hi
    rw [walk_len] at hi
    rw [walk_at hi]
    obtain ⟨x, x1, x2, _, x3, _⟩ := so i
    rw [x1, Int.toNat_natCast]
    exact ⟨by omega, by omega, x3⟩
  · intro i hi
    rw [walk_len] at hi ⊢
    rw [walk_at hi, walk_at (Nat.mod_lt _ (by omega))]
    obtain ⟨x, x1, _, _, _, x4, _⟩ := so i
    obtain ⟨y, y1, _, y2, _⟩ := so ((i + 1) % p)
    rw [x1, y1, Int.toNat_natCast, Int.toNat_natCast, x4, y2]
    by_cases e : i + 1 = p
    · rw [e, Nat.mod_self]
      have : stN L T (itr (stN L T) i a) = itr (stN L T) (i + 1) a := rfl
      rw [this, e, hb]
      rfl
    · rw [Nat.mod_eq_of_lt (by omega)]
      rfl
  · intro i j h1 h2
    rw [walk_len] at h2
    rw [walk_at h2, walk_at (by omega)]
    obtain ⟨x, x1, _, x2, _⟩ := so i
    obtain ⟨y, y1, _, y2, _⟩ := so j
    rw [x1, y1, Int.toNat_natCast, Int.toNat_natCast, x2, y2]
    have := diff i j h1 h2
    omega

/-- So much less on the first k links of a row. -/
def offK (m : Int) (ls f : List Int) : Nat → List Int
  | 0 => f
  | k + 1 => (offK m ls f k).set (nAt ls k).toNat (nAt (offK m ls f k) (nAt ls k).toNat - m)

theorem off_len (m : Int) (ls f : List Int) : ∀ k, (offK m ls f k).length = f.length
  | 0 => rfl
  | k + 1 => by rw [offK, List.length_set, off_len m ls f k]

theorem TurnsIs.hasN {L : List Lk} {f ls : List Int} (h : TurnsIs L f ls) (k : Nat) (hk : k < ls.length) : 0 ≤ nAt ls k ∧ nAt ls k < L.length ∧ 0 < nAt f (nAt ls k).toNat := h.has k hk

theorem turns_apart {L : List Lk} {f ls : List Int} (h : TurnsIs L f ls) {i j : Nat} (h1 : j < i) (h2 : i < ls.length) : (nAt ls i).toNat ≠ (nAt ls j).toNat := fun e => h.once i j h1 h2 (by
  have e' : (ls[i]?.getD 0).toNat = (ls[j]?.getD 0).toNat := e
  rw [e'])

theorem off_at {L : List Lk} {f ls : List Int} {m : Int} (h : TurnsIs L f ls) (hl : f.length = L.length) (i : Nat) : ∀ k, k ≤ ls.length →
    ((∃ j, j < k ∧ (nAt ls j).toNat = i) ∧ nAt (offK m ls f k) i = nAt f i - m) ∨ ((∀ j, j < k → (nAt ls j).toNat ≠ i) ∧ nAt (offK m ls f k) i = nAt f i)
  | 0, _ => .inr ⟨fun j hj => by omega, rfl⟩
  | k + 1, hk => by
    obtain ⟨b1, b2, _⟩ := h.hasN k (by omega)
    have hlt : (nAt ls k).toNat < (offK m ls f k).length := by rw [off_len, hl]; omega
    rw [offK, n_set hlt]
    by_cases e : i = (nAt ls k).toNat
    · subst e
      rw [if_pos rfl]
      refine .inl ⟨⟨k, by omega, rfl⟩, ?_⟩
      rcases off_at h hl (nAt ls k).toNat k (by omega) with ⟨⟨j, hj, q⟩, _⟩ | ⟨_, q⟩
      · exact absurd q.symm (turns_apart h hj (by omega))
      · rw [q]
    · rw [if_neg e]
      rcases off_at h hl i k (by omega) with ⟨⟨j, hj, q⟩, r⟩ | ⟨q, r⟩
      · exact .inl ⟨⟨j, by omega, q⟩, r⟩
      · refine .inr ⟨fun j hj => ?_, r⟩
        by_cases e2 : j = k
        · subst e2; exact fun a => e a.symm
        · exact q j (by omega)

theorem off_gain {L : List Lk} {f ls : List Int} {m : Int} (h : TurnsIs L f ls) (hl : f.length = L.length) (v : Int) : ∀ k, k ≤ ls.length →
    gainOf L (offK m ls f k) v = gainOf L f v - (if (at3 L (nAt ls 0).toNat).1 = v then m else 0) + (if (at3 L (nAt ls (k % ls.length)).toNat).1 = v then m else 0)
  | 0, _ => by rw [Nat.zero_mod, offK]; omega
  | k + 1, hk => by
    obtain ⟨b1, b2, _⟩ := h.hasN k (by omega)
    have hn := h.next k (by omega)
    have ih := off_gain (m := m) h hl v k (by omega)
    rw [Nat.mod_eq_of_lt (by omega)] at ih
    have hlt : (nAt ls k).toNat < (offK m ls f k).length := by rw [off_len, hl]; omega
    have gp := gk_put (L := L) (f := offK m ls f k) (f' := offK m ls f (k + 1)) (v := v) (d := -m) (i := (nAt ls k).toNat) (fun j => by
      have := n_set hlt (nAt (offK m ls f k) (nAt ls k).toNat - m) j
      show nAt (offK m ls f (k + 1)) j = nAt (offK m ls f k) j + _
      rw [offK, this]
      by_cases e : j = (nAt ls k).toNat
      · subst e; rw [if_pos rfl, if_pos rfl]; omega
      · rw [if_neg e, if_neg e]; omega) L.length
    rw [if_pos (by omega)] at gp
    unfold gainOf at ih ⊢
    rw [gp, ih]
    have hn' : (at3 L (nAt ls k).toNat).2.1 = (at3 L (nAt ls ((k + 1) % ls.length)).toNat).1 := hn
    rw [hn']
    split <;> split <;> split <;> omega

/-- The sum of a list, by places. -/
def sumL (f : List Int) : Int := sumN (fun i => nAt f i) f.length

/-- The least of a row's links. -/
structure LeastIs (f ls : List Int) (m : Int) : Prop where
  low : ∀ j, j < ls.length → m ≤ nAt f (nAt ls j).toNat
  hit : ∃ j, j < ls.length ∧ m = nAt f (nAt ls j).toNat

/-- What Cancel keeps. -/
structure RestI (V : Nat) (L : List Lk) (f b : List Int) : Prop where
  len : b.length = L.length
  bd : ∀ i, i < L.length → 0 ≤ nAt b i ∧ nAt b i ≤ nAt f i
  gain : ∀ v : Nat, v < V → gainOf L b (v : Int) = gainOf L f (v : Int)

theorem rest_first {V : Nat} {L : List Lk} {f : List Int} (h : capsB L f = true) : RestI V L f f := by
  obtain ⟨h1, h2⟩ := capsB_parts h
  exact ⟨h1, fun i hi => ⟨(h2 i hi).1, Int.le_refl _⟩, fun _ _ => rfl⟩

theorem rest_turn {V : Nat} {L : List Lk} {f b ls : List Int} {m : Int} (h : RestI V L f b) (ht : TurnsIs L b ls) (hm : LeastIs b ls m) : RestI V L f (offK m ls b ls.length) ∧ (sumL (offK m ls b ls.length)).toNat < (sumL b).toNat := by
  have h2 := ht.two
  obtain ⟨j0, hj0, e0⟩ := hm.hit
  obtain ⟨a0, b0, c0⟩ := ht.hasN j0 hj0
  have hm0 : 0 < m := by
    rw [e0]; exact c0
  have hat := off_at (m := m) ht h.len
  have bd : ∀ i, i < L.length → 0 ≤ nAt (offK m ls b ls.length) i ∧ nAt (offK m ls b ls.length) i ≤ nAt b i := fun i hi => by
    have := h.bd i hi
    rcases hat i ls.length (Nat.le_refl _) with ⟨⟨j, hj, q⟩, r⟩ | ⟨_, r⟩
    · have := hm.low j hj
      rw [q] at this
      rw [r]; omega
    · rw [r]; omega
  refine ⟨⟨by rw [off_len]; exact h.len, fun i hi => ⟨(bd i hi).1, Int.le_trans (bd i hi).2 (h.bd i hi).2⟩, fun v hv => ?_⟩, ?_⟩
  · rw [off_gain ht h.len _ _ (Nat.le_refl _), Nat.mod_self, h.gain v hv]
    omega
  · have key : sumL (offK m ls b ls.length) - sumL b < 0 := by
      unfold sumL
      rw [off_len, ← sumN_sub]
      rw [h.len]
      refine sum_neg _ (fun i hi => by have := (bd i hi).2; omega) ⟨(nAt ls j0).toNat, by omega, ?_⟩
      rcases hat (nAt ls j0).toNat ls.length (Nat.le_refl _) with ⟨_, r⟩ | ⟨q, _⟩
      · rw [r]; omega
      · exact absurd rfl (q j0 hj0)
    have pos : 0 ≤ sumL (offK m ls b ls.length) := by
      unfold sumL
      rw [off_len, h.len]
      have := sumN_leK (g := fun _ => 0) (h := fun i => nAt (offK m ls b ls.length) i) L.length (fun i hi => (bd i hi).1)
      rw [sumN_zero] at this
      exact this
    omega

end Go.Proofs.Ytlpohlcmjnlbhaa

set_option maxRecDepth 20000
namespace Go.Proofs.Ytlpohlcmjnlbhaa

/-- The numbers below k that p takes. -/
def pick (p : Nat → Bool) (k : Nat) : List Int := ((List.range k).filter p).map fun i : Nat => (i : Int)

theorem pick_zero (p : Nat → Bool) : pick p 0 = [] := rfl
theorem pick_yes {p : Nat → Bool} {k : Nat} (h : p k = true) : pick p (k + 1) = pick p k ++ [(k : Int)] := by simp [pick, List.range_succ, List.filter_append, h]
theorem pick_no {p : Nat → Bool} {k : Nat} (h : p k = false) : pick p (k + 1) = pick p k := by simp [pick, List.range_succ, List.filter_append, h]
theorem pick_len (p : Nat → Bool) (k : Nat) : (pick p k).length ≤ k := by
  have := List.length_filter_le p (List.range k)
  simp only [pick, List.length_map]
  simpa using this
theorem pick_mem {p : Nat → Bool} {k : Nat} {x : Int} : x ∈ pick p k ↔ ∃ i : Nat, i < k ∧ p i = true ∧ x = (i : Int) := by
  simp only [pick, List.mem_map, List.mem_filter, List.mem_range]
  constructor
  · rintro ⟨i, ⟨a, b⟩, rfl⟩; exact ⟨i, a, b, rfl⟩
  · rintro ⟨i, a, b, rfl⟩; exact ⟨i, ⟨a, b⟩, rfl⟩
theorem pick_get {p : Nat → Bool} {k j : Nat} (h : j < (pick p k).length) : ∃ i : Nat, i < k ∧ p i = true ∧ (pick p k)[j]?.getD 0 = (i : Int) := by
  have := List.getElem_mem h
  obtain ⟨i, a, b, e⟩ := pick_mem.1 this
  exact ⟨i, a, b, by rw [List.getElem?_eq_getElem h, Option.getD_some]; exact e⟩
theorem pick_ok {p : Nat → Bool} {k : Nat} (hk : k ≤ 1000) : ∀ i : Nat, -9223372036854775808 ≤ (pick p k)[i]?.getD 0 ∧ (pick p k)[i]?.getD 0 ≤ 9223372036854775807 := by
  intro i
  by_cases h : i < (pick p k).length
  · obtain ⟨j, hj, _, e⟩ := pick_get h
    omega
  · rw [List.getElem?_eq_none (by omega)]
    simp
theorem pick_congr {p q : Nat → Bool} {k : Nat} (h : ∀ i, i < k → p i = q i) : pick p k = pick q k := by
  unfold pick
  rw [List.filter_congr fun i hi => h i (List.mem_range.1 hi)]
theorem pick_none {p : Nat → Bool} {k : Nat} (h : ∀ i, i < k → p i = false) : pick p k = [] := by
  rw [pick_congr (q := fun _ => false) h]
  simp [pick]
theorem pick_rise (p : Nat → Bool) (k : Nat) : (pick p k).Pairwise (· < ·) := by
  unfold pick
  rw [List.pairwise_map]
  refine (List.pairwise_lt_range.filter p).imp ?_
  intro a b h
  omega

def riseB (V : Int) (vs : List Int) (i : Nat) : Bool := isV V (vs[i]?.getD 0) && (decide (i = 0) || decide (vs[i - 1]?.getD 0 < vs[i]?.getD 0))
def vertsB (V : Int) (vs : List Int) : Bool := (List.range vs.length).all (riseB V vs)
def leaves (vs : List Int) (l : Lk) : Bool := decide (l.1 ∈ vs) && !decide (l.2.1 ∈ vs)
def lv (L : List Lk) (vs : List Int) (k : Nat) : List Int := pick (fun i => leaves vs (at3 L i)) k
def leavB (V : Int) (L : List Lk) (vs : List Int) : Bool := mayG V L && vertsB V vs
def leavV (V : Int) (L : List Lk) (vs : List Int) : List Int := if leavB V L vs then lv L vs L.length else []
def leavE (V : Int) (L : List Lk) (vs : List Int) : Int := if leavB V L vs then 0 else 800
def cutB (V : Int) (L : List Lk) (s t : Int) (vs : List Int) : Bool := leavB V L vs && decide (s ∈ vs) && isV V t && !decide (t ∈ vs)
def wk (L : List Lk) (caps vs : List Int) : Nat → Int
  | 0 => 0
  | k + 1 => wk L caps vs k + (if leaves vs (at3 L k) then capI caps k else 0)
def gets (caps xs : List Int) : List Int := xs.map fun x => capI caps x.toNat
def worthB (V : Int) (L : List Lk) (caps vs : List Int) : Bool := leavB V L vs && capsB L caps
def worthX (V : Int) (L : List Lk) (caps vs : List Int) : Int := if worthB V L caps vs then wk L caps vs L.length else 0
def worthE (V : Int) (L : List Lk) (caps vs : List Int) : Int := if worthB V L caps vs then 0 else 800
def provE (V : Int) (L : List Lk) (caps : List Int) : Int := if mayG V L && capsB L caps then 0 else 800
def provB (V : Int) (L : List Lk) (caps : List Int) (s t R : Int) (vs : List Int) : Bool := mayG V L && capsB L caps && cutB V L s t vs && decide (worthX V L caps vs < R)

theorem verts_stop {V : Int} {vs : List Int} {k : Nat} (h : k < vs.length) (e : riseB V vs k = false) : vertsB V vs = false := range_stop h e
theorem verts_at {V : Int} {vs : List Int} (h : vertsB V vs = true) {i : Nat} (hi : i < vs.length) : riseB V vs i = true := List.all_eq_true.1 h i (List.mem_range.2 hi)
theorem verts_mem {V : Int} {vs : List Int} (h : vertsB V vs = true) {x : Int} (hx : x ∈ vs) : isV V x = true := by
  obtain ⟨i, hi, e⟩ := List.getElem_of_mem hx
  have := verts_at h hi
  simp only [riseB, Bool.and_eq_true] at this
  rw [List.getElem?_eq_getElem hi, Option.getD_some, e] at this
  exact this.1
theorem verts_mk {V : Int} {vs : List Int} (h : ∀ x ∈ vs, isV V x = true) (r : vs.Pairwise (· < ·)) : vertsB V vs = true := by
  refine List.all_eq_true.2 fun i hi => ?_
  have hi := List.mem_range.1 hi
  simp only [riseB, Bool.and_eq_true, Bool.or_eq_true, decide_eq_true_eq]
  refine ⟨by rw [List.getElem?_eq_getElem hi, Option.getD_some]; exact h _ (List.getElem_mem hi), ?_⟩
  by_cases h0 : i = 0
  · exact .inl h0
  · right
    rw [List.getElem?_eq_getElem hi, List.getElem?_eq_getElem (by omega : i - 1 < vs.length), Option.getD_some, Option.getD_some]
    exact List.pairwise_iff_getElem.1 r _ _ _ _ (by omega)
theorem verts_pick (p : Nat → Bool) (k : Nat) : vertsB (k : Nat) (pick p k) = true := by
  refine verts_mk (fun x hx => ?_) (pick_rise p k)
  obtain ⟨i, hi, _, rfl⟩ := pick_mem.1 hx
  simp [isV]; omega

theorem leav_no {V : Int} {L : List Lk} {vs : List Int} (h : leavB V L vs = false) : leavV V L vs = [] ∧ leavE V L vs = 800 := by simp [leavV, leavE, h]
theorem leav_yes {V : Int} {L : List Lk} {vs : List Int} (h : leavB V L vs = true) : leavV V L vs = lv L vs L.length ∧ leavE V L vs = 0 := by simp [leavV, leavE, h]
theorem leav_parts {V : Int} {L : List Lk} {vs : List Int} (h : leavB V L vs = true) : mayG V L = true ∧ vertsB V vs = true := by simpa [leavB] using h
theorem leavV_len (V : Int) (L : List Lk) (vs : List Int) : (leavV V L vs).length ≤ 16 := by
  cases h : leavB V L vs
  · rw [(leav_no h).1]; simp
  · rw [(leav_yes h).1]
    have := may_small (leav_parts h).1
    have := pick_len (fun i => leaves vs (at3 L i)) L.length
    unfold lv
    omega
theorem leavV_ok (V : Int) (L : List Lk) (vs : List Int) : ∀ i : Nat, -9223372036854775808 ≤ (leavV V L vs)[i]?.getD 0 ∧ (leavV V L vs)[i]?.getD 0 ≤ 9223372036854775807 := by
  cases h : leavB V L vs
  · rw [(leav_no h).1]; simp
  · rw [(leav_yes h).1]
    have := may_small (leav_parts h).1
    exact pick_ok (by omega)
theorem lv_ok {L : List Lk} {vs : List Int} {k : Nat} (hk : k ≤ 16) : ∀ i : Nat, -9223372036854775808 ≤ (lv L vs k)[i]?.getD 0 ∧ (lv L vs k)[i]?.getD 0 ≤ 9223372036854775807 := pick_ok (by omega)
theorem lv_yes {L : List Lk} {vs : List Int} {k : Nat} (h : leaves vs (at3 L k) = true) : lv L vs (k + 1) = lv L vs k ++ [(k : Int)] := pick_yes (p := fun i => leaves vs (at3 L i)) h
theorem lv_no {L : List Lk} {vs : List Int} {k : Nat} (h : leaves vs (at3 L k) = false) : lv L vs (k + 1) = lv L vs k := pick_no (p := fun i => leaves vs (at3 L i)) h
theorem lv_len (L : List Lk) (vs : List Int) (k : Nat) : (lv L vs k).length ≤ k := pick_len _ k

theorem wk_bd {V : Int} {L : List Lk} {caps : List Int} (vs : List Int) (h : mayG V L = true) (c : capsB L caps = true) {k : Nat} (hk : k ≤ L.length) : 0 ≤ wk L caps vs k ∧ wk L caps vs k ≤ 4611686018427387904 := by
  have c2 := (capsB_parts c).2
  have : ∀ k, k ≤ L.length → 0 ≤ wk L caps vs k ∧ wk L caps vs k ≤ capSum L k := by
    intro k
    induction k with
    | zero => intro _; simp [wk, capSum]
    | succ k ih =>
      intro hk
      have := ih (by omega)
      have := c2 k (by omega)
      simp only [wk, capSum]
      split <;> omega
  have a := this k hk
  have b := may_sum h k hk
  omega

theorem gets_lv (L : List Lk) (caps vs : List Int) : ∀ k, isum (gets caps (lv L vs k)) = wk L caps vs k
  | 0 => rfl
  | k + 1 => by
    have ih := gets_lv L caps vs k
    cases h : leaves vs (at3 L k)
    · rw [lv_no h, ih]; simp [wk, h]
    · rw [lv_yes h, gets, List.map_append, isum_app]
      rw [gets] at ih
      rw [ih]
      simp [wk, h, isum]

theorem gets_nonneg {L : List Lk} {caps vs : List Int} (c : capsB L caps = true) : ∀ x ∈ gets caps (lv L vs L.length), 0 ≤ x := by
  intro x hx
  simp only [gets, List.mem_map] at hx
  obtain ⟨y, hy, rfl⟩ := hx
  obtain ⟨i, hi, _, rfl⟩ := pick_mem.1 hy
  exact ((capsB_parts c).2 _ (by simpa using hi)).1

/-- What the first j of the links that leave are worth together. -/
def pw (L : List Lk) (caps vs : List Int) (j : Nat) : Int := isum (gets caps ((lv L vs L.length).take j))

theorem pw_zero (L : List Lk) (caps vs : List Int) : pw L caps vs 0 = 0 := by simp [pw, gets, isum]
theorem pw_all (L : List Lk) (caps vs : List Int) : pw L caps vs (lv L vs L.length).length = wk L caps vs L.length := by rw [pw, List.take_length, gets_lv]
theorem pw_step {L : List Lk} {caps vs : List Int} {j : Nat} (h : j < (lv L vs L.length).length) : pw L caps vs (j + 1) = pw L caps vs j + capI caps ((lv L vs L.length)[j]?.getD 0).toNat := by
  unfold pw
  rw [List.take_succ_eq_append_getElem h, gets, List.map_append, isum_app, ← gets]
  simp [isum, h]
theorem pw_bd {V : Int} {L : List Lk} {caps vs : List Int} (m : mayG V L = true) (c : capsB L caps = true) (j : Nat) : 0 ≤ pw L caps vs j ∧ pw L caps vs j ≤ 4611686018427387904 := by
  have h := wk_bd vs m c (Nat.le_refl _)
  rw [← gets_lv] at h
  have nn := gets_nonneg (vs := vs) c
  have e : isum (gets caps (lv L vs L.length)) = pw L caps vs j + isum (gets caps ((lv L vs L.length).drop j)) := by
    rw [pw, ← isum_app, gets, gets, gets, ← List.map_append, List.take_append_drop]
  have a : 0 ≤ pw L caps vs j := isum_nonneg fun x hx => nn x (by
    simp only [gets, List.mem_map] at hx ⊢
    obtain ⟨y, hy, rfl⟩ := hx
    exact ⟨y, List.mem_of_mem_take hy, rfl⟩)
  have b : 0 ≤ isum (gets caps ((lv L vs L.length).drop j)) := isum_nonneg fun x hx => nn x (by
    simp only [gets, List.mem_map] at hx ⊢
    obtain ⟨y, hy, rfl⟩ := hx
    exact ⟨y, List.mem_of_mem_drop hy, rfl⟩)
  omega

theorem worth_no {V : Int} {L : List Lk} {caps vs : List Int} (h : worthB V L caps vs = false) : worthX V L caps vs = 0 ∧ worthE V L caps vs = 800 := by simp [worthX, worthE, h]
theorem worth_yes {V : Int} {L : List Lk} {caps vs : List Int} (h : worthB V L caps vs = true) : worthX V L caps vs = wk L caps vs L.length ∧ worthE V L caps vs = 0 := by simp [worthX, worthE, h]
theorem worth_parts {V : Int} {L : List Lk} {caps vs : List Int} (h : worthB V L caps vs = true) : mayG V L = true ∧ vertsB V vs = true ∧ capsB L caps = true := by
  simp only [worthB, leavB, Bool.and_eq_true] at h
  exact ⟨h.1.1, h.1.2, h.2⟩
theorem worth_mk {V : Int} {L : List Lk} {caps vs : List Int} (a : mayG V L = true) (b : vertsB V vs = true) (c : capsB L caps = true) : worthB V L caps vs = true := by simp [worthB, leavB, a, b, c]
theorem worthX_bd (V : Int) (L : List Lk) (caps vs : List Int) : 0 ≤ worthX V L caps vs ∧ worthX V L caps vs ≤ 4611686018427387904 := by
  cases h : worthB V L caps vs
  · rw [(worth_no h).1]; omega
  · obtain ⟨a, _, c⟩ := worth_parts h
    rw [(worth_yes h).1]
    exact wk_bd vs a c (Nat.le_refl _)
theorem worthE_ok {V : Int} {L : List Lk} {caps vs : List Int} (h : worthE V L caps vs = 0) : worthB V L caps vs = true := by
  cases k : worthB V L caps vs
  · rw [(worth_no k).2] at h; cases h
  · rfl
theorem worthE_no {V : Int} {L : List Lk} {caps vs : List Int} (h : ¬ worthE V L caps vs = 0) : worthE V L caps vs = 800 := by
  cases k : worthB V L caps vs
  · exact (worth_no k).2
  · exact absurd (worth_yes k).2 h

theorem cut_ref (V : Int) (L : List Lk) (s t : Int) (vs : List Int) : cutB V L s t vs = (mayG V L && isV V s && isV V t && vertsB V vs && decide (s ∈ vs) && !decide (t ∈ vs)) := by
  unfold cutB leavB
  cases a : mayG V L
  · simp
  · cases b : vertsB V vs
    · simp
    · by_cases c : s ∈ vs
      · rw [verts_mem b c]
        simp [c]
      · simp [c]

theorem prov_no {V : Int} {L : List Lk} {caps : List Int} {s t R : Int} {vs : List Int} (h : (mayG V L && capsB L caps) = false) : provE V L caps = 800 ∧ provB V L caps s t R vs = false := by simp [provE, provB, h]
theorem prov_cut {V : Int} {L : List Lk} {caps : List Int} {s t R : Int} {vs : List Int} (h : (mayG V L && capsB L caps) = true) (k : cutB V L s t vs = false) : provE V L caps = 0 ∧ provB V L caps s t R vs = false := by simp [provE, provB, h, k]
theorem prov_yes {V : Int} {L : List Lk} {caps : List Int} {s t R : Int} {vs : List Int} (h : (mayG V L && capsB L caps) = true) (k : cutB V L s t vs = true) : provE V L caps = 0 ∧ worthE V L caps vs = 0 ∧ provB V L caps s t R vs = decide (worthX V L caps vs < R) := by
  have h2 := h
  simp only [Bool.and_eq_true] at h
  refine ⟨by simp [provE, h2], (worth_yes (worth_mk h.1 ?_ h.2)).2, by simp [provB, h2, k]⟩
  simp only [cutB, leavB, Bool.and_eq_true] at k
  exact k.1.1.1.2

/-- Of two sides, what leaves both together and what leaves those in both. -/
theorem leaves_pair {a b u v : List Int} {l : Lk} (h1 : l.1 ∈ u ↔ (l.1 ∈ a ∨ l.1 ∈ b)) (h2 : l.2.1 ∈ u ↔ (l.2.1 ∈ a ∨ l.2.1 ∈ b)) (h3 : l.1 ∈ v ↔ (l.1 ∈ a ∧ l.1 ∈ b)) (h4 : l.2.1 ∈ v ↔ (l.2.1 ∈ a ∧ l.2.1 ∈ b)) {x : Int} (hx : 0 ≤ x) :
    (if leaves u l then x else 0) + (if leaves v l then x else 0) ≤ (if leaves a l then x else 0) + (if leaves b l then x else 0) := by
  by_cases p : l.1 ∈ a <;> by_cases q : l.1 ∈ b <;> by_cases r : l.2.1 ∈ a <;> by_cases s : l.2.1 ∈ b <;> simp [leaves, h1, h2, h3, h4, p, q, r, s] <;> omega

def orP (a b : List Int) (i : Nat) : Bool := decide ((i : Int) ∈ a) || decide ((i : Int) ∈ b)
def andP (a b : List Int) (i : Nat) : Bool := decide ((i : Int) ∈ a) && decide ((i : Int) ∈ b)

theorem or_mem {a b : List Int} {k : Nat} {x : Int} (h0 : 0 ≤ x) (h1 : x < (k : Int)) : x ∈ pick (orP a b) k ↔ (x ∈ a ∨ x ∈ b) := by
  obtain ⟨i, rfl⟩ := Int.eq_ofNat_of_zero_le h0
  rw [pick_mem]
  constructor
  · rintro ⟨j, _, hp, e⟩
    have : j = i := by omega
    subst this
    simpa [orP] using hp
  · intro h
    exact ⟨i, by omega, by simpa [orP] using h, rfl⟩
theorem and_mem {a b : List Int} {k : Nat} {x : Int} (h0 : 0 ≤ x) (h1 : x < (k : Int)) : x ∈ pick (andP a b) k ↔ (x ∈ a ∧ x ∈ b) := by
  obtain ⟨i, rfl⟩ := Int.eq_ofNat_of_zero_le h0
  rw [pick_mem]
  constructor
  · rintro ⟨j, _, hp, e⟩
    have : j = i := by omega
    subst this
    simpa [andP] using hp
  · intro h
    exact ⟨i, by omega, by simpa [andP] using h, rfl⟩

theorem wk_pair {vn : Nat} {L : List Lk} {caps : List Int} (a b : List Int) (h : mayG (vn : Nat) L = true) (c : capsB L caps = true) : ∀ k, k ≤ L.length → wk L caps (pick (orP a b) vn) k + wk L caps (pick (andP a b) vn) k ≤ wk L caps a k + wk L caps b k
  | 0, _ => by simp [wk]
  | k + 1, hk => by
    have ih := wk_pair a b h c k (by omega)
    obtain ⟨j0, j1, j2, j3, _⟩ := may_joins h (i := k) (by omega)
    have := leaves_pair (l := at3 L k) (or_mem (a := a) (b := b) j0 j1) (or_mem (a := a) (b := b) j2 j3) (and_mem (a := a) (b := b) j0 j1) (and_mem (a := a) (b := b) j2 j3) ((capsB_parts c).2 k (by omega)).1
    simp only [wk]
    omega

/-- All vertices. -/
def allP (_ : Nat) : Bool := true
theorem all_mem {k : Nat} {x : Int} (h0 : 0 ≤ x) (h1 : x < (k : Int)) : x ∈ pick allP k := by
  obtain ⟨i, rfl⟩ := Int.eq_ofNat_of_zero_le h0
  exact pick_mem.2 ⟨i, by omega, rfl, rfl⟩
theorem lv_all {vn : Nat} {L : List Lk} (h : mayG (vn : Nat) L = true) : lv L (pick allP vn) L.length = [] := by
  refine pick_none fun i hi => ?_
  obtain ⟨_, _, j2, j3, _⟩ := may_joins h hi
  simp [leaves, all_mem j2 j3]
theorem lv_nil (L : List Lk) (k : Nat) : lv L [] k = [] := pick_none fun i _ => by simp [leaves]
theorem lv_one {V : Int} {L : List Lk} (h : mayG V L = true) (v : Int) : lv L [v] L.length = sel (fun l => l.1) L v L.length := by
  unfold lv sel
  refine pick_congr fun i hi => ?_
  obtain ⟨_, _, _, _, ne⟩ := may_joins h hi
  by_cases e : (at3 L i).1 = v
  · subst e
    have : ¬ (at3 L i).2.1 = (at3 L i).1 := fun e => ne e.symm
    simp [leaves, this]
  · simp [leaves, e]
theorem wk_all {vn : Nat} {L : List Lk} {caps : List Int} (h : mayG (vn : Nat) L = true) : wk L caps (pick allP vn) L.length = 0 := by
  rw [← gets_lv, lv_all h]; rfl
theorem verts_one {V v : Int} (h : isV V v = true) : vertsB V [v] = true := verts_mk (by simp [h]) (by simp)

end Go.Proofs.Ytlpohlcmjnlbhaa
