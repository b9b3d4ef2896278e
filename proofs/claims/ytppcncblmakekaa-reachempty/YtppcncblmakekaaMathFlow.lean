/-
  Flows, as numbers: gains of vertices, room of arcs, moving a rate over arcs. No program here.
-/
import Derived.Test.YtppcncblmakekaaWithinA
import Derived.Test.YtppcncblmakekaaMathCaps
import Derived.Test.YtppcncblmakekaaMathArcs
set_option maxRecDepth 20000
namespace Go.Proofs.Ytppcncblmakekaa

def outP (L : List Lk) (f : List Int) (v : Int) (k : Nat) : Int := if (at3 L k).1 = v then f[k]?.getD 0 else 0
def inP (L : List Lk) (f : List Int) (v : Int) (k : Nat) : Int := if (at3 L k).2.1 = v then f[k]?.getD 0 else 0
def gk (L : List Lk) (f : List Int) (v : Int) : Nat → Int
  | 0 => 0
  | k + 1 => gk L f v k + outP L f v k - inP L f v k
def gainOf (L : List Lk) (f : List Int) (v : Int) : Int := gk L f v L.length
def fitsF (V : Int) (L : List Lk) (caps f : List Int) : Bool := mayG V L && capsB L caps && ratesB caps f
def valB (V : Int) (L : List Lk) (f : List Int) (s : Int) : Bool := mayG V L && capsB L f && isV V s
def valX (V : Int) (L : List Lk) (f : List Int) (s : Int) : Int := if valB V L f s then gainOf L f s else 0
def valE (V : Int) (L : List Lk) (f : List Int) (s : Int) : Int := if valB V L f s then 0 else 900
def restB (L : List Lk) (f : List Int) (s t : Int) (v : Nat) : Bool := ((v : Int) == s) || ((v : Int) == t) || (gainOf L f v == 0)
def flowB (V : Int) (L : List Lk) (caps f : List Int) (s t : Int) : Bool :=
  fitsF V L caps f && (isV V s && isV V t) && !(s == t) && decide (0 ≤ gainOf L f s) && (List.range V.toNat).all (restB L f s t)
def roomI (caps f : List Int) (a : Int) : Int := if a % 2 = 0 then caps[(a / 2).toNat]?.getD 0 - f[(a / 2).toNat]?.getD 0 else f[(a / 2).toNat]?.getD 0
def roomB (V : Int) (L : List Lk) (caps f : List Int) (a : Int) : Bool := fitsF V L caps f && isV (2 * (L.length : Int)) a
def roomX (V : Int) (L : List Lk) (caps f : List Int) (a : Int) : Int := if roomB V L caps f a then roomI caps f a else 0
def roomE (V : Int) (L : List Lk) (caps f : List Int) (a : Int) : Int := if roomB V L caps f a then 0 else 900
def rateF (b : Int) : Bool := decide (0 ≤ b) && decide (b ≤ 4611686018427387904)
def newI (f : List Int) (b a : Int) : Int := if a % 2 = 0 then f[(a / 2).toNat]?.getD 0 + b else f[(a / 2).toNat]?.getD 0 - b
def stepM (caps : List Int) (b : Int) (f : List Int) (a : Int) : Option (List Int) := if roomI caps f a < b then none else some (f.set (a / 2).toNat (newI f b a))
def movK (caps : List Int) (b : Int) : List Int → List Int → Option (List Int)
  | f, [] => some f
  | f, a :: r => match stepM caps b f a with | none => none | some g => movK caps b g r
def formM (V : Int) (L : List Lk) (caps f : List Int) (b : Int) (rs : List Int) : Bool := fitsF V L caps f && rateF b && decide (rs.length ≤ 64) && allV (2 * (L.length : Int)) rs
def movE (V : Int) (L : List Lk) (caps f : List Int) (b : Int) (rs : List Int) : Int := if formM V L caps f b rs then (if (movK caps b f rs).isSome then 0 else 901) else 900
def movV (V : Int) (L : List Lk) (caps f : List Int) (b : Int) (rs : List Int) : List Int := if formM V L caps f b rs then (movK caps b f rs).getD [] else []

theorem caps_in {L : List Lk} {caps f : List Int} (h : capsB L caps = true) (k : ratesB caps f = true) : capsB L f = true := by
  rw [← own_caps]
  obtain ⟨a, b⟩ := capsB_parts h
  obtain ⟨c, d⟩ := ratesB_parts k
  refine ratesB_mk (by rw [own_len]; omega) fun i hi => ?_
  rw [own_len] at hi
  have h1 := b i hi
  have h2 := d i (by omega)
  have h3 : capI (ownC L) i = (at3 L i).2.2 := own_get L i
  omega

theorem fits_parts {V : Int} {L : List Lk} {caps f : List Int} (h : fitsF V L caps f = true) : mayG V L = true ∧ capsB L caps = true ∧ ratesB caps f = true ∧ capsB L f = true := by
  simp only [fitsF, Bool.and_eq_true] at h
  exact ⟨h.1.1, h.1.2, h.2, caps_in h.1.2 h.2⟩

theorem f_bd {L : List Lk} {f : List Int} (c : capsB L f = true) {k : Nat} (hk : k < L.length) : 0 ≤ f[k]?.getD 0 ∧ f[k]?.getD 0 ≤ (at3 L k).2.2 := (capsB_parts c).2 k hk

theorem gk_bd {L : List Lk} {f : List Int} (v : Int) (c : capsB L f = true) : ∀ k, k ≤ L.length → 0 ≤ capSum L k ∧ -capSum L k ≤ gk L f v k ∧ gk L f v k ≤ capSum L k
  | 0, _ => by simp [gk, capSum]
  | k + 1, hk => by
    have h1 := gk_bd v c k (by omega)
    have h2 := f_bd c (k := k) (by omega)
    simp only [gk, capSum, outP, inP]
    split <;> split <;> omega

theorem gain_room {V : Int} {L : List Lk} {f : List Int} (v : Int) (h : mayG V L = true) (c : capsB L f = true) {k : Nat} (hk : k < L.length) :
    -4611686018427387904 ≤ gk L f v k ∧ gk L f v k ≤ 4611686018427387904 ∧ 0 ≤ f[k]?.getD 0 ∧ gk L f v k + f[k]?.getD 0 ≤ 4611686018427387904 ∧ -4611686018427387904 ≤ gk L f v k - f[k]?.getD 0 := by
  have h1 := gk_bd v c k (by omega)
  have h2 := f_bd c hk
  have h3 := may_sum h (k + 1) (by omega)
  simp only [capSum] at h3
  omega

theorem gain_bd {V : Int} {L : List Lk} {f : List Int} (v : Int) (h : mayG V L = true) (c : capsB L f = true) : -4611686018427387904 ≤ gainOf L f v ∧ gainOf L f v ≤ 4611686018427387904 := by
  have h1 := gk_bd v c L.length (Nat.le_refl _)
  have h3 := may_sum h L.length (Nat.le_refl _)
  unfold gainOf
  omega

theorem gk_out {L : List Lk} {f : List Int} {v : Int} {k : Nat} (h : (at3 L k).1 = v) (n : ¬ (at3 L k).2.1 = v) : gk L f v (k + 1) = gk L f v k + f[k]?.getD 0 := by simp [gk, outP, inP, h, n]
theorem gk_in {L : List Lk} {f : List Int} {v : Int} {k : Nat} (h : ¬ (at3 L k).1 = v) (n : (at3 L k).2.1 = v) : gk L f v (k + 1) = gk L f v k - f[k]?.getD 0 := by simp [gk, outP, inP, h, n]
theorem gk_none {L : List Lk} {f : List Int} {v : Int} {k : Nat} (h : ¬ (at3 L k).1 = v) (n : ¬ (at3 L k).2.1 = v) : gk L f v (k + 1) = gk L f v k := by simp [gk, outP, inP, h, n]

theorem val_no {V : Int} {L : List Lk} {f : List Int} {s : Int} (h : valB V L f s = false) : valX V L f s = 0 ∧ valE V L f s = 900 := by simp [valX, valE, h]
theorem val_yes {V : Int} {L : List Lk} {f : List Int} {s : Int} (h : valB V L f s = true) : valX V L f s = gainOf L f s ∧ valE V L f s = 0 := by simp [valX, valE, h]
theorem room_no {V : Int} {L : List Lk} {caps f : List Int} {a : Int} (h : roomB V L caps f a = false) : roomX V L caps f a = 0 ∧ roomE V L caps f a = 900 := by simp [roomX, roomE, h]
theorem room_yes {V : Int} {L : List Lk} {caps f : List Int} {a : Int} (h : roomB V L caps f a = true) : roomX V L caps f a = roomI caps f a ∧ roomE V L caps f a = 0 := by simp [roomX, roomE, h]
theorem mov_form {V : Int} {L : List Lk} {caps f rs : List Int} {b : Int} (h : formM V L caps f b rs = false) : movE V L caps f b rs = 900 ∧ movV V L caps f b rs = [] := by simp [movE, movV, h]
theorem mov_none {V : Int} {L : List Lk} {caps f rs : List Int} {b : Int} (h : formM V L caps f b rs = true) (k : movK caps b f rs = none) : movE V L caps f b rs = 901 ∧ movV V L caps f b rs = [] := by simp [movE, movV, h, k]
theorem mov_some {V : Int} {L : List Lk} {caps f rs g : List Int} {b : Int} (h : formM V L caps f b rs = true) (k : movK caps b f rs = some g) : movE V L caps f b rs = 0 ∧ movV V L caps f b rs = g := by simp [movE, movV, h, k]

/-- An arc of link i: there (even) or back. -/
theorem arc_cases {n : Nat} {a : Int} (h : isV (2 * (n : Int)) a = true) : ∃ i : Nat, i < n ∧ (a / 2).toNat = i ∧ a.tdiv 2 = (i : Int) ∧ ((a % 2 = 0 ∧ a.tmod 2 = 0 ∧ a = 2 * (i : Int)) ∨ (a % 2 = 1 ∧ a.tmod 2 = 1 ∧ a = 2 * (i : Int) + 1)) := by
  simp only [isV, Bool.and_eq_true, decide_eq_true_eq] at h
  obtain ⟨h0, h1⟩ := h
  have e1 : a.tdiv 2 = a / 2 := Int.tdiv_eq_ediv_of_nonneg h0
  have e2 : a.tmod 2 = a % 2 := Int.tmod_eq_emod_of_nonneg h0
  refine ⟨(a / 2).toNat, by omega, rfl, by rw [e1]; omega, ?_⟩
  rw [e2]
  omega

theorem rates_at {caps f : List Int} (h : ratesB caps f = true) {i : Nat} (hi : i < caps.length) : 0 ≤ f[i]?.getD 0 ∧ f[i]?.getD 0 ≤ caps[i]?.getD 0 := (ratesB_parts h).2 i hi

theorem put_same (ms : List Int) (i : Nat) (hi : i < ms.length) : ms.set i (ms[i]?.getD 0) = ms := by simp [hi]

theorem put_get {ms : List Int} {i : Nat} (hi : i < ms.length) (x : Int) (j : Nat) : (ms.set i x)[j]?.getD 0 = if j = i then x else ms[j]?.getD 0 := by
  rw [List.getElem?_set]
  by_cases e : i = j
  · subst e; simp [hi]
  · rw [if_neg e, if_neg (fun h => e h.symm)]

theorem step_even {caps f : List Int} {b a : Int} {i : Nat} (hi : (a / 2).toNat = i) (h : a % 2 = 0) : stepM caps b f a = if caps[i]?.getD 0 - f[i]?.getD 0 < b then none else some (f.set i (f[i]?.getD 0 + b)) := by
  simp [stepM, roomI, newI, hi, h]
theorem step_odd {caps f : List Int} {b a : Int} {i : Nat} (hi : (a / 2).toNat = i) (h : a % 2 = 1) : stepM caps b f a = if f[i]?.getD 0 < b then none else some (f.set i (f[i]?.getD 0 - b)) := by
  simp [stepM, roomI, newI, hi, h]

theorem step_room {caps f : List Int} {b a : Int} (h : roomI caps f a < b) : stepM caps b f a = none := by rw [stepM, if_pos h]
theorem step_goes {caps f : List Int} {b a : Int} (h : ¬ roomI caps f a < b) : stepM caps b f a = some (f.set (a / 2).toNat (newI f b a)) := by rw [stepM, if_neg h]

theorem set_rates {caps f : List Int} (h : ratesB caps f = true) {i : Nat} (hi : i < caps.length) {x : Int} (h0 : 0 ≤ x) (h1 : x ≤ caps[i]?.getD 0) : ratesB caps (f.set i x) = true := by
  obtain ⟨a, b⟩ := ratesB_parts h
  refine ratesB_mk (by simpa using a) fun j hj => ?_
  have := b j hj
  simp only [capI] at this ⊢
  rw [put_get (by omega)]
  by_cases e : j = i
  · subst e; simp; omega
  · rw [if_neg e]; exact this

theorem step_keeps {n : Nat} {caps f g : List Int} {b a : Int} (hn : caps.length = n) (ha : isV (2 * (n : Int)) a = true) (hb : 0 ≤ b) (h : ratesB caps f = true) (e : stepM caps b f a = some g) : ratesB caps g = true := by
  obtain ⟨i, hi, hd, _, ⟨hm, _⟩ | ⟨hm, _⟩⟩ := arc_cases ha
  · rw [step_even hd hm] at e
    have := rates_at h (i := i) (by omega)
    split at e
    · cases e
    · have e := Option.some.inj e
      subst e
      exact set_rates h (by omega) (by omega) (by omega)
  · rw [step_odd hd hm] at e
    have := rates_at h (i := i) (by omega)
    split at e
    · cases e
    · have e := Option.some.inj e
      subst e
      exact set_rates h (by omega) (by omega) (by omega)

theorem mov_step {caps f g rs : List Int} {b : Int} {k : Nat} (hk : k < rs.length) (e : stepM caps b f (rs[k]?.getD 0) = some g) : movK caps b f (rs.drop k) = movK caps b g (rs.drop (k + 1)) := by
  rw [List.drop_eq_getElem_cons hk]
  rw [List.getElem?_eq_getElem hk, Option.getD_some] at e
  simp [movK, e]
theorem mov_stop {caps f rs : List Int} {b : Int} {k : Nat} (hk : k < rs.length) (e : stepM caps b f (rs[k]?.getD 0) = none) : movK caps b f (rs.drop k) = none := by
  rw [List.drop_eq_getElem_cons hk]
  rw [List.getElem?_eq_getElem hk, Option.getD_some] at e
  simp [movK, e]
theorem mov_end {caps f rs : List Int} {b : Int} {k : Nat} (hk : rs.length ≤ k) : movK caps b f (rs.drop k) = some f := by
  rw [List.drop_eq_nil_of_le hk, movK]

def flipA (a : Int) : Int := if a % 2 = 0 then a + 1 else a - 1
def backA (rs : List Int) : List Int := rs.reverse.map flipA

theorem flip_isV {n : Nat} {a : Int} (h : isV (2 * (n : Int)) a = true) : isV (2 * (n : Int)) (flipA a) = true := by
  simp only [isV, Bool.and_eq_true, decide_eq_true_eq] at h ⊢
  unfold flipA
  by_cases e : a % 2 = 0
  · rw [if_pos e]; omega
  · rw [if_neg e]; omega

theorem step_back {n : Nat} {caps f g : List Int} {b a : Int} (hn : caps.length = n) (ha : isV (2 * (n : Int)) a = true) (h : ratesB caps f = true) (e : stepM caps b f a = some g) : stepM caps b g (flipA a) = some f := by
  have hl := (ratesB_parts h).1
  obtain ⟨i, hi, hd, _, ⟨hm, _, rfl⟩ | ⟨hm, _, rfl⟩⟩ := arc_cases ha
  · rw [step_even hd hm] at e
    have h0 := rates_at h (i := i) (by omega)
    split at e
    · cases e
    · have e := Option.some.inj e
      subst e
      have ef : flipA (2 * (i : Int)) = 2 * (i : Int) + 1 := by simp [flipA, hm]
      rw [ef, step_odd (i := i) (by omega) (by omega), put_get (by omega), if_pos rfl, if_neg (by omega), List.set_set]
      have : f[i]?.getD 0 + b - b = f[i]?.getD 0 := by omega
      rw [this, put_same f i (by omega)]
  · rw [step_odd hd hm] at e
    have h0 := rates_at h (i := i) (by omega)
    split at e
    · cases e
    · have e := Option.some.inj e
      subst e
      have ef : flipA (2 * (i : Int) + 1) = 2 * (i : Int) := by unfold flipA; rw [if_neg (by omega)]; omega
      rw [ef, step_even (i := i) (by omega) (by omega), put_get (by omega), if_pos rfl, if_neg (by omega), List.set_set]
      have : f[i]?.getD 0 - b + b = f[i]?.getD 0 := by omega
      rw [this, put_same f i (by omega)]

theorem mov_app {caps : List Int} {b : Int} : ∀ {xs ys f g : List Int}, movK caps b f xs = some g → movK caps b f (xs ++ ys) = movK caps b g ys
  | [], ys, f, g, h => by
    have h := Option.some.inj h
    subst h
    rfl
  | a :: r, ys, f, g, h => by
    rw [List.cons_append, movK]
    rw [movK] at h
    cases hs : stepM caps b f a with
    | none => rw [hs] at h; cases h
    | some g1 => rw [hs] at h; exact mov_app h

theorem mov_back {n : Nat} {caps : List Int} {b : Int} (hn : caps.length = n) (hb : 0 ≤ b) : ∀ {rs f g : List Int}, allV (2 * (n : Int)) rs = true → ratesB caps f = true → movK caps b f rs = some g → movK caps b g (backA rs) = some f ∧ ratesB caps g = true
  | [], f, g, _, hr, h => by
    have h := Option.some.inj h
    subst h
    exact ⟨rfl, hr⟩
  | a :: r, f, g, ha, hr, h => by
    rw [movK] at h
    simp only [allV, List.all_cons, Bool.and_eq_true] at ha
    cases hs : stepM caps b f a with
    | none => rw [hs] at h; cases h
    | some g1 =>
      rw [hs] at h
      obtain ⟨i1, i2⟩ := mov_back hn hb ha.2 (step_keeps hn ha.1 hb hr hs) h
      refine ⟨?_, i2⟩
      have e : backA (a :: r) = backA r ++ [flipA a] := by simp [backA]
      rw [e, mov_app i1, movK, step_back hn ha.1 hr hs]
      rfl

theorem back_form {V : Int} {L : List Lk} {caps f g rs : List Int} {b : Int} (h : formM V L caps f b rs = true) (k : movK caps b f rs = some g) : formM V L caps g b (backA rs) = true ∧ movK caps b g (backA rs) = some f := by
  simp only [formM, Bool.and_eq_true, decide_eq_true_eq, rateF] at h
  obtain ⟨⟨⟨a, b1, b2⟩, c⟩, d⟩ := h
  obtain ⟨p1, p2, p3, _⟩ := fits_parts a
  have hc := (capsB_parts p2).1
  obtain ⟨q1, q2⟩ := mov_back hc b1 d p3 k
  refine ⟨?_, q1⟩
  have hv : allV (2 * (L.length : Int)) (backA rs) = true := by
    refine List.all_eq_true.2 fun x hx => ?_
    simp only [backA, List.mem_map, List.mem_reverse] at hx
    obtain ⟨y, hy, rfl⟩ := hx
    exact flip_isV (List.all_eq_true.1 d y hy)
  have hl : (backA rs).length ≤ 64 := by simpa [backA] using c
  simp [formM, fitsF, rateF, p1, p2, q2, b1, b2, hv, hl]

theorem mov_len {caps : List Int} {b : Int} : ∀ {rs f g : List Int}, movK caps b f rs = some g → g.length = f.length
  | [], f, g, h => by
    have h := Option.some.inj h
    rw [h]
  | a :: r, f, g, h => by
    rw [movK] at h
    cases hs : stepM caps b f a with
    | none => rw [hs] at h; cases h
    | some g1 =>
      rw [hs] at h
      rw [mov_len h]
      unfold stepM at hs
      split at hs
      · cases hs
      · have hs := Option.some.inj hs
        rw [← hs, List.length_set]

def sumN (g : Nat → Int) : Nat → Int
  | 0 => 0
  | k + 1 => sumN g k + g k

theorem sumN_add (g h : Nat → Int) : ∀ m, sumN (fun v => g v + h v) m = sumN g m + sumN h m
  | 0 => rfl
  | m + 1 => by simp only [sumN, sumN_add g h m]; omega
theorem sumN_le {g h : Nat → Int} (k : ∀ v, g v ≤ h v) : ∀ m, sumN g m ≤ sumN h m
  | 0 => Int.le_refl _
  | m + 1 => by have := sumN_le k m; have := k m; simp only [sumN]; omega
theorem sumN_ind (a x : Int) : ∀ m : Nat, sumN (fun v => if a = (v : Int) then x else 0) m = if 0 ≤ a ∧ a < m then x else 0
  | 0 => by rw [sumN, if_neg (by omega)]
  | m + 1 => by
    rw [sumN, sumN_ind a x m]
    by_cases e : a = (m : Int)
    · have e1 : ¬ (0 ≤ a ∧ a < (m : Int)) := by omega
      have e2 : 0 ≤ a ∧ a < ((m + 1 : Nat) : Int) := by omega
      rw [if_neg e1, if_pos e, if_pos e2]; omega
    · rw [if_neg e, Int.add_zero]
      by_cases h : 0 ≤ a ∧ a < (m : Int)
      · have e2 : 0 ≤ a ∧ a < ((m + 1 : Nat) : Int) := by omega
        rw [if_pos h, if_pos e2]
      · have e2 : ¬ (0 ≤ a ∧ a < ((m + 1 : Nat) : Int)) := by omega
        rw [if_neg h, if_neg e2]

/-- What lies on the first k links together. -/
def totF (f : List Int) : Nat → Int
  | 0 => 0
  | k + 1 => totF f k + f[k]?.getD 0
def og (L : List Lk) (f : List Int) (v : Int) : Nat → Int
  | 0 => 0
  | k + 1 => og L f v k + outP L f v k
def ig (L : List Lk) (f : List Int) (v : Int) : Nat → Int
  | 0 => 0
  | k + 1 => ig L f v k + inP L f v k

theorem gk_parts (L : List Lk) (f : List Int) (v : Int) : ∀ k, gk L f v k = og L f v k - ig L f v k
  | 0 => rfl
  | k + 1 => by simp only [gk, og, ig, gk_parts L f v k]; omega
theorem parts_nonneg {L : List Lk} {f : List Int} (v : Int) (c : capsB L f = true) : ∀ k, k ≤ L.length → 0 ≤ og L f v k ∧ 0 ≤ ig L f v k
  | 0, _ => by simp [og, ig]
  | k + 1, hk => by
    have h1 := parts_nonneg v c k (by omega)
    have h2 := f_bd c (k := k) (by omega)
    simp only [og, ig, outP, inP]
    constructor <;> split <;> omega
theorem tot_bd {L : List Lk} {f : List Int} (c : capsB L f = true) : ∀ k, k ≤ L.length → 0 ≤ totF f k ∧ totF f k ≤ capSum L k
  | 0, _ => by simp [totF, capSum]
  | k + 1, hk => by
    have h1 := tot_bd c k (by omega)
    have h2 := f_bd c (k := k) (by omega)
    simp only [totF, capSum]
    omega
theorem sum_out {L : List Lk} {f : List Int} (c : capsB L f = true) (m : Nat) : ∀ k, k ≤ L.length → sumN (fun v => og L f v k) m ≤ totF f k ∧ ((∀ i, i < k → 0 ≤ (at3 L i).1 ∧ (at3 L i).1 < m) → sumN (fun v => og L f v k) m = totF f k)
  | 0, _ => by
    have e : ∀ m, sumN (fun v : Nat => og L f v 0) m = 0 := by
      intro m
      induction m with
      | zero => rfl
      | succ m ih => rw [sumN, ih]; rfl
    rw [e]; simp [totF]
  | k + 1, hk => by
    obtain ⟨h1, h2⟩ := sum_out c m k (by omega)
    have h3 := f_bd c (k := k) (by omega)
    have e : sumN (fun v => og L f v (k + 1)) m = sumN (fun v => og L f v k) m + (if 0 ≤ (at3 L k).1 ∧ (at3 L k).1 < m then f[k]?.getD 0 else 0) := by
      rw [← sumN_ind, ← sumN_add]; rfl
    rw [e, totF]
    constructor
    · split <;> omega
    · intro h
      rw [h2 fun i hi => h i (by omega), if_pos (h k (by omega))]
theorem sum_in {L : List Lk} {f : List Int} (c : capsB L f = true) (m : Nat) : ∀ k, k ≤ L.length → sumN (fun v => ig L f v k) m ≤ totF f k ∧ ((∀ i, i < k → 0 ≤ (at3 L i).2.1 ∧ (at3 L i).2.1 < m) → sumN (fun v => ig L f v k) m = totF f k)
  | 0, _ => by
    have e : ∀ m, sumN (fun v : Nat => ig L f v 0) m = 0 := by
      intro m
      induction m with
      | zero => rfl
      | succ m ih => rw [sumN, ih]; rfl
    rw [e]; simp [totF]
  | k + 1, hk => by
    obtain ⟨h1, h2⟩ := sum_in c m k (by omega)
    have h3 := f_bd c (k := k) (by omega)
    have e : sumN (fun v => ig L f v (k + 1)) m = sumN (fun v => ig L f v k) m + (if 0 ≤ (at3 L k).2.1 ∧ (at3 L k).2.1 < m then f[k]?.getD 0 else 0) := by
      rw [← sumN_ind, ← sumN_add]; rfl
    rw [e, totF]
    constructor
    · split <;> omega
    · intro h
      rw [h2 fun i hi => h i (by omega), if_pos (h k (by omega))]

def plusK (L : List Lk) (f : List Int) (k : Nat) : Int := sumN (fun v => if 0 < gainOf L f v then gainOf L f v else 0) k
def minusK (L : List Lk) (f : List Int) (k : Nat) : Int := sumN (fun v => if 0 < gainOf L f v then 0 else -gainOf L f v) k

theorem plus_bd {V : Int} {L : List Lk} {f : List Int} (h : mayG V L = true) (c : capsB L f = true) (k : Nat) : 0 ≤ plusK L f k ∧ plusK L f k ≤ 4611686018427387904 ∧ 0 ≤ minusK L f k ∧ minusK L f k ≤ 4611686018427387904 := by
  have n := Nat.le_refl L.length
  have b0 := tot_bd c L.length n
  have b1 := may_sum h L.length n
  have z : ∀ k : Nat, sumN (fun _ => 0) k = 0 := by
    intro k
    induction k with
    | zero => rfl
    | succ k ih => rw [sumN, ih]; rfl
  have hp : ∀ v : Nat, (if 0 < gainOf L f v then gainOf L f v else 0) ≤ og L f v L.length := by
    intro v
    have p := parts_nonneg (v : Int) c L.length n
    have e : gainOf L f v = og L f v L.length - ig L f v L.length := gk_parts L f v L.length
    split <;> omega
  have hm : ∀ v : Nat, (if 0 < gainOf L f v then 0 else -gainOf L f v) ≤ ig L f v L.length := by
    intro v
    have p := parts_nonneg (v : Int) c L.length n
    have e : gainOf L f v = og L f v L.length - ig L f v L.length := gk_parts L f v L.length
    split <;> omega
  have a1 := sumN_le hp k
  have a2 := sumN_le hm k
  have a3 := (sum_out c k L.length n).1
  have a4 := (sum_in c k L.length n).1
  have a5 : (0 : Int) ≤ plusK L f k := by
    rw [← z k]; exact sumN_le (fun v => by split <;> omega) k
  have a6 : (0 : Int) ≤ minusK L f k := by
    rw [← z k]; exact sumN_le (fun v => by split <;> omega) k
  unfold plusK minusK at *
  omega

theorem plus_yes {L : List Lk} {f : List Int} {k : Nat} (h : 0 < gainOf L f k) : plusK L f (k + 1) = plusK L f k + gainOf L f k ∧ minusK L f (k + 1) = minusK L f k := by
  unfold plusK minusK
  rw [sumN, sumN, if_pos h, if_pos h]
  omega
theorem plus_no {L : List Lk} {f : List Int} {k : Nat} (h : ¬ 0 < gainOf L f k) : plusK L f (k + 1) = plusK L f k ∧ minusK L f (k + 1) = minusK L f k - gainOf L f k := by
  unfold plusK minusK
  rw [sumN, sumN, if_neg h, if_neg h]
  omega

theorem plus_minus {V : Int} {L : List Lk} {f : List Int} (h : mayG V L = true) (c : capsB L f = true) : plusK L f V.toNat = minusK L f V.toNat := by
  have n := Nat.le_refl L.length
  have j := fun i (hi : i < L.length) => may_joins h hi
  have e1 := (sum_out c V.toNat L.length n).2 fun i hi => by have := j i hi; omega
  have e2 := (sum_in c V.toNat L.length n).2 fun i hi => by have := j i hi; omega
  have e3 : sumN (fun v => (if 0 < gainOf L f v then gainOf L f v else 0) + ig L f v L.length) V.toNat = sumN (fun v => (if 0 < gainOf L f v then 0 else -gainOf L f v) + og L f v L.length) V.toNat := by
    congr 1
    funext v
    have e : gainOf L f v = og L f v L.length - ig L f v L.length := gk_parts L f v L.length
    split <;> omega
  rw [sumN_add, sumN_add, e1, e2] at e3
  unfold plusK minusK
  omega

end Go.Proofs.Ytppcncblmakekaa
