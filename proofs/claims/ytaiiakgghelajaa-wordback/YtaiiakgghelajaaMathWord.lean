/-
  Numbers as bytes: one length byte, then the number's bytes, the highest first. Mathematics alone.
-/
import Derived.Test.YtaiiakgghelajaaMem
import Derived.Lib.BitFns
namespace Go.Proofs.Ytaiiakgghelajaa

/-- The k lowest bytes of x, the highest of them first. -/
def bytesOf : Nat → Nat → List UInt8
  | 0, _ => []
  | k + 1, x => UInt8.ofNat (x / 256 ^ k % 256) :: bytesOf k x

def bsF : Nat → Nat → Nat
  | 0, _ => 0
  | f + 1, x => if x = 0 then 0 else 1 + bsF f (x / 256)

/-- How many bytes x takes. -/
def bsize (x : Nat) : Nat := bsF 8 x

def encW (x : Nat) : List UInt8 := UInt8.ofNat (bsize x) :: bytesOf (bsize x) x

def valW (l : List UInt8) : Nat := l.foldl (fun x b => 256 * x + b.toNat) 0

theorem bytesOf_len (k x : Nat) : (bytesOf k x).length = k := by
  induction k with
  | zero => rfl
  | succ k ih => simp [bytesOf, ih]

theorem toNat_ofNat (n : Nat) : (UInt8.ofNat n).toNat = n % 256 := by simp

theorem bytesOf_last (k x : Nat) : bytesOf (k + 1) x = bytesOf k (x / 256) ++ [UInt8.ofNat (x % 256)] := by
  induction k with
  | zero => simp [bytesOf]
  | succ k ih =>
    have h : bytesOf (k + 1 + 1) x = UInt8.ofNat (x / 256 ^ (k + 1) % 256) :: bytesOf (k + 1) x := rfl
    rw [h, ih]
    have h2 : bytesOf (k + 1) (x / 256) = UInt8.ofNat (x / 256 / 256 ^ k % 256) :: bytesOf k (x / 256) := rfl
    rw [h2, Nat.div_div_eq_div_mul, Nat.pow_succ, Nat.mul_comm 256]
    rfl

theorem valW_app (l : List UInt8) (b : UInt8) : valW (l ++ [b]) = 256 * valW l + b.toNat := by simp [valW, List.foldl_append]

theorem valW_bytes (k x : Nat) : valW (bytesOf k x) = x % 256 ^ k := by
  induction k generalizing x with
  | zero => simp [bytesOf, valW, Nat.mod_one]
  | succ k ih =>
    rw [bytesOf_last, valW_app, ih, toNat_ofNat, Nat.mod_mod, Nat.pow_succ, Nat.mul_comm (256 ^ k) 256, Nat.mod_mul]
    omega

theorem bytes_valW (l : List UInt8) : bytesOf l.length (valW l) = l := by
  have h : ∀ (n : Nat) (l : List UInt8), l.length = n → bytesOf l.length (valW l) = l := by
    intro n
    induction n with
    | zero => intro l hl; rw [List.eq_nil_of_length_eq_zero hl]; rfl
    | succ n ih =>
      intro l hl
      have hne : l ≠ [] := by intro e; rw [e] at hl; cases hl
      obtain ⟨m, b, rfl⟩ : ∃ m b, l = m ++ [b] := ⟨l.dropLast, l.getLast hne, (List.dropLast_concat_getLast hne).symm⟩
      have hm : m.length = n := by simp at hl; exact hl
      have hb : b.toNat < 256 := b.toNat_lt
      rw [valW_app, List.length_append, List.length_singleton, bytesOf_last]
      have e1 : (256 * valW m + b.toNat) / 256 = valW m := by omega
      have e2 : (256 * valW m + b.toNat) % 256 = b.toNat := by omega
      rw [e1, e2, ih m hm]
      simp
  exact h _ l rfl

theorem valW_lt (l : List UInt8) : valW l < 256 ^ l.length := by
  have h : ∀ (n : Nat) (l : List UInt8), l.length = n → valW l < 256 ^ l.length := by
    intro n
    induction n with
    | zero => intro l hl; rw [List.eq_nil_of_length_eq_zero hl]; decide
    | succ n ih =>
      intro l hl
      have hne : l ≠ [] := by intro e; rw [e] at hl; cases hl
      obtain ⟨m, b, rfl⟩ : ∃ m b, l = m ++ [b] := ⟨l.dropLast, l.getLast hne, (List.dropLast_concat_getLast hne).symm⟩
      have hm : m.length = n := by simp at hl; exact hl
      have hb : b.toNat < 256 := b.toNat_lt
      have := ih m hm
      rw [valW_app, List.length_append, List.length_singleton, Nat.pow_succ]
      omega
  exact h _ l rfl

theorem valW_fold (l : List UInt8) (x : Nat) : l.foldl (fun x b => 256 * x + b.toNat) x = x * 256 ^ l.length + valW l := by
  induction l generalizing x with
  | nil => simp [valW]
  | cons b l ih =>
    have h : valW (b :: l) = l.foldl (fun x b => 256 * x + b.toNat) (256 * 0 + b.toNat) := rfl
    rw [List.foldl_cons, ih, h, ih (256 * 0 + b.toNat), List.length_cons, Nat.pow_succ, Nat.add_mul, Nat.mul_zero, Nat.zero_add, Nat.mul_comm (256 ^ l.length) 256, ← Nat.mul_assoc, Nat.mul_comm x 256]
    omega

theorem valW_cons (b : UInt8) (l : List UInt8) : valW (b :: l) = b.toNat * 256 ^ l.length + valW l := by
  have h : valW (b :: l) = l.foldl (fun x b => 256 * x + b.toNat) (256 * 0 + b.toNat) := rfl
  rw [h, valW_fold]
  simp

/-- What is read up to a place is not more than the whole. -/
theorem valW_take_le (l : List UInt8) (k : Nat) : valW (l.take k) ≤ valW l := by
  have h : valW (l.take k ++ l.drop k) = valW (l.take k) * 256 ^ (l.drop k).length + valW (l.drop k) := by
    have : valW (l.take k ++ l.drop k) = (l.drop k).foldl (fun x b => 256 * x + b.toNat) (valW (l.take k)) := List.foldl_append ..
    rw [this, valW_fold]
  rw [List.take_append_drop] at h
  have hp : 0 < 256 ^ (l.drop k).length := Nat.pow_pos (by decide)
  have := Nat.le_mul_of_pos_right (valW (l.take k)) hp
  omega

theorem bsF_le (f x : Nat) : bsF f x ≤ f := by
  induction f generalizing x with
  | zero => simp [bsF]
  | succ f ih =>
    simp only [bsF]
    split
    · omega
    · have := ih (x / 256); omega

theorem bsF_is (f x k : Nat) (hf : k < f) (h1 : 256 ^ k ≤ x) (h2 : x < 256 ^ (k + 1)) : bsF f x = k + 1 := by
  induction f generalizing x k with
  | zero => omega
  | succ f ih =>
    have hp : 0 < 256 ^ k := Nat.pow_pos (by decide)
    simp only [bsF]
    rw [if_neg (by omega)]
    cases k with
    | zero =>
      have h3 : x / 256 = 0 := by simp at h2; omega
      rw [h3]
      cases f <;> simp [bsF]
    | succ k =>
      rw [ih (x / 256) k (by omega) (by rw [Nat.pow_succ] at h1; omega) (by rw [Nat.pow_succ] at h2; omega)]
      omega

theorem bsize_le (x : Nat) : bsize x ≤ 8 := bsF_le 8 x

theorem bsize_zero : bsize 0 = 0 := rfl

theorem bsF_bd (f x : Nat) (hx : x < 256 ^ f) : x < 256 ^ bsF f x ∧ (x ≠ 0 → 0 < bsF f x ∧ 256 ^ (bsF f x - 1) ≤ x) := by
  induction f generalizing x with
  | zero =>
    have : x = 0 := by simp at hx; exact hx
    subst this
    simp [bsF]
  | succ f ih =>
    simp only [bsF]
    by_cases h0 : x = 0
    · subst h0
      simp
    · rw [if_neg h0]
      obtain ⟨h1, h2⟩ := ih (x / 256) (by rw [Nat.pow_succ] at hx; omega)
      refine ⟨?_, fun _ => ⟨by omega, ?_⟩⟩
      · rw [Nat.add_comm, Nat.pow_succ]
        omega
      · by_cases h3 : x / 256 = 0
        · have : bsF f (x / 256) = 0 := by rw [h3]; cases f <;> simp [bsF]
          rw [this]
          simp
          omega
        · obtain ⟨h4, h5⟩ := h2 h3
          have : 1 + bsF f (x / 256) - 1 = (bsF f (x / 256) - 1) + 1 := by omega
          rw [this, Nat.pow_succ]
          omega

theorem bsize_bd (x : Nat) (hx : x < 18446744073709551616) : x < 256 ^ bsize x ∧ (x ≠ 0 → 0 < bsize x ∧ 256 ^ (bsize x - 1) ≤ x) := bsF_bd 8 x (by simpa using hx)

theorem bitLen_zero : Lib.bitLen 0 = 0 := rfl

theorem bytes_of_bits (x : Nat) (hx : x < 18446744073709551616) : (Lib.bitLen x + 7) / 8 = bsize x := by
  have h : ∀ (f x : Nat), x < 256 ^ f → x < 18446744073709551616 → (Lib.bitLen x + 7) / 8 = bsF f x := by
    intro f
    induction f with
    | zero =>
      intro x hx _
      have : x = 0 := by simp at hx; exact hx
      subst this
      rfl
    | succ f ih =>
      intro x hx h64
      simp only [bsF]
      by_cases h0 : x = 0
      · subst h0; rfl
      · rw [if_neg h0]
        by_cases h1 : x < 256
        · have h3 : x / 256 = 0 := by omega
          rw [h3]
          have h4 := Lib.bitLen_le8 ⟨x, h1⟩
          have h5 := Lib.bitLen_half x h0 h64
          simp only at h4
          have h6 : bsF f 0 = 0 := by cases f <;> simp [bsF]
          rw [h6]
          omega
        · rw [Lib.bitLen_shift8 x (by omega) h64, ← ih (x / 256) (by rw [Nat.pow_succ] at hx; omega) (by omega)]
          omega
  exact h 8 x (by simpa using hx) hx

theorem bitLen_le (x : Nat) (hx : x < 18446744073709551616) : Lib.bitLen x ≤ 64 := by
  have h := bytes_of_bits x hx
  have := bsize_le x
  omega

/-- What the front of the bytes l says: the number, how many bytes, and the error's number. -/
def getV (l : List UInt8) : Int × Nat × Int :=
  if l.length = 0 then (0, 0, 301)
  else if 8 < (l[0]?.getD 0).toNat then (0, 0, 300)
  else if l.length - 1 < (l[0]?.getD 0).toNat then (0, 0, 301)
  else if 0 < (l[0]?.getD 0).toNat ∧ (l[1]?.getD 0).toNat = 0 then (0, 0, 300)
  else if 4611686018427387904 < valW ((l.drop 1).take (l[0]?.getD 0).toNat) then (0, 0, 300)
  else (valW ((l.drop 1).take (l[0]?.getD 0).toNat), 1 + (l[0]?.getD 0).toNat, 0)

def gotX (l : List UInt8) : Int := (getV l).1
def gotK (l : List UInt8) : Nat := (getV l).2.1
def gotE (l : List UInt8) : Int := (getV l).2.2

def allF : Nat → List UInt8 → List Int × Int
  | 0, _ => ([], 0)
  | f + 1, l => if l = [] then ([], 0) else if gotE l = 0 then
      (if (allF f (l.drop (gotK l))).2 = 0 then (gotX l :: (allF f (l.drop (gotK l))).1, 0) else ([], (allF f (l.drop (gotK l))).2)) else ([], gotE l)

def rate62 (x : Int) : Prop := 0 ≤ x ∧ x ≤ 4611686018427387904

theorem got_ok (l : List UInt8) (h : gotE l = 0) : 0 < gotK l ∧ gotK l ≤ l.length ∧ gotK l ≤ 9 ∧ rate62 (gotX l) ∧ encW (gotX l).toNat = l.take (gotK l) := by
  unfold gotE at h
  unfold gotK gotX
  unfold getV at h ⊢
  cases l with
  | nil => simp at h
  | cons m r =>
    simp only [List.length_cons, List.getElem?_cons_zero, Option.getD_some, List.getElem?_cons_succ, Nat.add_one_sub_one, List.drop_succ_cons, List.drop_zero, Nat.add_eq_zero_iff, Nat.one_ne_zero, and_false, if_false] at h ⊢
    by_cases h1 : 8 < m.toNat
    · simp [h1] at h
    · by_cases h2 : r.length < m.toNat
      · simp [h1, h2] at h
      · by_cases h3 : 0 < m.toNat ∧ (r[0]?.getD 0).toNat = 0
        · simp [h1, h2, h3] at h
        · by_cases h4 : 4611686018427387904 < valW (r.take m.toNat)
          · simp [h1, h2, h3, h4] at h
          · rw [if_neg h1, if_neg h2, if_neg h3, if_neg h4]
            have hl : (r.take m.toNat).length = m.toNat := by simp; omega
            have hv := valW_lt (r.take m.toNat)
            rw [hl] at hv
            refine ⟨by simp; omega, by simp; omega, by simp; omega, ⟨by simp, by simp; omega⟩, ?_⟩
            have hb : bsize (valW (r.take m.toNat)) = m.toNat := by
              rcases Nat.eq_zero_or_pos m.toNat with e | e
              · rw [e]; rfl
              · obtain ⟨k, hk⟩ : ∃ k, m.toNat = k + 1 := ⟨m.toNat - 1, by omega⟩
                cases r with
                | nil => simp at h2; omega
                | cons d r =>
                  simp only [List.getElem?_cons_zero, Option.getD_some, not_and] at h3
                  have hd := h3 e
                  have hlow : 256 ^ k ≤ valW ((d :: r).take m.toNat) := by
                    rw [hk, List.take_succ_cons, valW_cons]
                    have hlen : (r.take k).length = k := by rw [hk] at hl; simpa using hl
                    rw [hlen]
                    have : 1 * 256 ^ k ≤ d.toNat * 256 ^ k := Nat.mul_le_mul_right _ (by omega)
                    omega
                  rw [hk] at hv hlow ⊢
                  exact bsF_is 8 _ k (by omega) hlow hv
            show encW (valW (r.take m.toNat) : Int).toNat = _
            rw [Int.toNat_natCast]
            unfold encW
            rw [hb, Nat.add_comm 1, List.take_succ_cons]
            have hb2 := bytes_valW (r.take m.toNat)
            rw [hl] at hb2
            rw [hb2]
            simp

theorem got_bad (l : List UInt8) : gotE l = 0 ∨ gotE l = 300 ∨ gotE l = 301 := by
  unfold gotE getV
  repeat' split
  all_goals simp

theorem got_bad0 (l : List UInt8) (h : gotE l ≠ 0) : gotX l = 0 ∧ gotK l = 0 := by
  revert h
  unfold gotE gotX gotK getV
  repeat' split
  all_goals simp

theorem enc_len (x : Nat) : (encW x).length = 1 + bsize x := by simp [encW, bytesOf_len, Nat.add_comm]

theorem got_enc (x : Nat) (r : List UInt8) (hx : x ≤ 4611686018427387904) : getV (encW x ++ r) = ((x : Int), 1 + bsize x, 0) := by
  have h8 := bsize_le x
  obtain ⟨hb1, hb2⟩ := bsize_bd x (by omega)
  have hm : (UInt8.ofNat (bsize x)).toNat = bsize x := by rw [toNat_ofNat]; omega
  have hv : valW (bytesOf (bsize x) x) = x := by rw [valW_bytes, Nat.mod_eq_of_lt hb1]
  have ht : (bytesOf (bsize x) x ++ r).take (bsize x) = bytesOf (bsize x) x := List.take_left' (bytesOf_len _ _)
  unfold getV encW
  simp only [List.cons_append, List.length_cons, List.getElem?_cons_zero, Option.getD_some, List.getElem?_cons_succ, Nat.add_one_sub_one, List.drop_succ_cons, List.drop_zero, Nat.add_eq_zero_iff, Nat.one_ne_zero, and_false, if_false, hm, ht, hv, List.length_append, bytesOf_len]
  rw [if_neg (by omega), if_neg (by omega), if_neg, if_neg (by omega)]
  rintro ⟨h0, h1⟩
  obtain ⟨k, hk⟩ : ∃ k, bsize x = k + 1 := ⟨bsize x - 1, by omega⟩
  rw [hk] at h1 hb1
  have hxz : x ≠ 0 := by intro e; rw [e, bsize_zero] at h0; omega
  obtain ⟨_, h3⟩ := hb2 hxz
  rw [hk, Nat.add_one_sub_one] at h3
  simp only [bytesOf, List.cons_append, List.getElem?_cons_zero, Option.getD_some, toNat_ofNat, Nat.mod_mod] at h1
  have hp : 0 < 256 ^ k := Nat.pow_pos (by decide)
  have h4 : x / 256 ^ k < 256 := Nat.div_lt_of_lt_mul (by rw [Nat.pow_succ] at hb1; exact hb1)
  have h5 : 0 < x / 256 ^ k := Nat.div_pos h3 hp
  omega

def encAll (xs : List Int) : List UInt8 := xs.flatMap fun x => encW x.toNat

theorem encAll_app (xs ys : List Int) : encAll (xs ++ ys) = encAll xs ++ encAll ys := List.flatMap_append

theorem encAll_one (x : Int) : encAll [x] = encW x.toNat := by simp [encAll]

theorem encAll_len (xs : List Int) : (encAll xs).length ≤ 9 * xs.length ∧ xs.length ≤ (encAll xs).length := by
  induction xs with
  | nil => simp [encAll]
  | cons x xs ih =>
    have h : encAll (x :: xs) = encW x.toNat ++ encAll xs := List.flatMap_cons
    have := bsize_le x.toNat
    rw [h, List.length_append, enc_len, List.length_cons]
    omega

theorem all_enc (f : Nat) (xs : List Int) (hx : ∀ x ∈ xs, rate62 x) (hf : (encAll xs).length ≤ f) : allF f (encAll xs) = (xs, 0) := by
  induction xs generalizing f with
  | nil => cases f <;> simp [allF, encAll]
  | cons x xs ih =>
    have h : encAll (x :: xs) = encW x.toNat ++ encAll xs := List.flatMap_cons
    rw [h, List.length_append, enc_len] at hf
    obtain ⟨h0, h1⟩ := hx x (by simp)
    have hg := got_enc x.toNat (encAll xs) (by omega)
    rw [h]
    cases f with
    | zero => omega
    | succ f =>
      have hK : gotK (encW x.toNat ++ encAll xs) = 1 + bsize x.toNat := by unfold gotK; rw [hg]
      have hX : gotX (encW x.toNat ++ encAll xs) = x := by unfold gotX; rw [hg]; simp; omega
      have hE : gotE (encW x.toNat ++ encAll xs) = 0 := by unfold gotE; rw [hg]
      have hd : (encW x.toNat ++ encAll xs).drop (1 + bsize x.toNat) = encAll xs := List.drop_left' (enc_len _)
      simp only [allF]
      rw [if_neg (by simp [encW]), if_pos hE, hK, hX, hd, ih f (fun y hy => hx y (by simp [hy])) (by omega)]
      simp

theorem all_back (f : Nat) (l : List UInt8) (hf : l.length ≤ f) (h : (allF f l).2 = 0) : (∀ x ∈ (allF f l).1, rate62 x) ∧ encAll (allF f l).1 = l := by
  induction f generalizing l with
  | zero =>
    have : l = [] := List.eq_nil_of_length_eq_zero (by omega)
    subst this
    simp [allF, encAll]
  | succ f ih =>
    simp only [allF] at h ⊢
    by_cases h1 : l = []
    · subst h1; simp [encAll]
    · by_cases h2 : gotE l = 0
      · obtain ⟨a1, a2, a3, a4, a5⟩ := got_ok l h2
        rw [if_neg h1, if_pos h2] at h ⊢
        by_cases h3 : (allF f (l.drop (gotK l))).2 = 0
        · obtain ⟨b1, b2⟩ := ih (l.drop (gotK l)) (by simp; omega) h3
          rw [if_pos h3]
          refine ⟨fun x hx => ?_, ?_⟩
          · rcases List.mem_cons.1 hx with rfl | hx
            · exact a4
            · exact b1 x hx
          · have hh : encAll (gotX l :: (allF f (l.drop (gotK l))).1) = encW (gotX l).toNat ++ encAll (allF f (l.drop (gotK l))).1 := List.flatMap_cons
            show encAll (gotX l :: (allF f (l.drop (gotK l))).1) = l
            rw [hh, a5, b2, List.take_append_drop]
        · rw [if_neg h3] at h
          exact absurd h h3
      · rw [if_neg h1, if_neg h2] at h
        exact absurd h h2

theorem all_len (f : Nat) (l : List UInt8) (hf : l.length ≤ f) : (allF f l).1.length ≤ l.length := by
  by_cases h : (allF f l).2 = 0
  · have := (encAll_len (allF f l).1).2
    rw [(all_back f l hf h).2] at this
    exact this
  · have : (allF f l).1 = [] := by
      cases f with
      | zero => rfl
      | succ f =>
        revert h
        simp only [allF]
        repeat' split
        all_goals simp
    rw [this]
    simp

def rateB (x : Int) : Bool := decide (0 ≤ x) && decide (x ≤ 4611686018427387904)

def putL (xs : List Int) : List UInt8 := if xs.all rateB = true then encAll xs else []
def putE (xs : List Int) : Int := if xs.all rateB = true then 0 else 300

theorem rateB_iff (x : Int) : rateB x = true ↔ rate62 x := by simp [rateB, rate62]

end Go.Proofs.Ytaiiakgghelajaa
