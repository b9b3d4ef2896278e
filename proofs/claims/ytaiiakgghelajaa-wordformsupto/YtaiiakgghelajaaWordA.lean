/-
  Package word, and its reference: Put. Contracts at every input that fits.
-/
import Derived.Test.YtaiiakgghelajaaBytes
import Derived.Test.YtaiiakgghelajaaMathWord
import Derived.Ground.NamesProg
import Derived.Shelf.Lay
import Derived.Shelf.Strconv.Itoa0
namespace Go.Proofs
open Go.Shelf
shelf_lay Lays.n129 Nm 129 at Try as Try.laysLen64
end Go.Proofs
namespace Go.Proofs.Ytaiiakgghelajaa
open Go.RowKit Go.Shelf

def intOf : Value → Int
  | .int _ m => m
  | _ => 0

theorem Len64_any (x : Nat) (w : World) (hx : x < 18446744073709551616) : Calls Try.prog 25 #[.int .u64 (x : Int)] w fun e w' => e = .returned (.int .i64 (Lib.bitLen x : Nat)) ∧ w' = w := by
  have h := Any.bits_Len64 Try.laysLen64 (x : Int) w (by omega) (by omega)
  exact h

/-- The row out grew by the bytes of x. -/
def AppPost (w : World) (base : Nat) (v : Value) (n : Nat) (l : List UInt8) (e : Ending) (w' : World) : Prop :=
  ∃ v', e = .returned v' ∧ MineE byteE w' base v' n l ∧ w.grownBy w' v.ownBlock ∧ (v'.ownBlock = v.ownBlock ∨ ∃ g, w.heap.size ≤ g ∧ v'.ownBlock = some g)

def AppRel (w : World) (base : Nat) (v : Value) (n x : Nat) (l : List UInt8) (o i : Value) (wr : World) : Prop :=
  ∃ (k : Nat) (ys : List UInt8), k ≤ bsize x ∧ i = .int .i64 ((k : Int) - 1) ∧ ys ++ bytesOf k x = l ++ encW x ∧ MineE byteE wr base o (n + 1 + (bsize x - k)) ys ∧ w.grownBy wr v.ownBlock ∧ (o.ownBlock = v.ownBlock ∨ ∃ g, w.heap.size ≤ g ∧ o.ownBlock = some g)

theorem grown_then {a b c : World} {r r' : Option Nat} (h : a.grownBy b r) (k : b.grownBy c r') (hr : r' = r ∨ ∃ g, a.heap.size ≤ g ∧ r' = some g) : a.grownBy c r :=
  ⟨k.os.trans h.os, k.tape.trans h.tape, k.output.trans h.output, Nat.le_trans h.size k.size, fun i hi hne => (k.block i (Nat.lt_of_lt_of_le hi h.size) (by
    rcases hr with e | ⟨g, hg, e⟩
    · rw [e]; exact hne
    · rw [e]; intro e2; injection e2 with e2; omega)).trans (h.block i hi hne)⟩

theorem grown0 {a b : World} (o : Obj) {r : Option Nat} (h : a.grownBy b r) : a.grownBy (b.alloc o) r := grown_alloc h o

theorem own_then {a b : Nat} {x y z : Option Nat} (hab : a ≤ b) (h : y = x ∨ ∃ g, a ≤ g ∧ y = some g) (k : z = y ∨ z = some b) : z = x ∨ ∃ g, a ≤ g ∧ z = some g := by
  rcases k with rfl | rfl
  · exact h
  · exact .inr ⟨_, hab, rfl⟩

theorem MineE.grow' {α : Type} {E : Elt α} {w : World} {base : Nat} {v : Value} {n : Nat} {xs : List α} (h : MineE E w base v n xs) (o : Obj) : MineE E (w.alloc o) base v n xs := h.kept (grow0 w o)

theorem appendRate_any (x : Nat) (v : Value) (n : Nat) (l : List UInt8) (w : World) {base : Nat} (h : MineE byteE w base v n l) (hbase : base ≤ w.heap.size) (hx : x < 18446744073709551616) (hn : n + 9 ≤ 200000000000000) :
    Calls Try.prog 21 #[v, .int .u64 (x : Int)] w (AppPost w base v (n + 1 + bsize x) (l ++ encW x)) := by
  have hb8 := bsize_le x
  have hbits := bytes_of_bits x hx
  have hbl := bitLen_le x hx
  have HM := Lib.hid h
  have HB := Lib.hid hbits
  clear h hbits
  go_enter Try.func21, Try.ntmps21
  go_wp2_with fail
  refine (Len64_any x w hx).mono ?_
  rintro e w1 ⟨rfl, rfl⟩
  generalize Lib.bitLen x = bl at *
  have HC : Hid (((bl : Int) + 7) / 8 = ((UInt8.ofNat (bsize x)).toNat : Int)) := by
    have := HB.out
    rw [toNat_ofNat]
    show _ = _
    omega
  have HD : Hid ((w1.alloc (.cells #[.int .u8 (((bl : Int) + 7) / 8)] 5)).cell? ⟨w1.heap.size, 0, none⟩ = some (.int .u8 ((UInt8.ofNat (bsize x)).toNat : Int))) := by
    rw [← HC.out]
    exact (Own.new w1 5 [.int .u8 (((bl : Int) + 7) / 8)]).cell 0
  have HM1 := Lib.hid (HM.out.grow' (.cells #[.int .u8 (((bl : Int) + 7) / 8)] 5))
  have hsz1 : (w1.alloc (.cells #[.int .u8 (((bl : Int) + 7) / 8)] 5)).heap.size = w1.heap.size + 1 := by simp
  have HG1 := Lib.hid (grow0 w1 (.cells #[.int .u8 (((bl : Int) + 7) / 8)] 5))
  go_wp2_with (first | (at_builtin; refine wpList_appB _ rfl _ _ rfl base _ n l rfl HM1.out w1.heap.size 1 (UInt8.ofNat (bsize x)) rfl HD.out (by omega) (by omega) ?_))
  intro v2 w2 hmine2 hg2 hat2
  have HS : Hid (AppRel w1 base v n x l v2 (.int .i64 (((bl : Int) + 7) / 8 - 1)) w2) := by
    refine ⟨bsize x, l ++ [UInt8.ofNat (bsize x)], Nat.le_refl _, ?_, ?_, ?_, ?_, ?_⟩
    · have := HB.out
      congr 1
      omega
    · simp [encW]
    · rw [Nat.sub_self]; exact hmine2
    · exact grown_then (grown0 _ (World.grownBy.refl w1 _)) hg2 (.inl rfl)
    · exact own_then (by omega) (.inl rfl) hat2
  clear hmine2 hg2 hat2 HM1 HD HC HM
  go_wp2
  go_loopw [0, 6] (fun o i wr => AppRel w1 base v n x l o i wr) (fun _ i _ => (intOf i + 1).toNat)
  case atStart => exact HS.out
  case round =>
    clear HS
    obtain ⟨k, ys, hk, rfl, hys, hmine, hg, hat⟩ := hrel
    have HM := Lib.hid hmine
    have HY := Lib.hid hys
    have HG := Lib.hid hg
    have HA := Lib.hid hat
    have hsz := hg.size
    clear hmine hys hg hat
    cases k with
    | zero =>
      go_wp2
      go_ret
      have e : ys = l ++ encW x := by simpa [bytesOf] using HY.out
      exact ⟨_, rfl, by have h := HM.out; rw [e] at h; exact h, HG.out, HA.out⟩
    | succ k =>
      have HC : Hid ((x : Int) / 2 ^ (8 * k) % 256 = ((UInt8.ofNat (x / 256 ^ k % 256)).toNat : Int)) := by
        rw [toNat_ofNat, Nat.mod_mod, show (256 : Nat) ^ k = 2 ^ (8 * k) by rw [Nat.pow_mul]]
        show _ = _
        simp
      have HD : Hid ((wr.alloc (.cells #[.int .u8 ((x : Int) / 2 ^ (8 * k) % 256)] 5)).cell? ⟨wr.heap.size, 0, none⟩ = some (.int .u8 ((UInt8.ofNat (x / 256 ^ k % 256)).toNat : Int))) := by
        rw [← HC.out]
        exact (Own.new wr 5 [.int .u8 ((x : Int) / 2 ^ (8 * k) % 256)]).cell 0
      have HM1 := Lib.hid (HM.out.grow' (.cells #[.int .u8 ((x : Int) / 2 ^ (8 * k) % 256)] 5))
      have hsz2 : (wr.alloc (.cells #[.int .u8 ((x : Int) / 2 ^ (8 * k) % 256)] 5)).heap.size = wr.heap.size + 1 := by simp
      go_wp2_with (first | (at_builtin; refine wpList_appB _ rfl _ _ rfl base _ _ ys rfl HM1.out wr.heap.size 1 (UInt8.ofNat (x / 256 ^ k % 256)) rfl HD.out (by omega) (by omega) ?_))
      intro v3 w3 hmine3 hg3 hat3
      have HR : Hid (AppRel w1 base v n x l v3 (.int .i64 ((k : Int) - 1)) w3) := by
        refine ⟨k, ys ++ [UInt8.ofNat (x / 256 ^ k % 256)], by omega, rfl, ?_, ?_, ?_, ?_⟩
        · rw [← HY.out]; simp [bytesOf]
        · have e : n + 1 + (bsize x - k) = n + 1 + (bsize x - (k + 1)) + 1 := by omega
          rw [e]; exact hmine3
        · exact grown_then (grown0 _ HG.out) hg3 HA.out
        · exact own_then (by omega) HA.out hat3
      clear hmine3 hg3 hat3 HM1 HD HC HM HY HA HG
      go_wp2
      go_roundw
      case rel => exact HR.out
      case measure => simp [intOf]

end Go.Proofs.Ytaiiakgghelajaa
