/-
  Rows of paths: read, copied, compared. Rows of paths compared; rates together; whether paths are sound; meters in a row. bundle.Loads. The reference's Rate and Loads. bundle.May, and the reference's BundleMay. Fits; the reference's Fits.
-/
import Derived.Test.YtlpohlcmjnlbhaaMathBundle
import Derived.Test.YtlpohlcmjnlbhaaJD
import Derived.Test.YtlpohlcmjnlbhaaJC
import Derived.Test.YtlpohlcmjnlbhaaJF

set_option maxRecDepth 20000
namespace Go.Proofs.Ytlpohlcmjnlbhaa
open Go.RowKit

abbrev PH := Int × Option Addr × Nat × Nat

def pathE : Elt PH where
  z := (0, none, 0, 0)
  enc p := [.int .i64 p.1, .slice p.2.1 p.2.2.1 p.2.2.2]
  T := 66
  L := 27
  size := 2
  bytes := 32
  len _ := rfl
  one _ u hu := by
    simp only [List.mem_cons, List.not_mem_nil, or_false] at hu
    rcases hu with rfl | rfl <;> rfl
  pos := by decide
  und := Try.underlying27
  info := by kernel_rfl

/-- A row of paths: rates, and rows of links. -/
structure Pths (w : World) (B : Nat) (A : Option Addr) (n : Nat) (ps : List Pth) : Prop where
  len : ps.length = n
  small : n ≤ 9223372036854775807
  ok : ∀ i : Nat, bd64 (rt ps i)
  at_ : ∀ i, i < n → ∃ b off X m d, A = some ⟨b, off, none⟩ ∧ b < B ∧ w.cell? ⟨b, off + i * 2, none⟩ = some (.int .i64 (rt ps i)) ∧ w.cell? ⟨b, off + i * 2 + 1, none⟩ = some (.slice X m d) ∧ Row w B X m (lk ps i)

theorem Pths.keep {w w' : World} {B : Nat} {A : Option Addr} {n : Nat} {ps : List Pth} (h : Pths w B A n ps) (k : ∀ p : Addr, p.block < B → w'.cell? p = w.cell? p) : Pths w' B A n ps :=
  ⟨h.len, h.small, h.ok, fun i hi => by
    obtain ⟨b, off, X, m, d, hA, hb, c0, c1, hr⟩ := h.at_ i hi
    exact ⟨b, off, X, m, d, hA, hb, (k _ hb).trans c0, (k _ hb).trans c1, hr.keep k⟩⟩

theorem Pths.grown {w w' : World} {B : Nat} {A : Option Addr} {n : Nat} {ps : List Pth} (h : Pths w B A n ps) (hB : B ≤ w.heap.size) (k : w.grownBy w' none) : Pths w' B A n ps :=
  h.keep fun _ hp => grown_cell k (by omega) (by simp)

theorem Pths.grown' {w w' : World} {B : Nat} {A : Option Addr} {n : Nat} {ps : List Pth} {row : Option Nat} (h : Pths w B A n ps) (hB : B ≤ w.heap.size) (k : w.grownBy w' row) (hr : ∀ g, row = some g → B ≤ g) : Pths w' B A n ps :=
  h.keep fun p hp => grown_cell k (by omega) (fun e => by have := hr _ e; omega)

theorem Pths.wide {w : World} {B B' : Nat} {A : Option Addr} {n : Nat} {ps : List Pth} (h : Pths w B A n ps) (k : B ≤ B') : Pths w B' A n ps :=
  ⟨h.len, h.small, h.ok, fun i hi => by
    obtain ⟨b, off, X, m, d, hA, hb, c0, c1, hr⟩ := h.at_ i hi
    exact ⟨b, off, X, m, d, hA, by omega, c0, c1, hr.wide k⟩⟩

/-- What is known of the places of a row of paths that came in. -/
def Bds (w : World) (A : Option Addr) (n : Nat) : Prop :=
  ∀ i, i < n → ∀ b off X m d, A = some ⟨b, off, none⟩ → w.cell? ⟨b, off + i * 2 + 1, none⟩ = some (.slice X m d) → m ≤ d ∧ d * 8 ≤ 140737488351232 ∧ (X = none → d = 0)

def InP (w : World) (A : Option Addr) (n c : Nat) (ps : List Pth) : Prop := Pths w w.heap.size A n ps ∧ n ≤ c ∧ c * 32 ≤ 140737488351232 ∧ (A = none → c = 0) ∧ Bds w A n

def hdr (hs : List PH) (i : Nat) : PH := hs[i]?.getD (0, none, 0, 0)

def PartP (w : World) (base : Nat) (o : Value) (h : PH) (p : Pth) : Prop :=
  h.1 = p.1 ∧ Mine w base (.slice h.2.1 h.2.2.1 h.2.2.2) h.2.2.1 p.2 ∧ Apart o (.slice h.2.1 h.2.2.1 h.2.2.2)

def CPRel (w : World) (n : Nat) (ps : List Pth) (o i : Value) (wr : World) : Prop :=
  ∃ (k : Nat) (hs : List PH), k ≤ n ∧ i = .int .i64 (k : Nat) ∧ w.grownBy wr none ∧ MineE pathE wr w.heap.size o k hs ∧ ∀ j, j < k → PartP wr w.heap.size o (hdr hs j) (at2 ps j)

theorem part_step {w w' : World} {base : Nat} {o o' : Value} {h : PH} {p : Pth} (t : PartP w base o h p) (k : w.grownBy w' o.ownBlock) (c : o'.ownBlock = o.ownBlock ∨ o'.ownBlock = some w.heap.size) : PartP w' base o' h p :=
  ⟨t.1, t.2.1.kept' k (fun g hg e => t.2.2 g e hg), apart_new t.2.2 t.2.1.own_lt c⟩

theorem part_kept {w w' : World} {base : Nat} {o : Value} {h : PH} {p : Pth} (t : PartP w base o h p) (k : w.grownBy w' none) : PartP w' base o h p := ⟨t.1, t.2.1.kept k, t.2.2⟩

theorem copied {w : World} {base : Nat} {o : Value} {n : Nat} {hs : List PH} {ps : List Pth} (h : MineE pathE w base o n hs) (hl : ps.length = n) (hsm : n ≤ 9223372036854775807) (hok : ∀ i, bd64 (rt ps i)) (hoks : ∀ i, i < n → okI (lk ps i)) (hp : ∀ j, j < n → PartP w base o (hdr hs j) (at2 ps j)) :
    ∃ A c, o = .slice A n c ∧ Pths w w.heap.size A n ps := by
  obtain ⟨A, c, hv, _, _, hr⟩ := h.row
  refine ⟨A, c, hv, hl, hsm, hok, fun i hi => ?_⟩
  obtain ⟨b, off, hA, hb, hc⟩ := hr.at_ (by omega)
  obtain ⟨e1, e2, _⟩ := hp i hi
  refine ⟨b, off, (hdr hs i).2.1, (hdr hs i).2.2.1, (hdr hs i).2.2.2, hA, hb, ?_, hc i hi 1 _ rfl, e2.rowAt (hoks i hi)⟩
  have := hc i hi 0 _ rfl
  rw [Nat.add_zero] at this
  rw [show rt ps i = (hdr hs i).1 from e1.symm]
  exact this

def CopyPPost (w : World) (n : Nat) (ps : List Pth) (e : Ending) (w' : World) : Prop :=
  ∃ A c, e = .returned (.slice A n c) ∧ Pths w' w'.heap.size A n ps ∧ w.grownBy w' none

theorem hdr_old {hs : List PH} {h : PH} {j : Nat} (hj : j < hs.length) : hdr (hs ++ [h]) j = hdr hs j := by simp [hdr, List.getElem?_append_left hj]
theorem hdr_new {hs : List PH} {h : PH} {k : Nat} (hk : hs.length = k) : hdr (hs ++ [h]) k = h := by subst hk; simp [hdr]

theorem held2 {w w1 : World} {b i j : Nat} {x y : Value} (g : w.grownBy w1 none) (h : (fun w' : World => w'.cell? ⟨b, i, none⟩ = some x ∧ w'.cell? ⟨b, j, none⟩ = some y) w) :
    (fun w' : World => w'.cell? ⟨b, i, none⟩ = some x ∧ w'.cell? ⟨b, j, none⟩ = some y) w1 := ⟨kept g h.1, kept g h.2⟩

theorem held2' {w w1 : World} {row : Option Nat} {b i j : Nat} {x y : Value} (g : w.grownBy w1 row) (hr : row ≠ some b) (h : (fun w' : World => w'.cell? ⟨b, i, none⟩ = some x ∧ w'.cell? ⟨b, j, none⟩ = some y) w) :
    (fun w' : World => w'.cell? ⟨b, i, none⟩ = some x ∧ w'.cell? ⟨b, j, none⟩ = some y) w1 := ⟨far g hr h.1, far g hr h.2⟩

theorem step_appE2 {α : Type} (E : Elt α) {ops : Array Oper} {o : Oper} {a : Act} {w : World} {K : Act → World → Prop} {Q : Exit → Act → World → Prop} {F : Prop} (hgd : o.guard = none) (s x : Operand)
    (ho : o.op = .call { callee := .builtin .append, args := #[s, x], argTypes := #[E.L, E.L] }) (base : Nat) (v : Value) (n : Nat) (ys : List α) (hs : a.eval s = v) (hown : MineE E w base v n ys)
    {B : Nat} (A : Option Addr) (m c : Nat) (xs : List α) (hx : a.eval x = .slice A m c) (hr : Elts E w B A m xs) (hnil : A = none → c = 0) (hmax : n + m ≤ maxLen) (hbytes : (n + m) * E.bytes ≤ 140737488355328) (hbase : base ≤ w.heap.size)
    (h : ∀ v' w', MineE E w' base v' (n + m) (ys ++ xs) → w.grownBy w' v.ownBlock → (v'.ownBlock = v.ownBlock ∨ v'.ownBlock = some w.heap.size) → K (a.put o.dst v') w') :
    if Region.wanted o (yielded ops a.tmps) = true then Oper.wp Try.prog o a w K Q else F := by
  have hw : Region.wanted o (yielded ops a.tmps) = true := by simp [Region.wanted, hgd]
  rw [if_pos hw]
  obtain ⟨v', w', hrun, h2, h3, h4⟩ := run_appE E w base o.type v n ys hown A m c xs hr hnil hmax hbytes hbase
  unfold Oper.wp execOp
  simp only [ho, resolve, invoke, builtin, Sem.run_bind, Sem.run_pure, Result.andThen_ok, List.map_toArray, List.map_cons, List.map_nil, hs, hx, hrun]
  exact h v' w' h2 h3 h4

end Go.Proofs.Ytlpohlcmjnlbhaa

set_option maxRecDepth 20000
namespace Go.Proofs.Ytlpohlcmjnlbhaa
open Go.RowKit

def SPRel (w : World) (n : Nat) (i : Value) (wr : World) : Prop := ∃ k : Nat, k ≤ n ∧ i = .int .i64 (k : Nat) ∧ w.grownBy wr none

def TogRel (w : World) (n : Nat) (ps : List Pth) (o i : Value) (wr : World) : Prop :=
  ∃ k : Nat, k ≤ n ∧ i = .int .i64 (k : Nat) ∧ w.grownBy wr none ∧ Mine wr w.heap.size o k (ratesOf (ps.take k))

theorem rates_app {ps : List Pth} {k : Nat} (h : k < ps.length) : ratesOf (ps.take (k + 1)) = ratesOf (ps.take k) ++ [rt ps k] := by
  rw [ptake_next h, ratesOf, List.map_append]
  rfl

theorem rates_ok {ps : List Pth} (h : ∀ i, bd64 (rt ps i)) (k : Nat) : okI (ratesOf (ps.take k)) := by
  intro i
  by_cases hi : i < (ratesOf (ps.take k)).length
  · have hi2 : i < (ps.take k).length := by simpa [ratesOf] using hi
    have hi3 : i < ps.length := by simp at hi2; omega
    rw [List.getElem?_eq_getElem hi]
    have := h i
    rw [rt, at2_eq hi3] at this
    simpa [ratesOf, bd64] using this
  · rw [List.getElem?_eq_none (by omega)]; simp

theorem together_any (A : Option Addr) (n c : Nat) (ps : List Pth) (w : World) {B : Nat} (h : Pths w B A n ps) (h16 : n ≤ 16) :
    Calls Try.prog 41 #[.slice A n c] w (Says w (.tuple #[.int .i64 (sumV (ratesOf ps)), .bool (sumB (ratesOf ps))])) := by
  have HP := Lib.hid h
  have HL := Lib.hid h.len
  clear h
  have HS : Hid (TogRel w n ps (.slice none 0 0) (.int .i64 0) w) := ⟨0, Nat.zero_le _, rfl, World.grownBy.refl w none, Mine.nil _ _⟩
  go_enter Try.func41, Try.ntmps41
  go_wp2
  go_loopw [4, 9] (fun o i wr => TogRel w n ps o i wr) (fun _ i _ => n - (intOf i).toNat)
  case atStart => exact HS.out
  case round =>
    clear HS
    obtain ⟨k, hk, rfl, hg, hmine⟩ := hrel
    have G := Lib.hid hg
    have HM := Lib.hid hmine
    by_cases hlt : k < n
    · obtain ⟨b, off, X, m, d, hA, hb, c0, c1, hrow⟩ := HP.out.at_ k hlt
      subst hA
      have hsz := hg.size
      have d0 := kept hg c0
      have d1 := kept hg c1
      have hrb := HP.out.ok k
      have HN := Lib.hid (rates_app (ps := ps) (k := k) (by rw [HL.out]; exact hlt))
      clear hg hmine c0 c1 hrow
      generalize rt ps k = r at *
      go_wp2_with (first | (at_builtin; refine wpList_app _ rfl _ _ rfl w.heap.size _ k _ rfl ((HM.out.kept (grow0 _ _)).kept (grow0 _ _)) _ 1 1 [r] rfl (Row.newAt [r] (by simp) rfl rfl (by simp) (by simp; exact hrb)) (by simp) (by omega) (by simp; omega) ?_))
      intro v1 w3 hm1 hg3 _
      have G3 := Lib.hid (grown_none (grown_alloc (grown_alloc G.out _) _) hg3 HM.out.own_ge)
      have HM3 := Lib.hid hm1
      clear hm1 hg3
      go_wp2
      go_roundw
      case rel => exact ⟨k + 1, by omega, by go_num, G3.out, by rw [HN.out]; exact HM3.out⟩
      case measure => simp [intOf]; omega
    · obtain rfl : k = n := by omega
      have e : ps.take k = ps := List.take_of_length_le (by rw [HL.out]; exact Nat.le_refl _)
      have hok := rates_ok HP.out.ok k
      rw [e] at hmine hok
      obtain ⟨A1, c1, rfl, _, hr⟩ := hmine.row hok
      have HR := Lib.hid hr
      clear hg hmine hok e hr
      go_wp2_with fail
      refine (Sum_any A1 k c1 _ _ HR.out).mono ?_
      rintro e w1 ⟨rfl, rfl⟩
      generalize sumV (ratesOf ps) = sv at *
      generalize sumB (ratesOf ps) = sb at *
      go_wp2
      go_ret2
      exact ⟨rfl, G.out⟩

theorem zero_isV {V : Int} {L : List Lk} (h : mayG V L = true) : isV V 0 = true := by
  have := may_small h
  exact isV_yes (by omega) (by omega)

theorem walk_form_is {V : Int} {L : List Lk} (h : mayG V L = true) (xs : List Int) : (walkE V L 0 xs == 600) = !linksR L.length xs := by
  have e : formW V L 0 xs = linksR L.length xs := by
    rw [formW, h, zero_isV h, linksR]
    rfl
  rw [walkE, e]
  cases linksR L.length xs
  · rfl
  · cases chain L 0 xs <;> rfl

def SoundRel (w : World) (V : Int) (A : Option Addr) (n c m : Nat) (ps : List Pth) (i : Value) (wr : World) : Prop :=
  ∃ k : Nat, k ≤ m ∧ i = .int .i64 (k : Nat) ∧ w.grownBy wr none ∧ Own wr w.heap.size 24 [.int .i64 V, .slice A n c] ∧ soundL n (ps.take k) = true

set_option maxHeartbeats 1000000 in
theorem areSound_any (V : Int) (A : Option Addr) (n c : Nat) (L : List Lk) (P : Option Addr) (m d : Nat) (ps : List Pth) (w : World) {B B' : Nat} (h : Lks w B A n L) (hB : B ≤ w.heap.size) (hp : Pths w B' P m ps) (hB' : B' ≤ w.heap.size) (hmay : mayG V L = true) :
    Calls Try.prog 58 #[.agg #[.int .i64 V, .slice A n c], .slice P m d] w (Says w (.bool (soundL n ps))) := by
  have hm := hp.small
  have HL := Lib.hid h.len
  have HLP := Lib.hid hp.len
  have HR := Lib.hid h
  have HP := Lib.hid hp
  have HMAY := Lib.hid hmay
  clear h hp hmay
  have HS : Hid (SoundRel w V A n c m ps (.int .i64 0) (w.alloc (.cells #[.int .i64 V, .slice A n c] 24))) := ⟨0, Nat.zero_le _, rfl, grow0 _ _, Own.new w 24 [.int .i64 V, .slice A n c], rfl⟩
  go_enter Try.func58, Try.ntmps58
  go_wp2
  go_loopw [11] (fun i wr => SoundRel w V A n c m ps i wr) (fun i _ => m - (intOf i).toNat)
  case atStart => exact HS.out
  case round =>
    clear HS
    obtain ⟨k, hk, rfl, hg, ob, hall⟩ := hrel
    have G := Lib.hid hg
    have HA := Lib.hid hall
    obtain ⟨c0, c1⟩ := ob.two
    have l1 := ob.lt
    have O := Lib.hid ob
    by_cases hlt : k < m
    · obtain ⟨b, off, X, q, d2, hA, hb, e0, e1, hrow⟩ := HP.out.at_ k hlt
      subst hA
      have hsz := hg.size
      have d0 := kept hg e0
      have d1 := kept hg e1
      have HN := Lib.hid (sound_take (n := n) (ps := ps) (k := k) (by rw [HLP.out]; exact hlt))
      have HX := Lib.hid (sound_stop (n := n) (ps := ps) (k := k) (by rw [HLP.out]; exact hlt))
      have HE : Hid (soundB n (at2 ps k) = (rateB (rt ps k) && linksR n (lk ps k))) := rfl
      have HW : Hid ((walkE V L 0 (lk ps k) == 600) = !linksR n (lk ps k)) := by rw [← HL.out]; exact walk_form_is HMAY.out _
      have HRB := Lib.hid (HR.out.grown hB (grown_alloc hg (.cells #[.int .i64 (rt ps k), .slice X q d2] 66)))
      have HRW := Lib.hid (hrow.grown hB' (grown_alloc hg (.cells #[.int .i64 (rt ps k), .slice X q d2] 66)))
      clear hg hall ob e0 e1 hrow
      generalize rt ps k = r at *
      generalize lk ps k = xs at *
      generalize at2 ps k = p at *
      go_wp2_with fail
      refine (Walk_any V 0 A n c L X q d2 xs _ HRB.out (by simp; omega) HRW.out (by simp; omega)).mono ?_
      rintro e w2 ⟨v, rfl, _, g2⟩
      obtain ⟨g3, o3⟩ := box1 [.int .i64 r, .slice X q d2] g2
      have G2 := Lib.hid (grown_trans G.out g3)
      have O2 := Lib.hid (O.out.kept g3)
      obtain ⟨f0, f1⟩ := o3.two
      clear g2 g3 o3 c0 c1 d0 d1 HRB HRW
      by_cases h0 : r < 0
      · have E : Hid (soundL n ps = false) := HX.out (by rw [HE.out, rateB]; simp; omega)
        clear HN HX HE HW
        generalize walkE V L 0 xs = z at *
        go_wp2
        go_ret
        exact ⟨ret_bool E.out, G2.out⟩
      · by_cases h1 : 4611686018427387904 < r
        · have E : Hid (soundL n ps = false) := HX.out (by rw [HE.out, rateB]; simp; omega)
          clear HN HX HE HW
          generalize walkE V L 0 xs = z at *
          go_wp2
          go_ret
          exact ⟨ret_bool E.out, G2.out⟩
        · have hrb : Hid (rateB r = true) := by simp [Hid, rateB]; omega
          cases hl : linksR n xs
          · have E : Hid (soundL n ps = false) := HX.out (by rw [HE.out, hl]; simp)
            have hz : (walkE V L 0 xs == 600) = true := by rw [HW.out, hl]; rfl
            clear HN HX HE HW hl
            generalize walkE V L 0 xs = z at *
            go_wp2
            go_ret
            exact ⟨ret_bool E.out, G2.out⟩
          · have E : Hid (soundL n (ps.take (k + 1)) = true) := by rw [Hid, HN.out, HA.out, HE.out, hl, hrb.out]; rfl
            have hz : (walkE V L 0 xs == 600) = false := by rw [HW.out, hl]; rfl
            clear HN HX HE HW hl
            generalize walkE V L 0 xs = z at *
            go_wp2
            go_roundw
            case rel => exact ⟨k + 1, by omega, by go_num, G2.out, O2.out, E.out⟩
            case measure => simp [intOf]; omega
    · obtain rfl : k = m := by omega
      have E : Hid (soundL n ps = true) := by
        have := HA.out
        rwa [List.take_of_length_le (by rw [HLP.out]; exact Nat.le_refl _)] at this
      clear hg hall ob
      go_wp2
      go_ret
      exact ⟨ret_bool E.out, G.out⟩

theorem TotalAt_any (g i : Nat) (t : Int) (w : World) (hc : w.cell? ⟨g, i, none⟩ = some (.int .i64 t)) :
    Calls Try.prog 60 #[.pointer (some ⟨g, i, none⟩)] w fun e w' => e = .returned (.int .i64 t) ∧ w = w' := by
  go_enter Try.func60, Try.ntmps60
  go_wp2
  go_ret
  exact ⟨rfl, rfl⟩

def AddAtPost (w : World) (g i : Nat) (T : TypeId) (ms xs : List Int) (t : Int) (e : Ending) (w' : World) : Prop :=
  e = .returned (.bool (addB t xs)) ∧ Own w' g T (ints (ms.set i (addV t xs))) ∧ w.grownBy w' (some g)

theorem set_same (ms : List Int) (i : Nat) (hi : i < ms.length) : ms.set i (ms[i]?.getD 0) = ms := by simp [hi]

theorem MeterAddAt_any (g i : Nat) (T : TypeId) (ms : List Int) (A : Option Addr) (n c : Nat) (xs : List Int) (w : World) {B : Nat} (h : Row w B A n xs)
    (ho : Own w g T (ints ms)) (hi : i < ms.length) (h0 : 0 ≤ ms[i]?.getD 0) (h1 : ms[i]?.getD 0 ≤ 4611686018427387904) :
    Calls Try.prog 59 #[.pointer (some ⟨g, i, none⟩), .slice A n c] w (AddAtPost w g i T ms xs (ms[i]?.getD 0)) := by
  have hc : w.cell? ⟨g, i, none⟩ = some (.int .i64 (ms[i]?.getD 0)) := by rw [ho.cell i, ints_get ms i hi]
  have hf : w.frozen? ⟨g, i, none⟩ = false := ho.frozen i
  have hg := ho.lt
  have HO := Lib.hid ho
  have HR := Lib.hid h
  have hb := sumV_bd xs
  have HSM := Lib.hid (set_same ms i hi)
  clear ho h hi
  generalize ms[i]?.getD 0 = t at *
  cases hs : sumB xs with
  | false =>
    have HS := Lib.hid hs
    clear hs
    go_enter Try.func59, Try.ntmps59
    go_wp2_with fail
    refine (Sum_any A n c xs _ HR.out).mono ?_
    rintro e w' ⟨rfl, rfl⟩
    rw [HS.out]
    go_wp2
    go_ret
    have := add_none t xs h0 h1 HS.out
    refine ⟨ret_bool this.2, by rw [this.1, HSM.out]; exact HO.out, World.grownBy.refl _ _⟩
  | true =>
    have HS := Lib.hid hs
    clear hs
    have hadd := Lib.hid (add_some t xs h0 h1 HS.out)
    have HRow := Lib.hid (Row.two (w := w) t (sumV xs) (by omega) (by omega))
    go_enter Try.func59, Try.ntmps59
    go_wp2_with fail
    refine (Sum_any A n c xs _ HR.out).mono ?_
    rintro e w' ⟨rfl, rfl⟩
    rw [HS.out]
    go_wp2_with fail
    refine (Sum_any _ 2 2 [t, sumV xs] _ HRow.out).mono ?_
    rintro e w' ⟨rfl, rfl⟩
    cases hs2 : sumB [t, sumV xs] with
    | false =>
      go_wp2
      go_ret
      have := hadd.out.2 hs2
      exact ⟨ret_bool this.2, by rw [this.1, HSM.out]; exact HO.out.alloc _, World.grownBy_alloc _ _ _⟩
    | true =>
      go_wp2
      go_ret
      have := hadd.out.1 hs2
      exact ⟨ret_bool this.2, by rw [this.1, ← ints_set]; exact (HO.out.setAt _ _).alloc _, grown_alloc (grown_set (World.grownBy.refl _ _) _) _⟩

end Go.Proofs.Ytlpohlcmjnlbhaa

set_option maxRecDepth 20000
namespace Go.Proofs.Ytlpohlcmjnlbhaa
open Go.RowKit

theorem infoMeter : (Try.prog.info? 88).map (fun i => (i.zero, i.size, i.bytes)) = some (some (.agg #[.int .i64 0]), 1, 8) := by kernel_rfl

def LoRel (w : World) (gm n m : Nat) (ps : List Pth) (i : Value) (wr : World) : Prop :=
  ∃ k : Nat, k ≤ m ∧ i = .int .i64 (k : Nat) ∧ w.grownBy wr none ∧ Own wr gm 88 (ints (loadsQ n (preQ ps k 0))) ∧ fineL n (preQ ps k 0) = true

def LoIn (w : World) (gm gp n k q : Nat) (ps : List Pth) (vs : List Value) (i : Value) (wr : World) : Prop :=
  ∃ j : Nat, j ≤ q ∧ i = .int .i64 (j : Nat) ∧ w.grownBy wr none ∧ Own wr gm 88 (ints (loadsQ n (preQ ps k j))) ∧ fineL n (preQ ps k j) = true ∧ Own wr gp 66 vs

def LoOut (w : World) (gm n : Nat) (ms : List Int) (o i : Value) (wr : World) : Prop :=
  ∃ k : Nat, k ≤ n ∧ i = .int .i64 (k : Nat) ∧ w.grownBy wr none ∧ Own wr gm 88 (ints ms) ∧ Mine wr (gm + 1) o k (ms.take k)

theorem ret_sel' {v : Value} {a b : Int} (h : b = a) : Ending.returned (.tuple #[v, .int .i64 a]) = .returned (.tuple #[v, .int .i64 b]) := by rw [h]

set_option maxRecDepth 20000 in
set_option maxHeartbeats 2000000 in
theorem Loads_any (V : Int) (A : Option Addr) (n c : Nat) (L : List Lk) (P : Option Addr) (m d : Nat) (ps : List Pth) (w : World) {B B' : Nat} (h : Lks w B A n L) (hB : B ≤ w.heap.size) (hp : Pths w B' P m ps) (hB' : B' ≤ w.heap.size) :
    Calls Try.prog 36 #[.agg #[.int .i64 V, .slice A n c], .slice P m d] w (SelPost w (loadsV V L ps) (loadsE V L ps)) := by
  have hn := h.small
  have hm := hp.small
  have HL := Lib.hid h.len
  have HLP := Lib.hid hp.len
  have HR := Lib.hid h
  have HP := Lib.hid hp
  have HR1 := Lib.hid (h.grown hB (grow0 w (.cells #[.int .i64 V, .slice A n c] 24)))
  clear h hp
  go_enter Try.func36, Try.ntmps36
  go_wp2_with fail
  refine (GMay_any V A n c L _ HR1.out (by simp; omega)).mono ?_
  rintro e w1 ⟨rfl, g1⟩
  obtain ⟨g, o2⟩ := box1 [.int .i64 V, .slice A n c] g1
  obtain ⟨c0, c1⟩ := o2.two
  have G := Lib.hid g
  have O2 := Lib.hid o2
  clear g g1 o2 HR1
  cases hmay : mayG V L
  · have E := Lib.hid (loads_form (formB_may (ps := ps) hmay))
    go_wp2
    go_ret2
    exact ⟨.slice none 0 0, ret_sel E.out.1, by rw [E.out.2]; exact Mine.nil _ _, G.out⟩
  by_cases h16 : m ≤ 16
  case neg =>
    have E := Lib.hid (loads_form (formB_len (V := V) (L := L) (ps := ps) (by rw [HLP.out]; exact h16)))
    go_wp2
    go_ret2
    exact ⟨.slice none 0 0, ret_sel E.out.1, by rw [E.out.2]; exact Mine.nil _ _, G.out⟩
  go_wp2_with fail
  refine (areSound_any V A n c L P m d ps _ (HR.out.grown hB G.out) (by have := G.out.size; omega) (HP.out.grown hB' G.out) (by have := G.out.size; omega) hmay).mono ?_
  rintro e w2 ⟨rfl, g2⟩
  have O2 := Lib.hid (O2.out.kept g2)
  have G := Lib.hid (grown_trans G.out g2)
  clear g2 c0 c1
  obtain ⟨c0, c1⟩ := O2.out.two
  cases hso : soundL n ps
  · have E := Lib.hid (loads_form (formB_sound (V := V) (L := L) (ps := ps) (by rw [HL.out]; exact hso)))
    go_wp2
    go_ret2
    exact ⟨.slice none 0 0, ret_sel E.out.1, by rw [E.out.2]; exact Mine.nil _ _, G.out⟩
  have HSO := Lib.hid hso
  have HF := Lib.hid (formB_yes (V := V) (L := L) (ps := ps) hmay (by rw [HLP.out]; exact h16) (by rw [HL.out]; exact hso))
  have hn16 : n ≤ 16 := by have := may_small hmay; have := HL.out; omega
  obtain ⟨i0, hi, hz0, hz1, hz2⟩ := info_parts infoMeter
  have HI := Lib.hid hi
  have HZ0 := Lib.hid hz0
  have HZ1 := Lib.hid hz1
  have HZ2 := Lib.hid hz2
  clear hi hz0 hz1 hz2 hmay hso
  go_upto_region 3 with fail
  go_wp2_with (first | (refine wpList_make_full _ rfl _ _ 86 rfl w2.heap.size 88 i0 (.agg #[.int .i64 0]) 1 Try.underlying86 HI.out HZ0.out HZ1.out .i64 .i64 (n : Int) (n : Int) n rfl rfl rfl rfl (by rw [HZ2.out]; omega) (by unfold maxLen; omega) (Nat.le_refl _) ?_))
  intro w3 hmk k3
  rw [toList_madeCells_one, ints_zero, ← loadsQ_nil, ← preQ_zero ps] at hmk
  have OM := Lib.hid (Own.of_made hmk)
  have hgm := O2.out.lt
  have HS : Hid (LoRel w w2.heap.size n m ps (.int .i64 0) w3) := ⟨0, Nat.zero_le _, rfl, grown_trans G.out k3, OM.out, by rw [preQ_zero]; exact fine_nil n⟩
  clear hmk O2 c0 c1 HI HZ0 HZ1 HZ2 k3 OM G
  generalize w2.heap.size = gm at *
  go_wp2
  go_loopw [33] (fun i wr => LoRel w gm n m ps i wr) (fun i _ => m - (intOf i).toNat)
  case atStart => exact HS.out
  case round =>
    clear HS
    obtain ⟨k, hk, rfl, hg, om, hfine⟩ := hrel
    have G := Lib.hid hg
    have OM := Lib.hid om
    have HFI := Lib.hid hfine
    have lm := om.lt
    by_cases hlt : k < m
    · obtain ⟨b, off, X, q, d2, hA, hb, e0, e1, hrow⟩ := HP.out.at_ k hlt
      subst hA
      have hq := hrow.small
      have hsz := hg.size
      have d0 := kept hg e0
      have d1 := kept hg e1
      have HRW := Lib.hid hrow
      have HXL := Lib.hid hrow.len
      have hkl : Hid (k < ps.length) := by rw [Hid, HLP.out]; exact hlt
      obtain ⟨hrate, _, hall⟩ := sound_at HSO.out hkl.out
      have HALL := Lib.hid hall
      have HST : Hid (∀ j, j < q → preQ ps k (j + 1) = preQ ps k j ++ [(rt ps k, (lk ps k)[j]?.getD 0)]) := fun j hj => preQ_step (by rw [HXL.out]; exact hj)
      have HEND : Hid (preQ ps k q = preQ ps (k + 1) 0) := by have := preQ_row hkl.out; rwa [HXL.out] at this
      have HS : Hid (LoIn w gm wr.heap.size n k q ps [.int .i64 (rt ps k), .slice X q d2] (.int .i64 0) (wr.alloc (.cells #[.int .i64 (rt ps k), .slice X q d2] 66))) :=
        ⟨0, Nat.zero_le _, rfl, grown_alloc hg _, om.alloc _, hfine, Own.new wr 66 [.int .i64 (rt ps k), .slice X q d2]⟩
      clear hg om hfine e0 e1 hrow hall
      generalize rt ps k = r at *
      generalize lk ps k = xs at *
      go_wp2
      generalize wr.heap.size = gp at *
      go_loopw [40] (fun i wr' => LoIn w gm gp n k q ps [.int .i64 r, .slice X q d2] i wr') (fun i _ => q - (intOf i).toNat)
      case atStart => exact HS.out
      case round =>
        clear HS G OM HFI d0 d1
        obtain ⟨j, hj, rfl, hg, om, hfine, op⟩ := hrel
        have G := Lib.hid hg
        have OM := Lib.hid om
        have OP := Lib.hid op
        have lm2 := om.lt
        have lp := op.lt
        obtain ⟨f0, f1⟩ := op.two
        by_cases hlj : j < q
        · obtain ⟨px, ox, hX, hp, hcell⟩ := HRW.out.at_ (by omega)
          subst hX
          have g0 := kept hg (hcell j hlj)
          obtain ⟨l, hl, hlx⟩ := allL_get HALL.out (i := j) (by rw [HXL.out]; exact hlj)
          rw [hlx] at g0
          have HNX : Hid (preQ ps k (j + 1) = preQ ps k j ++ [(r, (l : Int))]) := by rw [Hid, HST.out j hlj, hlx]
          have HLQ := Lib.hid (loadsQ_get hl (preQ ps k j))
          have hnn := loadQ_nonneg (preQ_nonneg j hkl.out HSO.out) (l : Int)
          have hle := fine_get hfine hl
          have HLEN : Hid (l < (loadsQ n (preQ ps k j)).length) := by rw [Hid, loadsQ_len]; exact hl
          have HSET := Lib.hid (loadsQ_step hl (preQ ps k j) r)
          have HFS := Lib.hid (fine_step (r := r) hl hfine)
          have HOV := Lib.hid (over_no (n := n) (ps := ps) (i := k) (j + 1) hkl.out HSO.out hl)
          rw [HNX.out, loadQ_app] at HOV
          have HSS := Lib.hid f0
          have HRO : Hid (Row (wr.alloc (.cells #[.int .i64 r] 3)).drew (wr.heap.size + 1) (some ⟨wr.heap.size, 0, none⟩) 1 [r]) := (Row.newAt (w := wr) [r] rfl rfl rfl (by simp) (by simp; omega)).keep fun _ _ => rfl
          have GA : Hid (w.grownBy (wr.alloc (.cells #[.int .i64 r] 3)).drew none) := grown_drew (grown_alloc hg _)
          have OA : Hid (Own (wr.alloc (.cells #[.int .i64 r] 3)).drew gm 88 (ints (loadsQ n (preQ ps k j)))) := om.kept (grown_drew (grow0 _ _))
          have OPA : Hid (Own (wr.alloc (.cells #[.int .i64 r] 3)).drew gp 66 [.int .i64 r, .slice (some ⟨px, ox, none⟩) q d2]) := op.kept (grown_drew (grow0 _ _))
          have FA : Hid ((wr.alloc (.cells #[.int .i64 r] 3)).drew.cell? ⟨gp, 0, none⟩ = some (.int .i64 r)) := kept (grown_drew (grow0 _ _)) f0
          clear hg om hfine op hcell f1 OM OP
          generalize preQ ps k j = qs at *
          generalize hms : loadsQ n qs = ms at *
          clear hms
          generalize loadQ (l : Int) qs = t at *
          by_cases hc : 0 ≤ r ∧ r ≤ 4611686018427387904 - t
          · obtain ⟨ea, eb⟩ := add_one hc
            have EA := Lib.hid ea
            have EB := Lib.hid eb
            have HF2 := Lib.hid (HFS.out (by omega))
            clear ea eb HFS HOV
            go_wp2_with fail
            go_region_held3 (fun w' : World => w'.cell? ⟨gp, 0, none⟩ = some (.int .i64 r)) (first | exact HSS.out | exact kept (grow0 _ _) HSS.out | exact kept (grown_drew (grow0 _ _)) HSS.out)
              (first
                | (go_at_call 59; refine (MeterAddAt_any gm l 88 ms _ 1 1 [r] _ HRO.out OA.out HLEN.out (by rw [HLQ.out]; omega) (by rw [HLQ.out]; omega)).mono ?_; rintro e w4 ⟨he, om4, hg4⟩; rw [HLQ.out, EB.out] at he; rw [HLQ.out, EA.out] at om4; subst he; have OM4 := Lib.hid om4; have GG := Lib.hid hg4; have HSS := Lib.hid (far hg4 (by simp; omega) FA.out); clear om4 hg4))
            go_wp2
            go_roundw
            case rel => exact ⟨j + 1, by omega, by go_num, grown_none GA.out GG.out (by intro g hg; injection hg with hg; omega), by rw [HNX.out, HSET.out]; exact OM4.out, by rw [HNX.out]; exact HF2.out, OPA.out.kept' GG.out (by simp; omega)⟩
            case measure => simp [intOf]; omega
          · have EB := Lib.hid (add_one_no hc)
            have E := Lib.hid (loads_over HF.out (by rw [HL.out]; exact HOV.out (by simp only [loadQ]; simp; omega)))
            clear HFS HOV
            go_wp2_with fail
            go_region_held3 (fun w' : World => w'.cell? ⟨gp, 0, none⟩ = some (.int .i64 r)) (first | exact HSS.out | exact kept (grow0 _ _) HSS.out | exact kept (grown_drew (grow0 _ _)) HSS.out)
              (first
                | (go_at_call 59; refine (MeterAddAt_any gm l 88 ms _ 1 1 [r] _ HRO.out OA.out HLEN.out (by rw [HLQ.out]; omega) (by rw [HLQ.out]; omega)).mono ?_; rintro e w4 ⟨he, om4, hg4⟩; rw [HLQ.out, EB.out] at he; subst he; have GG := Lib.hid hg4; have HSS := Lib.hid (far hg4 (by simp; omega) FA.out); clear om4 hg4))
            go_wp2
            go_ret2
            exact ⟨.slice none 0 0, ret_sel E.out.1, by rw [E.out.2]; exact Mine.nil _ _, grown_none GA.out GG.out (by intro g hg; injection hg with hg; omega)⟩
        · obtain rfl : j = q := by omega
          rw [HEND.out] at om hfine
          have OM := Lib.hid om
          have HFI := Lib.hid hfine
          clear hg om hfine op f0 f1
          go_wp2
          go_roundw
          case rel => exact ⟨k + 1, by omega, by go_num, G.out, OM.out, HFI.out⟩
          case measure => simp [intOf]; omega
    · obtain rfl : k = m := by omega
      have e : preQ ps k 0 = pairsOf ps := by rw [← HLP.out]; exact preQ_all ps
      rw [e] at om hfine
      have HV := Lib.hid (loads_goes HF.out (by rw [HL.out]; exact hfine))
      rw [HL.out] at HV
      have HLEN := Lib.hid (loadsQ_len n (pairsOf ps))
      have HBD : Hid (∀ i : Nat, 0 ≤ (loadsQ n (pairsOf ps))[i]?.getD 0 ∧ (loadsQ n (pairsOf ps))[i]?.getD 0 ≤ 4611686018427387904) := fun i => by rw [← HV.out.2]; exact loads_bd i
      generalize hms : loadsQ n (pairsOf ps) = ms at *
      have HS : Hid (LoOut w gm n ms (.slice none 0 0) (.int .i64 0) wr) := ⟨0, Nat.zero_le _, rfl, hg, om, Mine.nil _ _⟩
      clear hms hg om hfine G OM HFI e
      go_wp2
      go_loopw [11, 56] (fun o i wr => LoOut w gm n ms o i wr) (fun _ i _ => n - (intOf i).toNat)
      case atStart => exact HS.out
      case round =>
        clear HS
        obtain ⟨j, hj, rfl, hg, om, hmine⟩ := hrel
        have G := Lib.hid hg
        have OM := Lib.hid om
        have HM := Lib.hid hmine
        have lm2 := om.lt
        have hsz := hg.size
        by_cases hlj : j < n
        · have f0 : wr.cell? ⟨gm, j, none⟩ = some (.int .i64 (ms[j]?.getD 0)) := by rw [om.cell j, ints_get ms j (by rw [HLEN.out]; exact hlj)]
          have HT : Hid (ms.take (j + 1) = ms.take j ++ [ms[j]?.getD 0]) := take_next (by rw [HLEN.out]; exact hlj)
          have hb0 := HBD.out j
          clear hg om hmine
          generalize ms[j]?.getD 0 = x at *
          go_wp2_with fail
          refine (TotalAt_any gm j x _ f0).mono ?_
          rintro e w5 ⟨rfl, rfl⟩
          go_wp2_with (first | (at_builtin; refine wpList_app _ rfl _ _ rfl (gm + 1) _ j _ rfl (HM.out.kept (grow0 _ _)) _ 1 1 [x] rfl (Row.newAt [x] rfl rfl rfl (by simp) (by simp; omega)) (by simp) (by omega) (by simp; omega) ?_))
          intro v1 w6 hm1 hg3 _
          have G3 := Lib.hid (grown_none (grown_alloc G.out _) hg3 (fun g hg => by have := HM.out.own_ge g hg; omega))
          have OM3 := Lib.hid ((OM.out.alloc _).kept' hg3 HM.out.apart)
          have HM3 := Lib.hid hm1
          clear hm1 hg3
          go_wp2
          go_roundw
          case rel => exact ⟨j + 1, by omega, by go_num, G3.out, OM3.out, by rw [HT.out]; exact HM3.out⟩
          case measure => simp [intOf]; omega
        · obtain rfl : j = n := by omega
          rw [List.take_of_length_le (by rw [HLEN.out]; exact Nat.le_refl _)] at HM
          clear hg om hmine
          go_wp2
          go_ret2
          exact ⟨_, ret_sel HV.out.1, by rw [HV.out.2, HLEN.out]; exact HM.out.wide (by omega), G.out⟩

end Go.Proofs.Ytlpohlcmjnlbhaa

set_option maxRecDepth 20000
namespace Go.Proofs.Ytlpohlcmjnlbhaa
open Go.RowKit

theorem RRate_any (x : Int) (w : World) : Calls Try.prog 53 #[.int .i64 x] w (Says w (.bool (rateB x))) := by
  go_enter Try.func53, Try.ntmps53
  by_cases h1 : 0 ≤ x
  · by_cases h2 : x ≤ 4611686018427387904
    · go_wp2
      go_ret
      exact ⟨ret_bool (by simp [rateB, h1, h2]), World.grownBy.refl _ _⟩
    · go_wp2
      go_ret
      exact ⟨ret_bool (by simp [rateB, h2]), World.grownBy.refl _ _⟩
  · go_wp2
    go_ret
    exact ⟨ret_bool (by simp [rateB]; omega), World.grownBy.refl _ _⟩

theorem RRateQ_any (x : Int) (q : Bool) (hq : rateB x = q) (w : World) : Calls Try.prog 53 #[.int .i64 x] w fun e w' => e = .returned (.bool q) ∧ w = w' := by
  subst hq
  go_enter Try.func53, Try.ntmps53
  by_cases h1 : 0 ≤ x
  · by_cases h2 : x ≤ 4611686018427387904
    · go_wp2
      go_ret
      exact ⟨ret_bool (by simp [rateB, h1, h2]), rfl⟩
    · go_wp2
      go_ret
      exact ⟨ret_bool (by simp [rateB, h2]), rfl⟩
  · go_wp2
    go_ret
    exact ⟨ret_bool (by simp [rateB]; omega), rfl⟩

theorem held4b {w w1 : World} {k b i j : Nat} {x0 x1 x2 x3 : Value} (g : w.grownBy w1 none) (h : (fun w' : World => w'.cell? ⟨k, 0, none⟩ = some x0 ∧ w'.cell? ⟨k, 1, none⟩ = some x1 ∧ w'.cell? ⟨b, i, none⟩ = some x2 ∧ w'.cell? ⟨b, j, none⟩ = some x3) w) :
    (fun w' : World => w'.cell? ⟨k, 0, none⟩ = some x0 ∧ w'.cell? ⟨k, 1, none⟩ = some x1 ∧ w'.cell? ⟨b, i, none⟩ = some x2 ∧ w'.cell? ⟨b, j, none⟩ = some x3) w1 :=
  ⟨kept g h.1, kept g h.2.1, kept g h.2.2.1, kept g h.2.2.2⟩

def RLoRel (w : World) (gm n m : Nat) (ps : List Pth) (i : Value) (wr : World) : Prop :=
  ∃ k : Nat, k ≤ m ∧ i = .int .i64 (k : Nat) ∧ w.grownBy wr none ∧ Own wr gm 3 (ints (loadsQ n (preQ ps k 0))) ∧ fineL n (preQ ps k 0) = true

def RLoIn (w : World) (gm n k q : Nat) (ps : List Pth) (i : Value) (wr : World) : Prop :=
  ∃ j : Nat, j ≤ q ∧ i = .int .i64 (j : Nat) ∧ w.grownBy wr none ∧ Own wr gm 3 (ints (loadsQ n (preQ ps k j))) ∧ fineL n (preQ ps k j) = true

set_option maxRecDepth 20000 in
set_option maxHeartbeats 4000000 in
theorem RLoads_any (V : Int) (A : Option Addr) (n c : Nat) (L : List Lk) (P : Option Addr) (m d : Nat) (ps : List Pth) (w : World) {B B' : Nat} (h : Lks w B A n L) (hB : B ≤ w.heap.size) (hp : Pths w B' P m ps) (hB' : B' ≤ w.heap.size) :
    Calls Try.prog 31 #[.agg #[.int .i64 V, .slice A n c], .slice P m d] w (SelPost w (loadsV V L ps) (loadsE V L ps)) := by
  have hn := h.small
  have hm := hp.small
  have HL := Lib.hid h.len
  have HLP := Lib.hid hp.len
  have HR := Lib.hid h
  have HP := Lib.hid hp
  have HR1 := Lib.hid (h.grown hB (grow0 w (.cells #[.int .i64 V, .slice A n c] 24)))
  clear h hp
  go_enter Try.func31, Try.ntmps31
  go_wp2_with fail
  refine (RMay_any V A n c L _ HR1.out).mono ?_
  rintro e w1 ⟨rfl, g1⟩
  obtain ⟨g, o2⟩ := box1 [.int .i64 V, .slice A n c] g1
  obtain ⟨c0, c1⟩ := o2.two
  have G := Lib.hid g
  have O2 := Lib.hid o2
  clear g g1 o2 HR1
  cases hmay : mayG V L
  · have E := Lib.hid (loads_form (formB_may (ps := ps) hmay))
    go_wp2
    go_ret2
    exact ⟨.slice none 0 0, ret_sel E.out.1, by rw [E.out.2]; exact Mine.nil _ _, G.out⟩
  by_cases h16 : m ≤ 16
  case neg =>
    have E := Lib.hid (loads_form (formB_len (V := V) (L := L) (ps := ps) (by rw [HLP.out]; exact h16)))
    go_wp2
    go_ret2
    exact ⟨.slice none 0 0, ret_sel E.out.1, by rw [E.out.2]; exact Mine.nil _ _, G.out⟩
  have hn16 : n ≤ 16 := by have := may_small hmay; have := HL.out; omega
  have HMAY := Lib.hid hmay
  have HS : Hid (SoundRel w V A n c m ps (.int .i64 0) w1) := ⟨0, Nat.zero_le _, rfl, G.out, O2.out, rfl⟩
  clear hmay G O2 c0 c1
  go_wp2
  go_loopw [6] (fun i wr => SoundRel w V A n c m ps i wr) (fun i _ => m - (intOf i).toNat)
  case atStart => exact HS.out
  case round =>
    clear HS
    obtain ⟨k, hk, rfl, hg, ob, hall⟩ := hrel
    have G := Lib.hid hg
    have HA := Lib.hid hall
    obtain ⟨c0, c1⟩ := ob.two
    have l1 := ob.lt
    have O := Lib.hid ob
    by_cases hlt : k < m
    · obtain ⟨b, off, X, q, d2, hA, hb, e0, e1, hrow⟩ := HP.out.at_ k hlt
      subst hA
      have hsz := hg.size
      have d0 := kept hg e0
      have d1 := kept hg e1
      have HN := Lib.hid (sound_take (n := n) (ps := ps) (k := k) (by rw [HLP.out]; exact hlt))
      have HX := Lib.hid (sound_stop (n := n) (ps := ps) (k := k) (by rw [HLP.out]; exact hlt))
      have HE : Hid (soundB n (at2 ps k) = (rateB (rt ps k) && linksR n (lk ps k))) := rfl
      have HRW := Lib.hid (hrow.grown hB' hg)
      clear hg hall ob e0 e1 hrow
      generalize rt ps k = r at *
      generalize lk ps k = xs at *
      generalize at2 ps k = p at *
      have HSS : Hid ((fun w' : World => w'.cell? ⟨w.heap.size, 0, none⟩ = some (.int .i64 V) ∧ w'.cell? ⟨w.heap.size, 1, none⟩ = some (.slice A n c) ∧ w'.cell? ⟨b, off + k * 2, none⟩ = some (.int .i64 r) ∧ w'.cell? ⟨b, off + k * 2 + 1, none⟩ = some (.slice X q d2)) wr) := ⟨c0, c1, d0, d1⟩
      have GK := Lib.hid (World.grownBy.refl wr none)
      have HC1 : Hid (∀ wx : World, wr.grownBy wx none → Calls Try.prog 54 #[.agg #[.int .i64 V, .slice A n c], .slice X q d2] wx (Says wx (.bool (linksR n xs)))) := fun wx kx => links_any V A n c X q d2 xs wx (HRW.out.grown (by omega) kx)
      cases hrb : rateB r
      · have E := Lib.hid (loads_form (formB_sound (V := V) (L := L) (ps := ps) (by rw [HL.out]; exact HX.out (by rw [HE.out, hrb]; rfl))))
        have HRB := Lib.hid hrb
        clear HN HX HE hrb
        go_wp2_with fail
        go_quiet ((go_at_call 53; exact quiet_left (RRateQ_any r false HRB.out _)))
        go_wp2
        go_ret2
        exact ⟨.slice none 0 0, ret_sel E.out.1, by rw [E.out.2]; exact Mine.nil _ _, grown_drewN G.out _⟩
      · have HRB := Lib.hid hrb
        cases hl : linksR n xs
        · have E := Lib.hid (loads_form (formB_sound (V := V) (L := L) (ps := ps) (by rw [HL.out]; exact HX.out (by rw [HE.out, hl]; simp))))
          have HLK := Lib.hid hl
          clear HN HX HE hrb hl
          go_wp2_with fail
          go_region_held3 (fun w' : World => w'.cell? ⟨w.heap.size, 0, none⟩ = some (.int .i64 V) ∧ w'.cell? ⟨w.heap.size, 1, none⟩ = some (.slice A n c) ∧ w'.cell? ⟨b, off + k * 2, none⟩ = some (.int .i64 r) ∧ w'.cell? ⟨b, off + k * 2 + 1, none⟩ = some (.slice X q d2)) (exact HSS.out)
            (first
              | (go_at_call 53; refine (RRate_any r _).mono ?_; rintro e w8 ⟨he, g⟩; rw [HRB.out] at he; subst he; have GK : Hid (wr.grownBy w8 none) := (by first | exact grown_trans GK.out g | exact grown_trans (grown_drew GK.out) g | exact grown_trans (grown_drewN GK.out _) g); have HSS := Lib.hid (held4b g HSS.out); clear g)
              | (go_at_call 54; refine (HC1.out _ (by first | exact GK.out | exact grown_drew GK.out | exact grown_drewN GK.out _)).mono ?_; rintro e w8 ⟨he, g⟩; rw [HLK.out] at he; subst he; have GK : Hid (wr.grownBy w8 none) := (by first | exact grown_trans GK.out g | exact grown_trans (grown_drew GK.out) g | exact grown_trans (grown_drewN GK.out _) g); have HSS := Lib.hid (held4b g HSS.out); clear g))
          go_wp2
          go_ret2
          exact ⟨.slice none 0 0, ret_sel E.out.1, by rw [E.out.2]; exact Mine.nil _ _, grown_trans G.out GK.out⟩
        · have E : Hid (soundL n (ps.take (k + 1)) = true) := by rw [Hid, HN.out, HA.out, HE.out, hl, hrb]; rfl
          have HLK := Lib.hid hl
          clear HN HX HE hrb hl
          go_wp2_with fail
          go_region_held3 (fun w' : World => w'.cell? ⟨w.heap.size, 0, none⟩ = some (.int .i64 V) ∧ w'.cell? ⟨w.heap.size, 1, none⟩ = some (.slice A n c) ∧ w'.cell? ⟨b, off + k * 2, none⟩ = some (.int .i64 r) ∧ w'.cell? ⟨b, off + k * 2 + 1, none⟩ = some (.slice X q d2)) (exact HSS.out)
            (first
              | (go_at_call 53; refine (RRate_any r _).mono ?_; rintro e w8 ⟨he, g⟩; rw [HRB.out] at he; subst he; have GK : Hid (wr.grownBy w8 none) := (by first | exact grown_trans GK.out g | exact grown_trans (grown_drew GK.out) g | exact grown_trans (grown_drewN GK.out _) g); have HSS := Lib.hid (held4b g HSS.out); clear g)
              | (go_at_call 54; refine (HC1.out _ (by first | exact GK.out | exact grown_drew GK.out | exact grown_drewN GK.out _)).mono ?_; rintro e w8 ⟨he, g⟩; rw [HLK.out] at he; subst he; have GK : Hid (wr.grownBy w8 none) := (by first | exact grown_trans GK.out g | exact grown_trans (grown_drew GK.out) g | exact grown_trans (grown_drewN GK.out _) g); have HSS := Lib.hid (held4b g HSS.out); clear g))
          go_wp2
          go_roundw
          case rel => exact ⟨k + 1, by omega, by go_num, grown_trans G.out GK.out, O.out.kept GK.out, E.out⟩
          case measure => simp [intOf]; omega
    · obtain rfl : k = m := by omega
      have hso : soundL n ps = true := by
        have := HA.out
        rwa [List.take_of_length_le (by rw [HLP.out]; exact Nat.le_refl _)] at this
      have HSO := Lib.hid hso
      have HF := Lib.hid (formB_yes (V := V) (L := L) (ps := ps) HMAY.out (by rw [HLP.out]; exact h16) (by rw [HL.out]; exact hso))
      obtain ⟨i0, hi, hz0, hz1, hz2⟩ := info_parts info3
      have HI := Lib.hid hi
      have HZ0 := Lib.hid hz0
      have HZ1 := Lib.hid hz1
      have HZ2 := Lib.hid hz2
      clear hi hz0 hz1 hz2 hso hg hall ob HA
      go_upto_region 8 with fail
      go_wp2_with (first | (refine wpList_make_full _ rfl _ _ 25 rfl wr.heap.size 3 i0 (.int .i64 0) 1 Try.underlying25 HI.out HZ0.out HZ1.out .i64 .i64 (n : Int) (n : Int) n rfl rfl rfl rfl (by rw [HZ2.out]; omega) (by unfold maxLen; omega) (Nat.le_refl _) ?_))
      intro w3 hmk k3
      rw [toList_madeCells_one, ints_zero, ← loadsQ_nil, ← preQ_zero ps] at hmk
      have OM := Lib.hid (Own.of_made hmk)
      have HS : Hid (RLoRel w wr.heap.size n k ps (.int .i64 0) w3) := ⟨0, Nat.zero_le _, rfl, grown_trans G.out k3, OM.out, by rw [preQ_zero]; exact fine_nil n⟩
      clear hmk O c0 c1 HI HZ0 HZ1 HZ2 k3 OM G
      generalize wr.heap.size = gm at *
      go_wp2
      go_loopw [8] (fun i wr => RLoRel w gm n k ps i wr) (fun i _ => k - (intOf i).toNat)
      case atStart => exact HS.out
      case round =>
        clear HS
        obtain ⟨a, ha, rfl, hg, om, hfine⟩ := hrel
        have G := Lib.hid hg
        have OM := Lib.hid om
        have HFI := Lib.hid hfine
        have lm := om.lt
        by_cases hlt2 : a < k
        · obtain ⟨b, off, X, q, d2, hA, hb, e0, e1, hrow⟩ := HP.out.at_ a hlt2
          subst hA
          have hq := hrow.small
          have HE0 := Lib.hid e0
          have HE1 := Lib.hid e1
          have HRW := Lib.hid hrow
          have HXL := Lib.hid hrow.len
          have hkl : Hid (a < ps.length) := by rw [Hid, HLP.out]; exact hlt2
          obtain ⟨hrate, _, hall⟩ := sound_at HSO.out hkl.out
          have HALL := Lib.hid hall
          have HST : Hid (∀ j, j < q → preQ ps a (j + 1) = preQ ps a j ++ [(rt ps a, (lk ps a)[j]?.getD 0)]) := fun j hj => preQ_step (by rw [HXL.out]; exact hj)
          have HEND : Hid (preQ ps a q = preQ ps (a + 1) 0) := by have := preQ_row hkl.out; rwa [HXL.out] at this
          have HS : Hid (RLoIn w gm n a q ps (.int .i64 0) wr) := ⟨0, Nat.zero_le _, rfl, hg, om, hfine⟩
          clear hg om hfine e0 e1 hrow hall
          generalize rt ps a = r at *
          generalize lk ps a = xs at *
          go_wp2
          go_loopw [9] (fun i wr => RLoIn w gm n a q ps i wr) (fun i _ => q - (intOf i).toNat)
          case atStart => exact HS.out
          case round =>
            clear HS G OM HFI
            obtain ⟨j, hj, rfl, hg, om, hfine⟩ := hrel
            have G := Lib.hid hg
            have OM := Lib.hid om
            have lm2 := om.lt
            have d0 := kept hg HE0.out
            have d1 := kept hg HE1.out
            by_cases hlj : j < q
            · obtain ⟨px, ox, hX, hp, hcell⟩ := HRW.out.at_ (by omega)
              subst hX
              have g0 := kept hg (hcell j hlj)
              obtain ⟨l, hl, hlx⟩ := allL_get HALL.out (i := j) (by rw [HXL.out]; exact hlj)
              rw [hlx] at g0
              have HNX : Hid (preQ ps a (j + 1) = preQ ps a j ++ [(r, (l : Int))]) := by rw [Hid, HST.out j hlj, hlx]
              have f0 : wr.cell? ⟨gm, l, none⟩ = some (.int .i64 (loadQ (l : Int) (preQ ps a j))) := by rw [om.cell l, ints_get _ l (by rw [loadsQ_len]; exact hl), loadsQ_get hl]
              have ff := om.frozen l
              have hnn := loadQ_nonneg (preQ_nonneg j hkl.out HSO.out) (l : Int)
              have hle := fine_get hfine hl
              have HSET := Lib.hid (loadsQ_step hl (preQ ps a j) r)
              have HFS := Lib.hid (fine_step (r := r) hl hfine)
              have HOV := Lib.hid (over_no (n := n) (ps := ps) (i := a) (j + 1) hkl.out HSO.out hl)
              rw [HNX.out, loadQ_app] at HOV
              have hbg : ¬ gm = b := by omega
              have hbg2 : ¬ gm = px := by omega
              clear hg om hfine hcell
              generalize preQ ps a j = qs at *
              generalize hms : loadsQ n qs = ms at *
              clear hms
              generalize loadQ (l : Int) qs = t at *
              have hw1 : IntKind.i64.wrap (4611686018427387904 - t) = 4611686018427387904 - t := IntWalk.i64_in _ (by omega)
              by_cases hc : r ≤ 4611686018427387904 - t
              · have HF2 := Lib.hid (HFS.out (by omega))
                have hc2 : ¬ 4611686018427387904 - t < r := by omega
                have hw2 : IntKind.i64.wrap (t + r) = t + r := IntWalk.i64_in _ (by omega)
                clear HFS HOV
                go_wp2_with fail
                go_quiet (fail)
                go_wp2_with fail
                have G := Lib.hid (grown_drewN G.out nq)
                have OM : Hid (Own (wr.drewN nq) gm 3 (ints ms)) := OM.out
                have d0 : (wr.drewN nq).cell? ⟨b, off + a * 2, none⟩ = some (.int .i64 r) := d0
                have f0 : (wr.drewN nq).cell? ⟨gm, l, none⟩ = some (.int .i64 t) := f0
                have ff : (wr.drewN nq).frozen? ⟨gm, l, none⟩ = false := ff
                clear g0 d1
                generalize wr.drewN nq = wq at *
                go_still_tail 13, (by kernel_rfl)
                go_wp2
                have k3 : wq.grownBy (wq.setCell ⟨gm, l, none⟩ (.int .i64 (t + r))).drew (some gm) := grown_drew (grown_set (World.grownBy.refl wq _) _)
                go_roundw
                case rel => exact ⟨j + 1, by omega, by go_num, grown_none G.out k3 (fun g hg => by injection hg with hg; omega), by rw [HNX.out, HSET.out, ← ints_set]; exact (OM.out.setAt _ _).kept (grown_drew (World.grownBy.refl _ none)), by rw [HNX.out]; exact HF2.out⟩
                case measure => simp [intOf]; omega
              · have E := Lib.hid (loads_over HF.out (by rw [HL.out]; exact HOV.out (by simp only [loadQ]; simp; omega)))
                have hc2 : 4611686018427387904 - t < r := by omega
                clear HFS HOV hc
                go_wp2_with fail
                go_quiet (fail)
                go_wp2
                go_ret2
                exact ⟨.slice none 0 0, ret_sel E.out.1, by rw [E.out.2]; exact Mine.nil _ _, grown_drewN G.out _⟩
            · obtain rfl : j = q := by omega
              rw [HEND.out] at om hfine
              have OM := Lib.hid om
              have HFI := Lib.hid hfine
              clear hg om hfine
              go_wp2
              go_roundw
              case rel => exact ⟨a + 1, by omega, by go_num, G.out, OM.out, HFI.out⟩
              case measure => simp [intOf]; omega
        · obtain rfl : a = k := by omega
          have e : preQ ps a 0 = pairsOf ps := by rw [← HLP.out]; exact preQ_all ps
          rw [e] at om hfine
          have HV := Lib.hid (loads_goes HF.out (by rw [HL.out]; exact hfine))
          rw [HL.out] at HV
          have HMI := Lib.hid (Own.mine (base := w.heap.size) om (by omega) (loadsQ_len n _) (by omega))
          clear e hg om hfine
          go_wp2
          go_ret2
          exact ⟨_, ret_sel HV.out.1, by rw [HV.out.2, loadsQ_len]; exact HMI.out, G.out⟩

end Go.Proofs.Ytlpohlcmjnlbhaa

set_option maxRecDepth 20000
namespace Go.Proofs.Ytlpohlcmjnlbhaa
open Go.RowKit

def BMRel (w : World) (V : Int) (A : Option Addr) (n c m : Nat) (L : List Lk) (s t : Int) (ps : List Pth) (i : Value) (wr : World) : Prop :=
  ∃ k : Nat, k ≤ m ∧ i = .int .i64 (k : Nat) ∧ w.grownBy wr none ∧ Own wr w.heap.size 24 [.int .i64 V, .slice A n c] ∧ (ps.take k).all (goodP V L s t) = true

theorem goodP_low {V : Int} {L : List Lk} {s t : Int} {p : Pth} (h : p.1 ≤ 0) : goodP V L s t p = false := by simp [goodP]; omega
theorem goodP_no {V : Int} {L : List Lk} {s t : Int} {p : Pth} (h : mayP V L s t p.2 = false) : goodP V L s t p = false := by simp [goodP, h]
theorem goodP_yes {V : Int} {L : List Lk} {s t : Int} {p : Pth} (h : 0 < p.1) (k : mayP V L s t p.2 = true) : goodP V L s t p = true := by simp [goodP, h, k]

set_option maxHeartbeats 1000000 in
theorem BMay_any (V s t R : Int) (A : Option Addr) (n c : Nat) (L : List Lk) (P : Option Addr) (m d : Nat) (ps : List Pth) (w : World) {B B' : Nat} (h : Lks w B A n L) (hB : B ≤ w.heap.size) (hp : Pths w B' P m ps) (hB' : B' ≤ w.heap.size) :
    Calls Try.prog 20 #[.agg #[.int .i64 V, .slice A n c], .int .i64 s, .int .i64 t, .int .i64 R, .slice P m d] w (Says w (.bool (bmay V L s t R ps))) := by
  have hm := hp.small
  have HLP := Lib.hid hp.len
  have HR := Lib.hid h
  have HP := Lib.hid hp
  clear h hp
  by_cases h0 : m = 0
  · have E := Lib.hid (bmay_len0 (V := V) (L := L) (s := s) (t := t) (R := R) (HLP.out.trans h0))
    subst h0
    go_enter Try.func20, Try.ntmps20
    go_wp2
    go_ret
    exact ⟨ret_bool E.out, grow0 _ _⟩
  have hm0 : ((m : Int) == 0) = false := by simp; omega
  by_cases h16 : m ≤ 16
  case neg =>
    have E := Lib.hid (bmay_len1 (V := V) (L := L) (s := s) (t := t) (R := R) (ps := ps) (by rw [HLP.out]; exact h16))
    go_enter Try.func20, Try.ntmps20
    go_wp2
    go_ret
    exact ⟨ret_bool E.out, grow0 _ _⟩
  have HS : Hid (BMRel w V A n c m L s t ps (.int .i64 0) (w.alloc (.cells #[.int .i64 V, .slice A n c] 24))) := ⟨0, Nat.zero_le _, rfl, grow0 _ _, Own.new w 24 [.int .i64 V, .slice A n c], rfl⟩
  go_enter Try.func20, Try.ntmps20
  go_wp2
  go_loopw [25] (fun i wr => BMRel w V A n c m L s t ps i wr) (fun i _ => m - (intOf i).toNat)
  case atStart => exact HS.out
  case round =>
    clear HS
    obtain ⟨k, hk, rfl, hg, ob, hall⟩ := hrel
    have G := Lib.hid hg
    have HA := Lib.hid hall
    obtain ⟨c0, c1⟩ := ob.two
    have l1 := ob.lt
    have O := Lib.hid ob
    by_cases hlt : k < m
    · obtain ⟨b, off, X, q, d2, hA, hb, e0, e1, hrow⟩ := HP.out.at_ k hlt
      subst hA
      have hsz := hg.size
      have d0 := kept hg e0
      have d1 := kept hg e1
      have HN := Lib.hid (good_take (V := V) (L := L) (s := s) (t := t) (ps := ps) (k := k) (by rw [HLP.out]; exact hlt))
      have HX := Lib.hid (good_stop (V := V) (L := L) (s := s) (t := t) (ps := ps) (k := k) (by rw [HLP.out]; exact hlt))
      have HE1 := Lib.hid (goodP_low (V := V) (L := L) (s := s) (t := t) (p := at2 ps k))
      have HE2 := Lib.hid (goodP_no (V := V) (L := L) (s := s) (t := t) (p := at2 ps k))
      have HE3 := Lib.hid (goodP_yes (V := V) (L := L) (s := s) (t := t) (p := at2 ps k))
      have HP1 : Hid ((at2 ps k).1 = rt ps k) := rfl
      have HP2 : Hid ((at2 ps k).2 = lk ps k) := rfl
      rw [HP1.out] at HE1 HE3
      rw [HP2.out] at HE2 HE3
      have HRB := Lib.hid (HR.out.grown hB (grown_alloc hg (.cells #[.int .i64 (rt ps k), .slice X q d2] 66)))
      have HRW := Lib.hid (hrow.grown hB' (grown_alloc hg (.cells #[.int .i64 (rt ps k), .slice X q d2] 66)))
      clear hg hall ob e0 e1 hrow HP1 HP2
      generalize rt ps k = r at *
      generalize lk ps k = xs at *
      generalize at2 ps k = p at *
      by_cases hr0 : r ≤ 0
      · have E := Lib.hid (bmay_bad (R := R) (HX.out (HE1.out hr0)))
        clear HN HX HE1 HE2 HE3
        go_wp2
        go_ret
        exact ⟨ret_bool E.out, grown_alloc G.out _⟩
      · go_wp2_with fail
        refine (PMay_any V s t A n c L X q d2 xs _ HRB.out (by simp; omega) HRW.out (by simp; omega)).mono ?_
        rintro e w2 ⟨rfl, g2⟩
        obtain ⟨g3, o3⟩ := box1 [.int .i64 r, .slice X q d2] g2
        have G2 := Lib.hid (grown_trans G.out g3)
        have O2 := Lib.hid (O.out.kept g3)
        clear g2 g3 o3 c0 c1 d0 d1 HRB HRW
        cases hmp : mayP V L s t xs
        · have E := Lib.hid (bmay_bad (R := R) (HX.out (HE2.out hmp)))
          clear HN HX HE1 HE2 HE3
          go_wp2
          go_ret
          exact ⟨ret_bool E.out, G2.out⟩
        · have E : Hid ((ps.take (k + 1)).all (goodP V L s t) = true) := by rw [Hid, HN.out, HA.out, HE3.out (by omega) hmp]; rfl
          clear HN HX HE1 HE2 HE3
          go_wp2
          go_roundw
          case rel => exact ⟨k + 1, by omega, by go_num, G2.out, O2.out, E.out⟩
          case measure => simp [intOf]; omega
    · obtain rfl : k = m := by omega
      have E := Lib.hid (bmay_yes (V := V) (L := L) (s := s) (t := t) (R := R) (ps := ps) (by rw [HLP.out]; exact h0) (by rw [HLP.out]; exact h16) (by
        have := HA.out
        rwa [List.take_of_length_le (by rw [HLP.out]; exact Nat.le_refl _)] at this))
      clear hg hall ob
      go_wp2_with fail
      refine (together_any P k d ps _ (HP.out.grown hB' G.out) h16).mono ?_
      rintro e w2 ⟨rfl, g2⟩
      have G2 := Lib.hid (grown_trans G.out g2)
      clear g2 c0 c1
      generalize sumV (ratesOf ps) = sv at *
      cases hsb : sumB (ratesOf ps)
      · rw [hsb] at E
        clear hsb
        go_wp2
        go_ret
        exact ⟨ret_bool (by rw [E.out]; rfl), G2.out⟩
      · rw [hsb] at E
        clear hsb
        go_wp2
        go_ret
        exact ⟨ret_bool (by rw [E.out]; rfl), G2.out⟩

def RBMRel (w : World) (V : Int) (A : Option Addr) (n c m : Nat) (L : List Lk) (s t R : Int) (ps : List Pth) (a i : Value) (wr : World) : Prop :=
  ∃ (k : Nat) (acc : Int), k ≤ m ∧ i = .int .i64 (k : Nat) ∧ a = .int .i64 acc ∧ w.grownBy wr none ∧ Own wr w.heap.size 24 [.int .i64 V, .slice A n c] ∧ (ps.take k).all (goodP V L s t) = true ∧ isum (ratesOf (ps.take k)) = acc ∧ 0 ≤ acc ∧ acc ≤ R

set_option maxRecDepth 20000 in
set_option maxHeartbeats 4000000 in
theorem RBMay_any (V s t R : Int) (A : Option Addr) (n c : Nat) (L : List Lk) (P : Option Addr) (m d : Nat) (ps : List Pth) (w : World) {B B' : Nat} (h : Lks w B A n L) (hB : B ≤ w.heap.size) (hp : Pths w B' P m ps) (hB' : B' ≤ w.heap.size) :
    Calls Try.prog 16 #[.agg #[.int .i64 V, .slice A n c], .int .i64 s, .int .i64 t, .int .i64 R, .slice P m d] w (Says w (.bool (bmay V L s t R ps))) := by
  have hm := hp.small
  have HLP := Lib.hid hp.len
  have HR := Lib.hid h
  have HP := Lib.hid hp
  have HR1 := Lib.hid (h.grown hB (grow0 w (.cells #[.int .i64 V, .slice A n c] 24)))
  clear h hp
  go_enter Try.func16, Try.ntmps16
  go_wp2_with fail
  refine (RMay_any V A n c L _ HR1.out).mono ?_
  rintro e w1 ⟨rfl, g1⟩
  obtain ⟨g, o2⟩ := box1 [.int .i64 V, .slice A n c] g1
  obtain ⟨c0, c1⟩ := o2.two
  have G := Lib.hid g
  have O2 := Lib.hid o2
  clear g g1 o2 HR1
  cases hmay : mayG V L
  · have E := Lib.hid (bmay_graph (s := s) (t := t) (R := R) (ps := ps) hmay)
    go_wp2
    go_ret
    exact ⟨ret_bool E.out, G.out⟩
  by_cases hR0 : R < 1
  · have E := Lib.hid (bmay_rate (V := V) (L := L) (s := s) (t := t) (ps := ps) (.inl hR0))
    go_wp2
    go_ret
    exact ⟨ret_bool E.out, G.out⟩
  by_cases hR1 : 4611686018427387904 < R
  · have E := Lib.hid (bmay_rate (V := V) (L := L) (s := s) (t := t) (ps := ps) (.inr hR1))
    go_wp2
    go_ret
    exact ⟨ret_bool E.out, G.out⟩
  by_cases h0 : m = 0
  · have E := Lib.hid (bmay_len0 (V := V) (L := L) (s := s) (t := t) (R := R) (HLP.out.trans h0))
    subst h0
    go_wp2
    go_ret
    exact ⟨ret_bool E.out, G.out⟩
  have hm1 : ¬ (m : Int) < 1 := by omega
  by_cases h16 : m ≤ 16
  case neg =>
    have E := Lib.hid (bmay_len1 (V := V) (L := L) (s := s) (t := t) (R := R) (ps := ps) (by rw [HLP.out]; exact h16))
    go_wp2
    go_ret
    exact ⟨ret_bool E.out, G.out⟩
  have HS : Hid (RBMRel w V A n c m L s t R ps (.int .i64 0) (.int .i64 0) w1) := ⟨0, 0, Nat.zero_le _, rfl, rfl, G.out, O2.out, rfl, rfl, by omega, by omega⟩
  clear hmay G O2 c0 c1
  go_wp2
  go_loopw [11, 12] (fun a i wr => RBMRel w V A n c m L s t R ps a i wr) (fun _ i _ => m - (intOf i).toNat)
  case atStart => exact HS.out
  case round =>
    clear HS
    obtain ⟨k, acc, hk, rfl, rfl, hg, ob, hall, hacc, ha0, ha1⟩ := hrel
    have G := Lib.hid hg
    have HA := Lib.hid hall
    have HAC := Lib.hid hacc
    obtain ⟨c0, c1⟩ := ob.two
    have l1 := ob.lt
    have O := Lib.hid ob
    by_cases hlt : k < m
    · obtain ⟨b, off, X, q, d2, hA, hb, e0, e1, hrow⟩ := HP.out.at_ k hlt
      subst hA
      have hsz := hg.size
      have d0 := kept hg e0
      have d1 := kept hg e1
      have hrb := HP.out.ok k
      unfold bd64 at hrb
      have HN := Lib.hid (good_take (V := V) (L := L) (s := s) (t := t) (ps := ps) (k := k) (by rw [HLP.out]; exact hlt))
      have HX := Lib.hid (good_stop (V := V) (L := L) (s := s) (t := t) (ps := ps) (k := k) (by rw [HLP.out]; exact hlt))
      have HE1 := Lib.hid (goodP_low (V := V) (L := L) (s := s) (t := t) (p := at2 ps k))
      have HE2 := Lib.hid (goodP_no (V := V) (L := L) (s := s) (t := t) (p := at2 ps k))
      have HE3 := Lib.hid (goodP_yes (V := V) (L := L) (s := s) (t := t) (p := at2 ps k))
      have HP1 : Hid ((at2 ps k).1 = rt ps k) := rfl
      have HP2 : Hid ((at2 ps k).2 = lk ps k) := rfl
      rw [HP1.out] at HE1 HE3
      rw [HP2.out] at HE2 HE3
      have HMO := Lib.hid (bmay_more (V := V) (L := L) (s := s) (t := t) (R := R) (ps := ps) (k := k) (by rw [HLP.out]; exact hlt))
      have HSU := Lib.hid (rates_take (ps := ps) (k := k) (by rw [HLP.out]; exact hlt))
      rw [hacc] at HMO HSU
      have HRW := Lib.hid (hrow.grown hB' hg)
      have HRG := Lib.hid (HR.out.grown hB hg)
      clear hg hall ob e0 e1 hrow HP1 HP2 hacc
      generalize rt ps k = r at *
      generalize lk ps k = xs at *
      generalize at2 ps k = p at *
      have hw1 : IntKind.i64.wrap (R - acc) = R - acc := IntWalk.i64_in _ (by omega)
      by_cases hr0 : r < 1
      · have E := Lib.hid (bmay_bad (R := R) (HX.out (HE1.out (by omega))))
        clear HN HX HE1 HE2 HE3 HMO HSU hR0 hR1 ha0 ha1 hrb hw1
        have q1 : decide (r < 1) = true := by simp [hr0]
        go_wp2_with fail
        go_quiet (fail)
        go_wp2
        go_ret
        exact ⟨ret_bool E.out, grown_drewN G.out _⟩
      have q1 : decide (r < 1) = false := by simp [hr0]
      by_cases hr1 : R - acc < r
      · have E := Lib.hid (HMO.out (by omega))
        have q2 : decide (R - acc < r) = true := by simp [hr1]
        clear HN HX HE1 HE2 HE3 HMO HSU hR0 hR1 ha0 ha1 hrb hr0
        go_wp2_with fail
        go_quiet (fail)
        go_wp2
        go_ret
        exact ⟨ret_bool E.out, grown_drewN G.out _⟩
      have q2 : decide (R - acc < r) = false := by simp [hr1]
      have hw2 : IntKind.i64.wrap (acc + r) = acc + r := IntWalk.i64_in _ (by omega)
      have HAR : Hid (0 ≤ acc + r ∧ acc + r ≤ R ∧ 0 < r) := ⟨by omega, by omega, by omega⟩
      clear hR0 hR1 ha0 ha1 hrb hr0 hr1
      have HSS : Hid ((fun w' : World => w'.cell? ⟨w.heap.size, 0, none⟩ = some (.int .i64 V) ∧ w'.cell? ⟨w.heap.size, 1, none⟩ = some (.slice A n c) ∧ w'.cell? ⟨b, off + k * 2, none⟩ = some (.int .i64 r) ∧ w'.cell? ⟨b, off + k * 2 + 1, none⟩ = some (.slice X q d2)) wr) := ⟨c0, c1, d0, d1⟩
      have GK := Lib.hid (World.grownBy.refl wr none)
      have HC1 : Hid (∀ wx : World, wr.grownBy wx none → Calls Try.prog 33 #[.agg #[.int .i64 V, .slice A n c], .int .i64 s, .int .i64 t, .slice X q d2] wx (Says wx (.bool (mayP V L s t xs)))) := fun wx kx => RPMay_any V s t A n c L X q d2 xs wx (HRG.out.grown (by omega) kx) (by have := kx.size; omega) (HRW.out.grown (by omega) kx) (by have := kx.size; omega)
      cases hmp : mayP V L s t xs
      · have E := Lib.hid (bmay_bad (R := R) (HX.out (HE2.out hmp)))
        have HLK := Lib.hid hmp
        clear HN HX HE1 HE2 HE3 HMO HSU hmp
        go_wp2_with fail
        go_still_tail 26, (by kernel_rfl)
        go_wp2_with fail
        refine (HC1.out _ (grown_drew GK.out)).mono ?_
        rintro e w8 ⟨he, g⟩
        rw [HLK.out] at he
        subst he
        have g8 := grown_undrew g
        have GK : Hid (wr.grownBy w8 none) := g8
        have HSS := Lib.hid (held4b g8 HSS.out)
        clear g g8
        go_wp2
        go_ret
        exact ⟨ret_bool E.out, grown_trans G.out GK.out⟩
      · have E : Hid ((ps.take (k + 1)).all (goodP V L s t) = true) := by rw [Hid, HN.out, HA.out, HE3.out HAR.out.2.2 hmp]; rfl
        have HLK := Lib.hid hmp
        clear HN HX HE1 HE2 HE3 HMO hmp
        go_wp2_with fail
        go_still_tail 26, (by kernel_rfl)
        go_wp2_with fail
        refine (HC1.out _ (grown_drew GK.out)).mono ?_
        rintro e w8 ⟨he, g⟩
        rw [HLK.out] at he
        subst he
        have g8 := grown_undrew g
        have GK : Hid (wr.grownBy w8 none) := g8
        have HSS := Lib.hid (held4b g8 HSS.out)
        clear g g8
        clear c0 c1 d0 d1
        obtain ⟨c0, c1, d0, d1⟩ := HSS.out
        go_wp2
        go_roundw
        case rel => exact ⟨k + 1, acc + r, by omega, by go_num, by go_num, grown_trans G.out GK.out, O.out.kept GK.out, E.out, HSU.out, HAR.out.1, HAR.out.2.1⟩
        case measure => simp [intOf]; omega
    · obtain rfl : k = m := by omega
      have ex : ps.take k = ps := List.take_of_length_le (by rw [HLP.out]; exact Nat.le_refl _)
      rw [ex] at HA HAC
      have E := Lib.hid (bmay_end (V := V) (L := L) (s := s) (t := t) (R := R) (ps := ps) (by rw [HLP.out]; exact h0) (by rw [HLP.out]; exact h16) HA.out (by omega))
      rw [HAC.out] at E
      clear hg hall ob ex hacc
      by_cases he : acc = R
      · have E2 : Hid (bmay V L s t R ps = true) := by rw [Hid, E.out]; simp [he]
        subst he
        go_wp2
        go_ret
        exact ⟨ret_bool E2.out, G.out⟩
      · have E2 : Hid (bmay V L s t R ps = false) := by rw [Hid, E.out]; simp [he]
        have hb : (acc == R) = false := by simp [he]
        go_wp2
        go_ret
        exact ⟨ret_bool E2.out, G.out⟩

end Go.Proofs.Ytlpohlcmjnlbhaa

set_option maxRecDepth 20000
namespace Go.Proofs.Ytlpohlcmjnlbhaa
open Go.RowKit

def UnRel (w : World) (n : Nat) (caps xs : List Int) (i : Value) (wr : World) : Prop :=
  ∃ k : Nat, k ≤ n ∧ i = .int .i64 (k : Nat) ∧ w.grownBy wr none ∧ (List.range k).all (fun i => decide (xs[i]?.getD 0 ≤ caps[i]?.getD 0)) = true

theorem under_stop {caps xs : List Int} {k : Nat} (h : k < xs.length) (e : caps[k]?.getD 0 < xs[k]?.getD 0) : underB caps xs = false :=
  range_stop h (by simp; omega)

theorem under_rates {caps xs : List Int} (h : xs.length = caps.length) (nn : ∀ i : Nat, 0 ≤ xs[i]?.getD 0) : ratesB caps xs = underB caps xs := by
  unfold ratesB underB
  rw [decide_eq_true h, Bool.true_and]
  congr 1
  funext i
  simp [rateIn, nn i]

theorem Within_any (X : Option Addr) (n d : Nat) (caps : List Int) (Y : Option Addr) (d' : Nat) (xs : List Int) (w : World) {B B' : Nat} (hx : Row w B X n caps) (hy : Row w B' Y n xs) (hnn : ∀ i : Nat, 0 ≤ xs[i]?.getD 0) :
    Calls Try.prog 32 #[.slice X n d, .slice Y n d'] w (Says w (.bool (underB caps xs))) := by
  have := RWithin_any X n d caps Y n d' xs w hx hy
  rwa [under_rates (by rw [hx.len, hy.len]) hnn] at this

theorem may_n8 {V : Int} {L : List Lk} {n : Nat} (h : mayG V L = true) (hl : L.length = n) : n * 8 ≤ 140737488351232 := by
  have := (may_small h).2.2
  omega

theorem loadsV_len {V : Int} {L : List Lk} {ps : List Pth} (h : loadsE V L ps = 0) : (loadsV V L ps).length = L.length := by
  obtain ⟨a, b⟩ := loads_ok0 h
  rw [(loads_goes a b).2, loadsQ_len]

theorem loadsV_ok (V : Int) (L : List Lk) (ps : List Pth) : okI (loadsV V L ps) := fun i => by have := loads_bd (V := V) (L := L) (ps := ps) i; omega

def fitV (V : Int) (L : List Lk) (caps : List Int) (ps : List Pth) : Value := .tuple #[.bool (fitsV V L caps ps), .int .i64 (fitsE V L caps ps)]

set_option maxHeartbeats 1000000 in
theorem Fits_any (V : Int) (A : Option Addr) (n c : Nat) (L : List Lk) (X : Option Addr) (q e : Nat) (caps : List Int) (P : Option Addr) (m d : Nat) (ps : List Pth) (w : World) {B B' B'' : Nat} (h : Lks w B A n L) (hB : B ≤ w.heap.size) (hx : Row w B'' X q caps) (hB'' : B'' ≤ w.heap.size) (hp : Pths w B' P m ps) (hB' : B' ≤ w.heap.size) (h8 : n * 8 ≤ 140737488351232) :
    Calls Try.prog 18 #[.agg #[.int .i64 V, .slice A n c], .slice X q e, .slice P m d] w (Says w (fitV V L caps ps)) := by
  have HL := Lib.hid h.len
  have HLX := Lib.hid hx.len
  have HR := Lib.hid h
  have HX := Lib.hid hx
  have HP := Lib.hid hp
  have HR1 := Lib.hid (h.grown hB (grow0 w (.cells #[.int .i64 V, .slice A n c] 24)))
  have HX1 := Lib.hid (hx.grown hB'' (grow0 w (.cells #[.int .i64 V, .slice A n c] 24)))
  clear h hx hp
  go_enter Try.func18, Try.ntmps18
  go_wp2_with fail
  refine (areCaps_any V A n c L X q e caps _ HR1.out HX1.out (by simp; omega) h8).mono ?_
  rintro e1 w1 ⟨rfl, g1⟩
  obtain ⟨g, o2⟩ := box1 [.int .i64 V, .slice A n c] g1
  obtain ⟨c0, c1⟩ := o2.two
  have G := Lib.hid g
  clear g g1 o2 HR1 HX1
  cases hcap : capsB L caps
  · have E := Lib.hid (fits_caps (V := V) (ps := ps) hcap)
    go_wp2
    go_ret2
    exact ⟨ret_fit E.out.2 E.out.1, G.out⟩
  have hqn : q = n := by
    simp only [capsB, Bool.and_eq_true, decide_eq_true_eq] at hcap
    have := HL.out; have := HLX.out; omega
  subst hqn
  go_wp2_with fail
  refine (Loads_any V A q c L P m d ps _ (HR.out.grown hB G.out) (by have := G.out.size; omega) (HP.out.grown hB' G.out) (by have := G.out.size; omega)).mono ?_
  rintro e2 w2 ⟨v, rfl, hv, g2⟩
  have G := Lib.hid (grown_trans G.out g2)
  clear g2 c0 c1
  by_cases hz : loadsE V L ps = 0
  case neg =>
    have E := Lib.hid (fits_err hcap hz)
    have hne : (loadsE V L ps != 0) = true := by simp [hz]
    clear hz hv hcap
    generalize loadsE V L ps = z at *
    go_wp2
    go_ret2
    exact ⟨ret_fit E.out.2 E.out.1, G.out⟩
  have E := Lib.hid (fits_ok hcap hz)
  have hlen : (loadsV V L ps).length = q := (loadsV_len hz).trans HL.out
  have HLV := Lib.hid hlen
  rw [hz]
  rw [hlen] at hv
  obtain ⟨Av, cv, rfl, _, hrv⟩ := hv.row (loadsV_ok V L ps)
  have HRV := Lib.hid hrv
  have hq := hrv.small
  have HXR := Lib.hid (HX.out.grown hB'' G.out)
  clear hz hcap hlen hv hrv
  generalize loadsV V L ps = xs at *
  have HS : Hid (UnRel w2 q caps xs (.int .i64 0) w2) := ⟨0, Nat.zero_le _, rfl, World.grownBy.refl w2 none, rfl⟩
  go_wp2
  go_loopw [27] (fun i wr => UnRel w2 q caps xs i wr) (fun i _ => q - (intOf i).toNat)
  case atStart => exact HS.out
  case round =>
    clear HS
    obtain ⟨k, hk, rfl, hg, hall⟩ := hrel
    have G2 := Lib.hid hg
    have HA := Lib.hid hall
    by_cases hlt : k < q
    · obtain ⟨b, off, hA, hb, hcell⟩ := HXR.out.at_ (by omega)
      subst hA
      have d0 := kept hg (hcell k hlt)
      obtain ⟨b2, off2, hA2, hb2, hcell2⟩ := HRV.out.at_ (by omega)
      subst hA2
      have e0 := kept hg (hcell2 k hlt)
      have HN := Lib.hid (range_next k (fun i => decide (xs[i]?.getD 0 ≤ caps[i]?.getD 0)))
      have HNO := Lib.hid (under_stop (caps := caps) (xs := xs) (k := k) (by rw [HLV.out]; exact hlt))
      clear hcell hcell2 hg hall
      generalize hy : xs[k]?.getD 0 = x at *
      generalize hz : caps[k]?.getD 0 = y at *
      clear hy hz
      by_cases h1 : y < x
      · have E2 : Hid (fitsV V L caps ps = false) := E.out.2.trans (HNO.out h1)
        clear HN HNO
        go_wp2
        go_ret2
        exact ⟨ret_fit E2.out E.out.1, grown_trans G.out G2.out⟩
      · have E2 : Hid ((List.range (k + 1)).all (fun i => decide (xs[i]?.getD 0 ≤ caps[i]?.getD 0)) = true) := by rw [Hid, HN.out, HA.out]; simp; omega
        clear HN HNO
        go_wp2
        go_roundw
        case rel => exact ⟨k + 1, by omega, by go_num, G2.out, E2.out⟩
        case measure => simp [intOf]; omega
    · obtain rfl : k = q := by omega
      have E2 : Hid (fitsV V L caps ps = true) := by rw [Hid, E.out.2, underB, HLV.out]; exact HA.out
      clear hg hall
      go_wp2
      go_ret2
      exact ⟨ret_fit E2.out E.out.1, grown_trans G.out G2.out⟩

set_option maxHeartbeats 1000000 in
theorem RFits_any (V : Int) (A : Option Addr) (n c : Nat) (L : List Lk) (X : Option Addr) (q e : Nat) (caps : List Int) (P : Option Addr) (m d : Nat) (ps : List Pth) (w : World) {B B' B'' : Nat} (h : Lks w B A n L) (hB : B ≤ w.heap.size) (hx : Row w B'' X q caps) (hB'' : B'' ≤ w.heap.size) (hp : Pths w B' P m ps) (hB' : B' ≤ w.heap.size) :
    Calls Try.prog 15 #[.agg #[.int .i64 V, .slice A n c], .slice X q e, .slice P m d] w (Says w (fitV V L caps ps)) := by
  have HL := Lib.hid h.len
  have HLX := Lib.hid hx.len
  have HR := Lib.hid h
  have HX := Lib.hid hx
  have HP := Lib.hid hp
  have HR1 := Lib.hid (h.grown hB (grow0 w (.cells #[.int .i64 V, .slice A n c] 24)))
  have HX1 := Lib.hid (hx.grown hB'' (grow0 w (.cells #[.int .i64 V, .slice A n c] 24)))
  clear h hx hp
  go_enter Try.func15, Try.ntmps15
  go_wp2_with fail
  refine (RCaps_any V A n c L X q e caps _ HR1.out (by simp; omega) HX1.out).mono ?_
  rintro e1 w1 ⟨he1, g1⟩
  obtain ⟨g, o2⟩ := box1 [.int .i64 V, .slice A n c] g1
  obtain ⟨c0, c1⟩ := o2.two
  have G := Lib.hid g
  clear g g1 o2 HR1 HX1
  cases hmay : mayG V L
  · rw [hmay] at he1
    subst he1
    have E := Lib.hid (fits_graph (caps := caps) (ps := ps) hmay)
    go_wp2
    go_ret2
    exact ⟨ret_fit E.out.2 E.out.1, G.out⟩
  cases hcap : capsB L caps
  · rw [hmay, hcap] at he1
    subst he1
    have E := Lib.hid (fits_caps (V := V) (ps := ps) hcap)
    go_wp2
    go_ret2
    exact ⟨ret_fit E.out.2 E.out.1, G.out⟩
  rw [hmay, hcap] at he1
  subst he1
  have hqn : q = n := by
    simp only [capsB, Bool.and_eq_true, decide_eq_true_eq] at hcap
    have := HL.out; have := HLX.out; omega
  subst hqn
  go_wp2_with fail
  refine (RLoads_any V A q c L P m d ps _ (HR.out.grown hB G.out) (by have := G.out.size; omega) (HP.out.grown hB' G.out) (by have := G.out.size; omega)).mono ?_
  rintro e2 w2 ⟨v, rfl, hv, g2⟩
  have G := Lib.hid (grown_trans G.out g2)
  clear g2 c0 c1
  by_cases hz : loadsE V L ps = 0
  case neg =>
    have E := Lib.hid (fits_err hcap hz)
    have hne : (loadsE V L ps != 0) = true := by simp [hz]
    clear hz hv hcap
    generalize loadsE V L ps = z at *
    go_wp2
    go_ret2
    exact ⟨ret_fit E.out.2 E.out.1, G.out⟩
  have E := Lib.hid (fits_ok hcap hz)
  have hlen : (loadsV V L ps).length = q := (loadsV_len hz).trans HL.out
  rw [hz]
  rw [hlen] at hv
  obtain ⟨Av, cv, rfl, _, hrv⟩ := hv.row (loadsV_ok V L ps)
  have HRV := Lib.hid hrv
  have HXR := Lib.hid (HX.out.grown hB'' G.out)
  have HNN : Hid (∀ i : Nat, 0 ≤ (loadsV V L ps)[i]?.getD 0) := fun i => (loads_bd i).1
  clear hz hcap hlen hv hrv hmay
  generalize loadsV V L ps = xs at *
  go_wp2_with fail
  refine (Within_any X q e caps Av cv xs _ HXR.out HRV.out HNN.out).mono ?_
  rintro e3 w3 ⟨rfl, g3⟩
  have G := Lib.hid (grown_trans G.out g3)
  clear g3
  generalize underB caps xs = ub at *
  go_wp2
  go_ret2
  exact ⟨ret_fit E.out.2 E.out.1, G.out⟩

end Go.Proofs.Ytlpohlcmjnlbhaa
