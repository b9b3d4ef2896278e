/-
  cycle's Find and Cancel, walked.
-/
import Derived.Test.YtlpohlcmjnlbhaaCycPost
import Derived.Test.YtlpohlcmjnlbhaaJG
import Derived.Test.YtlpohlcmjnlbhaaJF
set_option maxRecDepth 20000
namespace Go.Proofs.Ytlpohlcmjnlbhaa
open Go.RowKit

theorem fst_yes {V : Int} {L : List Lk} {f ls : List Int} (hm : (mayG V L && capsB L f) = true) (h : FstIs L f ls) : FindIs V L f ls (decide (0 < ls.length)) 0 := by
  refine .inl ⟨hm, rfl, ?_⟩
  rcases h with h | ⟨rfl, h⟩
  · have := h.two
    exact .inl ⟨by simp; omega, h⟩
  · exact .inr ⟨rfl, rfl, h⟩

/-- A number at a place of memory. -/
def intAt (w : World) (A : Option Addr) (i : Nat) : Int := match A with | some ad => (match w.cell? ⟨ad.block, ad.off + i, none⟩ with | some (.int _ x) => x | _ => 0) | none => 0

def sumAt (w : World) (A : Option Addr) (n : Nat) : Nat := (sumN (fun i => intAt w A i) n).toNat

theorem sum_mine {w : World} {base : Nat} {A : Option Addr} {n c : Nat} {b : List Int} (h : Mine w base (.slice A n c) n b) (ho : okI b) : sumAt w A n = (sumL b).toNat := by
  have r := h.rowAt ho
  unfold sumAt sumL
  rw [r.len, sumN_congr n fun i hi => ?_]
  obtain ⟨bl, off, rfl, _, hc⟩ := r.at_ (by omega)
  simp [intAt, hc i hi]

structure CaM (w : World) (q vn : Nat) (A : Option Addr) (n c : Nat) (R : Option Addr) (cr : Nat) (b : List Int) (v : Value) (ls : List Int) (wr : World) : Prop where
  g : w.grownBy wr none
  ob : Own wr w.heap.size 24 [.int .i64 (vn : Nat), .slice A n c]
  mr : Mine wr (w.heap.size + 1) (.slice R n cr) n b
  ml : Mine wr q v ls.length ls

def CaRel (w : World) (q vn : Nat) (A : Option Addr) (n c : Nat) (L : List Lk) (f : List Int) (R : Option Addr) (cr : Nat) (v : Value) (wr : World) : Prop :=
  ∃ b ls, CaM w q vn A n c R cr b v ls wr ∧ q ≤ wr.heap.size ∧ RestI vn L f b ∧ FstIs L b ls

def CbRel (w : World) (q vn : Nat) (A : Option Addr) (n c : Nat) (R : Option Addr) (cr : Nat) (b : List Int) (v : Value) (ls : List Int) (x : Int) (i : Value) (wr : World) : Prop :=
  ∃ k : Nat, k ≤ ls.length ∧ i = .int .i64 (k : Nat) ∧ CaM w q vn A n c R cr (offK x ls b k) v ls wr ∧ q ≤ wr.heap.size

theorem CaM.put {w : World} {q vn : Nat} {A : Option Addr} {n c g cr : Nat} {b : List Int} {v : Value} {ls : List Int} {wr : World} (h : CaM w q vn A n c (some ⟨g, 0, none⟩) cr b v ls wr) (hg : g < q) (hq : w.heap.size < g) {i : Nat} (hi : i < n) (x : Int) : CaM w q vn A n c (some ⟨g, 0, none⟩) cr (b.set i x) v ls (wr.setCell ⟨g, i, none⟩ (.int .i64 x)) := by
  refine ⟨grown_new h.g (by omega) _, h.ob.setOther (by omega) _, h.mr.set i x hi, ?_⟩
  exact h.ml.kept' (grown_set (World.grownBy.refl wr _) _) (fun k hk e => by
    injection e with e
    have := h.ml.own_ge k hk
    omega)

theorem RestI.bound {V : Nat} {L : List Lk} {f b : List Int} (h : RestI V L f b) (hm : mayG (V : Nat) L = true) (hc : capsB L f = true) (i : Nat) : 0 ≤ nAt b i ∧ nAt b i ≤ 4611686018427387904 := by
  by_cases hi : i < L.length
  · have h1 := h.bd i hi
    have h2 := f_bd hc hi
    have h5 := may_sum hm (i + 1) (by omega)
    have h6 := (gk_bd (f := f) 0 hc i (by omega)).1
    rw [capSum] at h5
    unfold nAt at h1 ⊢
    omega
  · have : nAt b i = 0 := by
      unfold nAt
      rw [List.getElem?_eq_none (by have := h.len; omega)]
      rfl
    omega

theorem okI_of_nat {b : List Int} (h : ∀ i, 0 ≤ nAt b i ∧ nAt b i ≤ 4611686018427387904) : okI b := fun i => by
  have := h i
  unfold nAt at this
  omega

theorem turns_ok16 {L : List Lk} {b ls : List Int} (h : TurnsIs L b ls) (hl : L.length ≤ 16) : okI ls := fun i => by
  by_cases hi : i < ls.length
  · obtain ⟨x, y, _⟩ := h.has i hi
    omega
  · rw [List.getElem?_eq_none (by omega)]
    simp

theorem off_bound {V : Nat} {L : List Lk} {f b ls : List Int} {x : Int} (h : RestI V L f b) (hm : mayG (V : Nat) L = true) (hc : capsB L f = true) (ht : TurnsIs L b ls) (hx : 0 ≤ x ∧ x ≤ 4611686018427387904) {k : Nat} (hk : k ≤ ls.length) (i : Nat) : -4611686018427387904 ≤ nAt (offK x ls b k) i ∧ nAt (offK x ls b k) i ≤ 4611686018427387904 := by
  have := h.bound hm hc i
  rcases off_at (m := x) ht h.len i k hk with ⟨_, e⟩ | ⟨_, e⟩ <;> rw [e] <;> omega

theorem off_okI {b : List Int} (h : ∀ i, -4611686018427387904 ≤ nAt b i ∧ nAt b i ≤ 4611686018427387904) : okI b := fun i => by
  have := h i
  unfold nAt at this
  omega

theorem cancel_yes {V : Nat} {L : List Lk} {f b : List Int} (hb : (mayG (V : Nat) L && capsB L f) = true) (h : RestI V L f b) (hn : ¬ CycP L b) : CancelIs (V : Nat) L f b 0 :=
  .inl ⟨hb, rfl, h.len, h.bd, fun v hv => h.gain v (by omega), hn⟩

set_option maxHeartbeats 4000000 in
theorem Cancel_any (V : Int) (A : Option Addr) (n c : Nat) (ls : List Lk) (Y : Option Addr) (m e0 : Nat) (f : List Int) (w : World) {B B' : Nat} (h : Lks w B A n ls) (hB : B ≤ w.heap.size) (hy : Row w B' Y m f) (hB' : B' ≤ w.heap.size) :
    Calls Try.prog 46 #[.agg #[.int .i64 V, .slice A n c], .slice Y m e0] w (CancelPost w V ls f) := by
  have HL := Lib.hid h.len
  have HLY := Lib.hid hy.len
  have HR := Lib.hid h
  have HY := Lib.hid hy
  have HG0 := Lib.hid (grow0 w (.cells #[.int .i64 V, .slice A n c] 24))
  clear h hy
  go_enter Try.func46, Try.ntmps46
  go_wp2_with fail
  refine (cfits_any V A n c ls Y m e0 f _ (HR.out.grown hB HG0.out) (by simp; omega) (HY.out.grown hB' HG0.out) (by simp; omega)).mono ?_
  rintro e w1 ⟨rfl, g1⟩
  obtain ⟨g, o2⟩ := box1 [.int .i64 V, .slice A n c] g1
  have G := Lib.hid g
  have OB := Lib.hid o2
  have l1 := o2.lt
  clear g g1 o2 HG0
  cases hb : (mayG V ls && capsB ls f)
  · have E : Hid (CancelIs V ls f [] 1400) := .inr ⟨hb, rfl, rfl⟩
    clear hb
    go_wp2
    go_ret2
    exact ⟨[], 1400, E.out, _, rfl, Mine.nil _ _, G.out⟩
  have HBB := Lib.hid hb
  rw [Bool.and_eq_true] at hb
  have HMAY := Lib.hid hb.1
  have HCAP := Lib.hid hb.2
  have h16 := may_small hb.1
  have hmn := (capsB_parts hb.2).1
  rw [HLY.out, HL.out] at hmn
  subst hmn
  rw [HL.out] at h16
  obtain ⟨vn, rfl⟩ : ∃ vn : Nat, V = (vn : Nat) := ⟨V.toNat, by omega⟩
  have RF := Lib.hid (rest_first (V := vn) hb.2)
  clear hb
  have hgs := G.out.size
  go_wp2_with fail
  refine (Clone_any Y m e0 f _ (HY.out.grown hB' G.out) (by omega) (by omega)).mono ?_
  rintro e w2 ⟨v, rfl, mr, k⟩
  have hRlt := mr.own_lt
  obtain ⟨R, cr, rfl, _⟩ := mr.sl
  have G := Lib.hid (grown_trans G.out k)
  have OB := Lib.hid (OB.out.kept k)
  have hs2 := k.size
  have MR := Lib.hid (mr.wide (b := w.heap.size + 1) (by omega))
  have RR := Lib.hid (mr.rowAt (okI_of_nat (RF.out.bound HMAY.out HCAP.out)))
  clear k mr
  obtain ⟨p0, p1⟩ := OB.out.two
  go_wp2_with fail
  refine (first_any vn A m c ls R cr f _ (HR.out.grown hB G.out) (by omega) RR.out (Nat.le_refl _) HMAY.out).mono ?_
  rintro e w3 ⟨xs, hx, v, rfl, mx, k⟩
  have HS : Hid (CaRel w w2.heap.size vn A m c ls f R cr v w3) := ⟨f, xs, ⟨grown_trans G.out k, OB.out.kept k, MR.out.kept k, mx⟩, k.size, RF.out, hx⟩
  have HRQ : Hid (∀ g, (Value.slice R m cr).ownBlock = some g → g < w2.heap.size) := hRlt
  have hqs : w.heap.size + 1 ≤ w2.heap.size := by omega
  generalize w2.heap.size = q at *
  clear k mx hx p0 p1 G OB MR RR RF hRlt hs2
  go_wp2
  go_loopw [7] (fun v wr => CaRel w q vn A m c ls f R cr v wr) (fun _ wr => sumAt wr R m)
  case atStart => exact HS.out
  case round =>
    clear HS
    obtain ⟨b, xs, ca, hq, ri, fi⟩ := hrel
    have CA := Lib.hid ca
    have RI := Lib.hid ri
    have HOK := Lib.hid (okI_of_nat (ri.bound HMAY.out HCAP.out))
    obtain ⟨Al, cl, rfl, _⟩ := ca.ml.sl
    clear ca ri
    rcases fi with ti | ⟨rfl, hno⟩
    case inr =>
      have E := Lib.hid (cancel_yes HBB.out RI.out hno)
      clear hno
      go_wp2
      go_ret2
      exact ⟨b, 0, E.out, _, rfl, by rw [RI.out.len, HL.out]; exact CA.out.mr.wide (by omega), CA.out.g⟩
    have TI := Lib.hid ti
    have t2 := ti.two
    have tm := ti.most
    rw [HL.out] at tm
    obtain ⟨g, cr', hR, hgq, _, _⟩ := CA.out.mr.shape (by omega) HOK.out
    injection hR with hR _ hcr
    subst hR hcr
    have hg1 := HRQ.out g rfl
    have ML := Lib.hid (CA.out.ml.rowAt (turns_ok16 ti (by have := HL.out; omega)))
    have MR := Lib.hid (CA.out.mr.rowAt HOK.out)
    have HSUM := Lib.hid (sum_mine CA.out.mr HOK.out)
    have HBD : Hid (∀ j, j < xs.length → 0 ≤ nAt xs j ∧ nAt xs j < m) := fun j hj => by
      obtain ⟨x, y, _⟩ := TI.out.hasN j hj
      rw [HL.out] at y
      exact ⟨x, y⟩
    clear ti
    go_wp2_with fail
    refine (leastOf_any _ m cr b Al xs.length cl xs _ MR.out ML.out (by omega) HBD.out).mono ?_
    rintro e w4 ⟨x, lx, rfl, k⟩
    have CA4 : Hid (CaM w q vn A m c (some ⟨g, 0, none⟩) cr b (.slice Al xs.length cl) xs w4) := ⟨grown_trans CA.out.g k, CA.out.ob.kept k, CA.out.mr.kept k, CA.out.ml.kept k⟩
    have HX : Hid (0 ≤ x ∧ x ≤ 4611686018427387904) := by
      obtain ⟨j, hj, e⟩ := lx.hit
      have := RI.out.bound HMAY.out HCAP.out (nAt xs j).toNat
      rw [Hid]
      omega
    have LX := Lib.hid lx
    have HS : Hid (CbRel w q vn A m c (some ⟨g, 0, none⟩) cr b (.slice Al xs.length cl) xs x (.int .i64 0) w4) := ⟨0, Nat.zero_le _, rfl, CA4.out, by have := k.size; omega⟩
    clear k lx CA4 ML MR CA
    go_wp2
    go_loopw [31] (fun i wi => CbRel w q vn A m c (some ⟨g, 0, none⟩) cr b (.slice Al xs.length cl) xs x i wi) (fun i _ => xs.length - (intOf i).toNat)
    case atStart => exact HS.out
    case round =>
      clear HS
      obtain ⟨k, hk, rfl, ca, hq2⟩ := hrel
      have CA := Lib.hid ca
      have HOB := Lib.hid (off_bound RI.out HMAY.out HCAP.out TI.out HX.out hk)
      have RK := Lib.hid (ca.mr.rowAt (off_okI HOB.out))
      have MK := Lib.hid (ca.ml.rowAt (turns_ok16 TI.out (by have := HL.out; omega)))
      clear ca
      by_cases hlt : k < xs.length
      · obtain ⟨j0, j1⟩ := HBD.out k hlt
        obtain ⟨j, hj⟩ : ∃ j : Nat, nAt xs k = (j : Int) := ⟨(nAt xs k).toNat, by omega⟩
        obtain ⟨bl, ol, rfl, _, hcl⟩ := MK.out.at_ (by omega)
        have d0 := hcl k hlt
        have hj' : xs[k]?.getD 0 = (j : Int) := hj
        rw [hj'] at d0
        have hjm : j < m := by omega
        have y0 := RK.out.cellAt (i := j) hjm
        rw [Nat.zero_add] at y0
        have f0 := CA.out.mr.frozen j
        have HN : Hid (offK x xs b (k + 1) = (offK x xs b k).set j (nAt (offK x xs b k) j - x)) := by rw [Hid, offK, hj, Int.toNat_natCast]
        have CP := Lib.hid (CA.out.put hg1 (by omega) hjm (nAt (offK x xs b k) j - x))
        rw [← HN.out] at CP
        have hy0 : (offK x xs b k)[j]?.getD 0 = nAt (offK x xs b k) j := rfl
        rw [hy0] at y0
        have hob := HOB.out j
        have hxx := HX.out
        have hw : IntKind.i64.wrap (nAt (offK x xs b k) j - x) = nAt (offK x xs b k) j - x := IntWalk.i64_in _ (by omega)
        clear hcl hj hj' hy0 HN HOB hob hxx RK MK j0 j1
        generalize nAt (offK x xs b k) j = y at *
        go_wp2
        go_roundw
        case rel => exact ⟨k + 1, by omega, by go_num, CP.out, by simp [World.setCell]; omega⟩
        case measure => simp [intOf]; omega
      · obtain rfl : k = xs.length := by omega
        obtain ⟨r1, r2⟩ := rest_turn RI.out TI.out LX.out
        have R1 := Lib.hid r1
        have R2 := Lib.hid r2
        have hgs2 := CA.out.g.size
        obtain ⟨p0, p1⟩ := CA.out.ob.two
        clear r1 r2 MK HOB RI LX TI
        generalize offK x xs b xs.length = b2 at *
        go_wp2_with fail
        refine (first_any vn A m c ls _ cr b2 _ (HR.out.grown hB CA.out.g) (by omega) RK.out (Nat.le_refl _) HMAY.out).mono ?_
        rintro e w5 ⟨ys, hy, v, rfl, my, k⟩
        have C5 : Hid (CaM w q vn A m c (some ⟨g, 0, none⟩) cr b2 v ys w5) := ⟨grown_trans CA.out.g k, CA.out.ob.kept k, CA.out.mr.kept k, my.wide hq2⟩
        have HQ5 : Hid (q ≤ w5.heap.size) := by have := k.size; rw [Hid]; omega
        have HY5 := Lib.hid hy
        have HS5 := Lib.hid (sum_mine C5.out.mr (okI_of_nat (R1.out.bound HMAY.out HCAP.out)))
        clear k my hy CA RK p0 p1
        go_wp2
        go_roundw
        case rel => exact ⟨b2, ys, C5.out, HQ5.out, R1.out, HY5.out⟩
        case measure => rw [HS5.out, HSUM.out]; exact R2.out

end Go.Proofs.Ytlpohlcmjnlbhaa
