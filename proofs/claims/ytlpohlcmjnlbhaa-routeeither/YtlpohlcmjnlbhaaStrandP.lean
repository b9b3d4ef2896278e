/-
  strand's Split, walked.
-/
import Derived.Test.YtlpohlcmjnlbhaaStrandA
import Derived.Test.YtlpohlcmjnlbhaaStrandC
import Derived.Test.YtlpohlcmjnlbhaaCycProg
set_option maxRecDepth 20000
namespace Go.Proofs.Ytlpohlcmjnlbhaa
open Go.RowKit

/-- A row of paths of the call's own, with its heads laid open. -/
structure PsM (w : World) (base : Nat) (v : Value) (ps : List Pth) (hs : List PH) : Prop where
  m : MineE pathE w base v ps.length hs
  p : ∀ j, j < ps.length → PartP w base v (hdr hs j) (at2 ps j)
  a : ∀ i j, i < ps.length → j < ps.length → i ≠ j → Apart (slH (hdr hs i)) (slH (hdr hs j))

theorem PsM.nil (w : World) (base : Nat) : PsM w base (.slice none 0 0) [] [] := ⟨MineE.nil pathE w base, fun j hj => (by cases hj), fun i j hi => (by cases hi)⟩

theorem PsM.own {w : World} {base b : Nat} {v : Value} {ps : List Pth} {hs : List PH} (h : PsM w base v ps hs) (hb : b ≤ base) : OwnP w b v ps.length ps :=
  ⟨rfl, hs, h.m.wide hb, fun j hj => ⟨(h.p j hj).1, (h.p j hj).2.1.wide hb, (h.p j hj).2.2⟩, h.a⟩

theorem PsM.part_ge {w : World} {base : Nat} {v : Value} {ps : List Pth} {hs : List PH} (h : PsM w base v ps hs) {j : Nat} (hj : j < ps.length) : ∀ g, (slH (hdr hs j)).ownBlock = some g → base ≤ g ∧ g < w.heap.size := fun g e => ⟨(h.p j hj).2.1.own_ge g e, (h.p j hj).2.1.own_lt g e⟩

theorem PsM.kept' {w w' : World} {base : Nat} {v : Value} {ps : List Pth} {hs : List PH} {row : Option Nat} (h : PsM w base v ps hs) (k : w.grownBy w' row) (hr : ∀ g, row = some g → g < base) : PsM w' base v ps hs :=
  ⟨h.m.kept' k (fun g e e2 => by have := h.m.own_ge g e; have := hr g e2; omega), fun j hj => ⟨(h.p j hj).1, (h.p j hj).2.1.kept' k (fun g e e2 => by have := (h.p j hj).2.1.own_ge g e; have := hr g e2; omega), (h.p j hj).2.2⟩, h.a⟩

theorem PsM.kept {w w' : World} {base : Nat} {v : Value} {ps : List Pth} {hs : List PH} (h : PsM w base v ps hs) (k : w.grownBy w' none) : PsM w' base v ps hs := h.kept' k (fun g e => by cases e)

/-- Memory that is new does not touch it. -/
theorem PsM.over {w w' : World} {base : Nat} {v : Value} {ps : List Pth} {hs : List PH} {x : Nat} {i : Nat} {u : Value} (h : PsM w base v ps hs) (k : w.grownBy w' none) (hx : w.heap.size ≤ x) : PsM (w'.setCell ⟨x, i, none⟩ u) base v ps hs := by
  have k2 : w'.grownBy (w'.setCell ⟨x, i, none⟩ u) (some x) := grown_set (World.grownBy.refl w' _) _
  refine ⟨(h.m.kept k).kept' k2 (fun g e e2 => ?_), fun j hj => ⟨(h.p j hj).1, ((h.p j hj).2.1.kept k).kept' k2 (fun g e e2 => ?_), (h.p j hj).2.2⟩, h.a⟩
  · injection e2 with e2
    have := h.m.own_lt g e
    omega
  · injection e2 with e2
    have := (h.p j hj).2.1.own_lt g e
    omega

theorem PsM.app {w w' : World} {base : Nat} {v v' : Value} {ps : List Pth} {hs : List PH} {hd : PH} {p : Pth} (h : PsM w base v ps hs) (hm : MineE pathE w' base v' (ps.length + 1) (hs ++ [hd])) (k : w.grownBy w' v.ownBlock) (c : v'.ownBlock = v.ownBlock ∨ v'.ownBlock = some w.heap.size) (np : PartP w base v hd p) (na : ∀ j, j < ps.length → Apart (slH (hdr hs j)) (slH hd)) : PsM w' base v' (ps ++ [p]) (hs ++ [hd]) := by
  have hl : hs.length = ps.length := h.m.length
  have old : ∀ j, j < ps.length → hdr (hs ++ [hd]) j = hdr hs j ∧ at2 (ps ++ [p]) j = at2 ps j := fun j hj => ⟨hdr_old (by omega), by unfold at2; rw [List.getElem?_append_left hj]⟩
  have new : hdr (hs ++ [hd]) ps.length = hd ∧ at2 (ps ++ [p]) ps.length = p := ⟨hdr_new hl, by unfold at2; simp⟩
  have hlen : (ps ++ [p]).length = ps.length + 1 := by simp
  refine ⟨by rw [hlen]; exact hm, fun j hj => ?_, fun i j hi hj hne => ?_⟩
  · rw [hlen] at hj
    by_cases e : j = ps.length
    · subst e
      rw [new.1, new.2]
      exact part_step np k c
    · rw [(old j (by omega)).1, (old j (by omega)).2]
      exact part_step (h.p j (by omega)) k c
  · rw [hlen] at hi hj
    by_cases e : i = ps.length
    · subst e
      rw [new.1, (old j (by omega)).1]
      exact apart_symm (na j (by omega))
    · rw [(old i (by omega)).1]
      by_cases e2 : j = ps.length
      · subst e2
        rw [new.1]
        exact na i (by omega)
      · rw [(old j (by omega)).1]
        exact h.a i j (by omega) (by omega) hne

theorem Mine.setNe {w : World} {base : Nat} {v : Value} {n : Nat} {xs : List Int} (h : Mine w base v n xs) {g : Nat} (hg : v.ownBlock ≠ some g) (i : Nat) (u : Value) : Mine (w.setCell ⟨g, i, none⟩ u) base v n xs :=
  h.kept' (grown_set (World.grownBy.refl w _) _) (fun k hk e => by
    injection e with e
    subst e
    exact hg hk)

structure SpM (w : World) (q V : Nat) (A : Option Addr) (n c : Nat) (R : Option Addr) (cr : Nat) (r : List Int) (v : Value) (ps : List Pth) (hs : List PH) (gp : Nat) (m : Int) (lv : Value) (ls : List Int) (wr : World) : Prop where
  g : w.grownBy wr none
  ob : Own wr w.heap.size 24 [.int .i64 (V : Nat), .slice A n c]
  mr : Mine wr (w.heap.size + 1) (.slice R n cr) n r
  pm : PsM wr q v ps hs
  gq : q ≤ gp
  op : Own wr gp 66 [.int .i64 m, lv]
  ml : Mine wr q lv ls.length ls
  av : Apart v lv
  ap : ∀ j, j < ps.length → Apart (slH (hdr hs j)) lv
  ag : v.ownBlock ≠ some gp

theorem SpM.put {w : World} {q V : Nat} {A : Option Addr} {n c g cr : Nat} {r : List Int} {v : Value} {ps : List Pth} {hs : List PH} {gp : Nat} {m : Int} {lv : Value} {ls : List Int} {wr : World} (h : SpM w q V A n c (some ⟨g, 0, none⟩) cr r v ps hs gp m lv ls wr) (hg : g < q) (hq : w.heap.size < g) {i : Nat} (hi : i < n) (x : Int) : SpM w q V A n c (some ⟨g, 0, none⟩) cr (r.set i x) v ps hs gp m lv ls (wr.setCell ⟨g, i, none⟩ (.int .i64 x)) := by
  have k : wr.grownBy (wr.setCell ⟨g, i, none⟩ (.int .i64 x)) (some g) := grown_set (World.grownBy.refl wr _) _
  have := h.gq
  exact ⟨grown_new h.g (by omega) _, h.ob.setOther (by omega) _, h.mr.set i x hi, h.pm.kept' k (fun g' e => by injection e with e; omega), h.gq, h.op.setOther (by omega) _, h.ml.setOther hg _ _, h.av, h.ap, h.ag⟩

theorem SpM.drewN {w : World} {q V : Nat} {A : Option Addr} {n c : Nat} {R : Option Addr} {cr : Nat} {r : List Int} {v : Value} {ps : List Pth} {hs : List PH} {gp : Nat} {m : Int} {lv : Value} {ls : List Int} {wr : World} (h : SpM w q V A n c R cr r v ps hs gp m lv ls wr) (k : Nat) : SpM w q V A n c R cr r v ps hs gp m lv ls (wr.drewN k) :=
  have k := grown_drewN (World.grownBy.refl wr none) k
  ⟨grown_trans h.g k, h.ob.kept k, h.mr.kept k, h.pm.kept k, h.gq, h.op.kept k, h.ml.kept k, h.av, h.ap, h.ag⟩

def SplRel (w : World) (q V : Nat) (A : Option Addr) (n c : Nat) (L : List Lk) (f : List Int) (s t : Int) (R : Option Addr) (cr : Nat) (v p o : Value) (wr : World) : Prop :=
  ∃ r ps hs gp m ls Al cl ok, p = .pointer (some ⟨gp, 0, none⟩) ∧ o = .bool ok ∧ SpM w q V A n c R cr r v ps hs gp m (.slice Al ls.length cl) ls wr ∧ StI V L f s t r ps ∧ ((ok = true ∧ WkIs L r s ls m ∧ endOf L s ls = t) ∨ (ok = false ∧ gainOf L r s = 0))

def SiRel (w : World) (q V : Nat) (A : Option Addr) (n c : Nat) (R : Option Addr) (cr : Nat) (r : List Int) (v : Value) (ps : List Pth) (hs : List PH) (gp : Nat) (m : Int) (lv : Value) (ls : List Int) (i : Value) (wr : World) : Prop :=
  ∃ k : Nat, k ≤ ls.length ∧ i = .int .i64 (k : Nat) ∧ SpM w q V A n c R cr (offK m ls r k) v ps hs gp m lv ls wr

/-- What first told, with the memory of its links, as the next state's. -/
theorem fp_next {w w' : World} {V : Nat} {L : List Lk} {f r : List Int} {s t m : Int} {lv : Value} {ok : Bool} {ps : List Pth} (hm : mayG (V : Nat) L = true) (hs : 0 ≤ s ∧ s < (V : Int)) (si : StI V L f s t r ps) (h : (ok = true ∧ ∃ ls, WkIs L r s ls m ∧ endOf L s ls = t ∧ Mine w' w.heap.size lv ls.length ls) ∨ (ok = false ∧ m = 0 ∧ lv = .slice none 0 0 ∧ ∃ ls m', WkIs L r s ls m' ∧ endOf L s ls ≠ t ∧ ∀ i, i < L.length → (at3 L i).1 = endOf L s ls → ¬ 0 < nAt r i)) :
    ∃ ls Al cl, lv = .slice Al ls.length cl ∧ Mine w' w.heap.size (.slice Al ls.length cl) ls.length ls ∧ ((ok = true ∧ WkIs L r s ls m ∧ endOf L s ls = t) ∨ (ok = false ∧ gainOf L r s = 0)) := by
  rcases h with ⟨h1, ls, h2, h3, h4⟩ | ⟨h1, _, h3, ls, m', h5, h6, h7⟩
  · obtain ⟨Al, cl, rfl, _⟩ := h4.sl
    exact ⟨ls, Al, cl, rfl, h4, .inl ⟨h1, h2, h3⟩⟩
  · exact ⟨[], none, 0, h3, Mine.nil _ _, .inr ⟨h1, (st_short hm hs si h5 h6 h7).2⟩⟩

theorem StI.bound {V : Nat} {L : List Lk} {f r : List Int} {s t : Int} {ps : List Pth} (h : StI V L f s t r ps) (hm : mayG (V : Nat) L = true) (hc : capsB L f = true) (i : Nat) : 0 ≤ nAt r i ∧ nAt r i ≤ 4611686018427387904 := by
  by_cases hi : i < L.length
  · have h1 := h.bd i hi
    have h0 : 0 ≤ loadQ (i : Int) (pairsOf ps) := by
      refine loadQ_nonneg (fun p hp => ?_) _
      simp only [pairsOf, List.mem_flatMap, List.mem_map] at hp
      obtain ⟨q, hq, x, hx, rfl⟩ := hp
      have := (good_parts (List.all_eq_true.1 h.good q hq)).1
      show 0 ≤ q.1
      omega
    have h2 := f_bd hc hi
    have h5 := may_sum hm (i + 1) (by omega)
    have h6 := (gk_bd (f := f) 0 hc i (by omega)).1
    rw [capSum] at h5
    have h7 : nAt f i = f[i]?.getD 0 := rfl
    omega
  · have : nAt r i = 0 := by
      unfold nAt
      rw [List.getElem?_eq_none (by have := h.len; omega)]
      rfl
    omega

theorem offW_bound {V : Nat} {L : List Lk} {f r : List Int} {s t m : Int} {ps : List Pth} {ls : List Int} (h : StI V L f s t r ps) (w : WkIs L r s ls m) (hb : ∀ i, 0 ≤ nAt r i ∧ nAt r i ≤ 4611686018427387904) {k : Nat} (hk : k ≤ ls.length) (i : Nat) : -4611686018427387904 ≤ nAt (offK m ls r k) i ∧ nAt (offK m ls r k) i ≤ 4611686018427387904 := by
  have e := offW_at (m := m) h.len (fun x hx => ⟨(w.has x hx).1, (w.has x hx).2.1⟩) i k hk
  have hn : (ls.take k).Nodup := (walk1_once w).sublist (List.take_sublist _ _)
  rw [load_once hn] at e
  have := hb i
  have := w.rate
  rw [e]
  split <;> omega

theorem walk1_okI {L : List Lk} {r : List Int} {s m : Int} {ls : List Int} (h : WkIs L r s ls m) (hl : L.length ≤ 16) : okI ls := fun i => by
  by_cases hi : i < ls.length
  · rw [List.getElem?_eq_getElem hi, Option.getD_some]
    have := h.has _ (List.getElem_mem hi)
    omega
  · rw [List.getElem?_eq_none (by omega)]
    simp

set_option maxHeartbeats 4000000 in
theorem Split_any (V s t : Int) (A : Option Addr) (n c : Nat) (ls : List Lk) (Y : Option Addr) (m e0 : Nat) (f : List Int) (w : World) {B B' : Nat} (h : Lks w B A n ls) (hB : B ≤ w.heap.size) (hy : Row w B' Y m f) (hB' : B' ≤ w.heap.size) :
    Calls Try.prog 25 #[.agg #[.int .i64 V, .slice A n c], .slice Y m e0, .int .i64 s, .int .i64 t] w (SplitPost w V ls f s t) := by
  have HL := Lib.hid h.len
  have HLY := Lib.hid hy.len
  have HR := Lib.hid h
  have HY := Lib.hid hy
  have HG0 := Lib.hid (grow0 w (.cells #[.int .i64 V, .slice A n c] 24))
  clear h hy
  go_enter Try.func25, Try.ntmps25
  go_wp2_with fail
  refine (FMay_any V s t A n c ls Y m e0 f Y m e0 f _ (HR.out.grown hB HG0.out) (by simp; omega) (HY.out.grown hB' HG0.out) (by simp; omega) (HY.out.grown hB' HG0.out) (by simp; omega)).mono ?_
  rintro e w1 ⟨rfl, g1⟩
  obtain ⟨g, o2⟩ := box1 [.int .i64 V, .slice A n c] g1
  have G := Lib.hid g
  have OB := Lib.hid o2
  have l1 := o2.lt
  clear g g1 o2 HG0
  cases hb : flowB V ls f f s t
  · have E : Hid (SplitIs V ls f s t [] 1500) := .inr ⟨hb, rfl, rfl⟩
    clear hb
    go_wp2
    go_ret2
    exact ⟨[], 1500, E.out, _, rfl, OwnP.nil _ _, G.out⟩
  obtain ⟨hmay, hcap⟩ := flow_v hb
  have h16 := may_small hmay
  have hmn := (capsB_parts hcap).1
  rw [HLY.out, HL.out] at hmn
  subst hmn
  rw [HL.out] at h16
  obtain ⟨vn, rfl⟩ : ∃ vn : Nat, V = (vn : Nat) := ⟨V.toNat, by omega⟩
  obtain ⟨_, hsv, _, hst, _⟩ := flow_parts hb
  have HFL := Lib.hid hb
  have HMAY := Lib.hid hmay
  have HCAP := Lib.hid hcap
  have HSV : Hid (0 ≤ s ∧ s < (vn : Int)) := hsv
  have HST := Lib.hid hst
  clear hb hmay hcap hsv hst
  have hgs := G.out.size
  obtain ⟨p0, p1⟩ := OB.out.two
  go_wp2_with fail
  refine (Cancel_any vn A m c ls Y m e0 f _ (HR.out.grown hB G.out) (by omega) (HY.out.grown hB' G.out) (by omega)).mono ?_
  rintro e w2 ⟨b, z, hz, v, rfl, mr, k⟩
  obtain rfl : z = 0 := by
    rcases hz with ⟨_, z, _⟩ | ⟨q, _⟩
    · exact z
    · rw [HMAY.out, HCAP.out] at q; cases q
  have SI := Lib.hid (st_first HFL.out hz)
  have hbl : b.length = m := by rw [SI.out.len, HL.out]
  rw [hbl] at mr
  have hRlt := mr.own_lt
  obtain ⟨R, cr, rfl, _⟩ := mr.sl
  have G := Lib.hid (grown_trans G.out k)
  have OB := Lib.hid (OB.out.kept k)
  have hs2 := k.size
  have HBD := Lib.hid (SI.out.bound HMAY.out HCAP.out)
  have MR := Lib.hid (mr.wide (b := w.heap.size + 1) (by omega))
  have RR := Lib.hid (mr.rowAt (okI_of_nat HBD.out))
  have HRQ : Hid (∀ g, (Value.slice R m cr).ownBlock = some g → g < w2.heap.size) := hRlt
  clear k mr hz p0 p1 hbl hRlt
  obtain ⟨p0, p1⟩ := OB.out.two
  go_wp2_with fail
  refine (sfirst_any vn A m c ls R cr b s t _ (HR.out.grown hB G.out) (by omega) RR.out (Nat.le_refl _) HMAY.out HSV.out SI.out.cyc (fun i => (HBD.out i).2)).mono ?_
  rintro e w3 ⟨pm, lv, ok, rfl, k, hcase⟩
  obtain ⟨xs, Al, cl, rfl, mx, hnx⟩ := fp_next HMAY.out HSV.out SI.out hcase
  have hs3 := k.size
  have SP0 : Hid (SpM w w2.heap.size vn A m c R cr b (.slice none 0 0) [] [] w3.heap.size pm (.slice Al xs.length cl) xs (w3.alloc (.cells #[.int .i64 pm, .slice Al xs.length cl] 66))) :=
    ⟨grown_alloc (grown_trans G.out k) _, (OB.out.kept k).alloc _, (MR.out.kept k).kept (grow0 _ _), PsM.nil _ _, hs3, Own.new _ _ _, mx.kept (grow0 _ _), (apart_nil _).1, fun j hj => (by cases hj), (by intro e; cases e)⟩
  have HNX := Lib.hid hnx
  have hq : w.heap.size + 1 ≤ w2.heap.size := by omega
  generalize w2.heap.size = q at *
  clear k mx hcase hnx G OB MR RR hs2 p0 p1
  go_upto_region 6 with fail
  generalize w3.heap.size = gp0 at *
  generalize w3.alloc (.cells #[.int .i64 pm, .slice Al xs.length cl] 66) = w4 at *
  have HS : Hid (SplRel w q vn A m c ls f s t R cr (.slice none 0 0) (.pointer (some ⟨gp0, 0, none⟩)) (.bool ok) w4) := ⟨b, [], [], gp0, pm, xs, Al, cl, ok, rfl, rfl, SP0.out, SI.out, HNX.out⟩
  clear SP0 SI HNX HBD
  go_loopw [12, 13, 14] (fun v p o wr => SplRel w q vn A m c ls f s t R cr v p o wr) (fun v _ _ _ => 17 - lenV v)
  case atStart => exact HS.out
  case round =>
    clear HS hs3
    obtain ⟨r, ps, hs, gp, pm, xs, Al, cl, ok, rfl, rfl, sp, si, hnx⟩ := hrel
    have SP := Lib.hid sp
    have SI := Lib.hid si
    obtain ⟨Ap, cp, rfl⟩ := (sp.pm.own (Nat.le_refl _)).sl
    clear sp si
    rcases hnx with ⟨rfl, wk, he⟩ | ⟨rfl, hg0⟩
    case inr =>
      have E := Lib.hid (st_end HFL.out SI.out hg0)
      clear hg0
      go_wp2
      go_ret2
      exact ⟨ps, 0, E.out, _, rfl, SP.out.pm.own (by omega), SP.out.g⟩
    have WK := Lib.hid wk
    have HE := Lib.hid he
    have hmst := walk1_most HMAY.out HSV.out wk
    have NX := st_next HMAY.out HSV.out HST.out SI.out wk he
    have HLT := Lib.hid NX.2
    have HN := Lib.hid NX.1
    have HBR := Lib.hid (SI.out.bound HMAY.out HCAP.out)
    have OKX := Lib.hid (walk1_okI wk (by rw [HL.out]; omega))
    have SP0 : Hid (SpM w q vn A m c R cr (offK pm xs r 0) (.slice Ap ps.length cp) ps hs gp pm (.slice Al xs.length cl) xs wr) := SP.out
    have HS : Hid (SiRel w q vn A m c R cr r (.slice Ap ps.length cp) ps hs gp pm (.slice Al xs.length cl) xs (.int .i64 0) wr) := ⟨0, Nat.zero_le _, rfl, SP0.out⟩
    obtain ⟨p0, p1⟩ := SP.out.op.two
    clear wk he NX SP SP0
    go_wp2
    clear p0 p1
    go_loopw [50] (fun i wi => SiRel w q vn A m c R cr r (.slice Ap ps.length cp) ps hs gp pm (.slice Al xs.length cl) xs i wi) (fun i _ => xs.length - (intOf i).toNat)
    case atStart => exact HS.out
    case round =>
      clear HS
      obtain ⟨k, hk, rfl, sp⟩ := hrel
      have SP := Lib.hid sp
      have HOB := Lib.hid (offW_bound SI.out WK.out HBR.out hk)
      have RK := Lib.hid (sp.mr.rowAt (off_okI HOB.out))
      have MK := Lib.hid (sp.ml.rowAt OKX.out)
      obtain ⟨p0, p1⟩ := sp.op.two
      clear sp
      by_cases hlt : k < xs.length
      · obtain ⟨j0, j1, _⟩ := WK.out.has _ (List.getElem_mem hlt)
        have hxk : xs[k]?.getD 0 = xs[k] := by rw [List.getElem?_eq_getElem hlt, Option.getD_some]
        obtain ⟨j, hj⟩ : ∃ j : Nat, nAt xs k = (j : Int) := ⟨(xs[k]).toNat, by rw [nAt, hxk]; omega⟩
        have hjm : j < m := by
          have : nAt xs k = xs[k] := hxk
          have := HL.out
          omega
        obtain ⟨bl, ol, rfl, _, hcl⟩ := MK.out.at_ (by omega)
        have d0 := hcl k hlt
        have hj' : xs[k]?.getD 0 = (j : Int) := hj
        rw [hj'] at d0
        obtain ⟨g, cr', hR, hgq, _, _⟩ := SP.out.mr.shape (by omega) (off_okI HOB.out)
        injection hR with hR _ hcr
        subst hR hcr
        have y0 := RK.out.cellAt (i := j) hjm
        have hg1 := HRQ.out g rfl
        rw [Nat.zero_add] at y0
        have f0 := SP.out.mr.frozen j
        have HN1 : Hid (offK pm xs r (k + 1) = (offK pm xs r k).set j (nAt (offK pm xs r k) j - pm)) := by rw [Hid, offK, hj, Int.toNat_natCast]
        have CP := Lib.hid (SP.out.put hg1 (by omega) hjm (nAt (offK pm xs r k) j - pm))
        rw [← HN1.out] at CP
        have hy0 : (offK pm xs r k)[j]?.getD 0 = nAt (offK pm xs r k) j := rfl
        rw [hy0] at y0
        have hob := HOB.out j
        have hxx := WK.out.rate
        have hw : IntKind.i64.wrap (nAt (offK pm xs r k) j - pm) = nAt (offK pm xs r k) j - pm := IntWalk.i64_in _ (by omega)
        clear hcl hj hj' hy0 HN1 HOB hob hxx RK MK j0 j1 hxk
        generalize nAt (offK pm xs r k) j = y at *
        go_upto_region 11 with fail
        go_still_tail 8, (by kernel_rfl)
        go_wp2
        go_roundw
        case rel => exact ⟨k + 1, by omega, by go_num, by first | exact CP.out | exact CP.out.drewN 1⟩
        case measure => simp [intOf]; omega
      · obtain rfl : k = xs.length := by omega
        have hln := HLT.out
        have hl16 := HL.out
        have hgz := SP.out.g.size
        have hgl := SP.out.op.lt
        have hqg := SP.out.gq
        have hmax : ps.length + 1 ≤ maxLen := by unfold maxLen; omega
        have HM1 := Lib.hid (SP.out.pm.m.kept (grow0 _ (.cells #[.int .i64 pm, .slice Al xs.length cl] 66)))
        clear RK MK HOB
        go_wp2_with (first | (at_builtin; refine wpList_appE pathE _ rfl _ _ rfl q _ _ hs rfl HM1.out _ 1 1 [(pm, Al, xs.length, cl)] rfl (Elts.lit (E := pathE) [(pm, Al, xs.length, cl)] rfl rfl rfl (by simp)) (by simp) hmax (by show _ * 32 ≤ _; omega) (by simp; omega) ?_))
        intro v5 w5 hm5 hg5 ho5
        have gal := grow0 wr (.cells #[.int .i64 pm, .slice Al xs.length cl] 66)
        have hvge := HM1.out.own_ge
        have PS5 := Lib.hid ((SP.out.pm.kept gal).app (p := (pm, xs)) hm5 hg5 (ho5.imp id (fun e => by rw [e]; simp)) ⟨rfl, SP.out.ml.kept gal, SP.out.av⟩ SP.out.ap)
        have OP5 := Lib.hid ((SP.out.op.kept gal).kept' hg5 SP.out.ag)
        have OB5 := Lib.hid ((SP.out.ob.kept gal).kept' hg5 (fun e => by have := hvge _ e; omega))
        have MR5 := Lib.hid ((SP.out.mr.kept gal).kept' hg5 (fun g e e2 => by have := hvge _ e2; have := HRQ.out g e; omega))
        have G5 := Lib.hid (grown_none (grown_trans SP.out.g gal) hg5 (fun g e => by have := hvge _ e; omega))
        have hs5 := hg5.size
        rw [show (wr.alloc (.cells #[.int .i64 pm, .slice Al xs.length cl] 66)).heap.size = wr.heap.size + 1 by simp] at hs5
        obtain ⟨A5, c5, rfl, _⟩ := hm5.row
        obtain ⟨p0, p1⟩ := OP5.out.two
        clear hm5 hg5 ho5 gal hvge HM1 SP
        go_upto_region 7 with fail
        clear p0 p1
        have hsz6 : (w5.alloc (.cells #[.int .i64 pm, .slice Al xs.length cl] 66)).heap.size = w5.heap.size + 1 := by simp
        have G6 := Lib.hid (grow0 w5 (.cells #[.int .i64 pm, .slice Al xs.length cl] 66))
        have OP6 := Lib.hid (Own.new w5 66 [.int .i64 pm, .slice Al xs.length cl])
        generalize w5.alloc (.cells #[.int .i64 pm, .slice Al xs.length cl] 66) = w6 at *
        have G5' := Lib.hid (grown_trans G5.out G6.out)
        have RR6 := Lib.hid ((MR5.out.kept G6.out).rowAt (okI_of_nat (HN.out.bound HMAY.out HCAP.out)))
        obtain ⟨g0, g1⟩ := (OB5.out.kept G6.out).two
        have hg5s := G5.out.size
        go_wp2_with fail
        refine (sfirst_any vn A m c ls R cr (offK pm xs r xs.length) s t _ (HR.out.grown hB G5'.out) (by omega) RR6.out (Nat.le_refl _) HMAY.out HSV.out HN.out.cyc (fun i => (HN.out.bound HMAY.out HCAP.out i).2)).mono ?_
        rintro e w7 ⟨pm2, lv, ok2, rfl, k7, hcase⟩
        obtain ⟨ys, A7, c7, rfl, my, hnx⟩ := fp_next HMAY.out HSV.out HN.out hcase
        have K7 := Lib.hid (grown_trans G6.out k7)
        have HNX := Lib.hid hnx
        have OP7 := Lib.hid (OP6.out.kept k7)
        have hmge := my.own_ge
        have hvlt := PS5.out.m.own_lt
        have SP7 : Hid (SpM w q vn A m c R cr (offK pm xs r xs.length) (.slice A5 (ps.length + 1) c5) (ps ++ [(pm, xs)]) (hs ++ [(pm, Al, xs.length, cl)]) w5.heap.size pm2 (.slice A7 ys.length c7) ys ((w7.setCell ⟨w5.heap.size, 0, none⟩ (.int .i64 pm2)).setCell ⟨w5.heap.size, 1, none⟩ (.slice A7 ys.length c7))) := by
          refine ⟨grown_new (grown_new (grown_trans G5.out K7.out) (by omega) _) (by omega) _, ((OB5.out.kept K7.out).setOther (by omega) _).setOther (by omega) _, ((MR5.out.kept K7.out).setNe (fun e => ?_) _ _).setNe (fun e => ?_) _ _, PS5.out.over (grown_new K7.out (Nat.le_refl _) _) (Nat.le_refl _), by omega, (OP7.out.setAt0 _).setAt1 _, ((my.wide (by omega)).setNe (fun e => ?_) _ _).setNe (fun e => ?_) _ _, fun g e e2 => ?_, fun j hj g e e2 => ?_, fun e => ?_⟩
          · have := HRQ.out _ e; omega
          · have := HRQ.out _ e; omega
          · have := hmge _ e; omega
          · have := hmge _ e; omega
          · have := hvlt _ e; have := hmge _ e2; omega
          · have := (PS5.out.part_ge hj g e).2; have := hmge _ e2; omega
          · have := hvlt _ e; omega
        obtain ⟨p0, p1⟩ := OP7.out.two
        have f0 := OP7.out.frozen 0
        have f1 := OP7.out.frozen 1
        clear my hcase hnx hmge hvlt k7 g0 g1 RR6 OP6 OP7 K7 G6
        go_wp2
        go_roundw
        case rel => exact ⟨_, _, _, _, pm2, ys, A7, c7, ok2, rfl, rfl, SP7.out, HN.out, HNX.out⟩
        case measure => simp [lenV]; omega

end Go.Proofs.Ytlpohlcmjnlbhaa
