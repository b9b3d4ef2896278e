/-
  Rows of paths: read, copied, compared.
-/
import Derived.Test.YtmodkhcfihlhgaaMathBundle
import Derived.Test.YtmodkhcfihlhgaaPathLawA
namespace Go.Proofs.Ytmodkhcfihlhgaa
open Go.RowKit

abbrev PH := Int × Option Addr × Nat × Nat

def pathE : Elt PH where
  z := (0, none, 0, 0)
  enc p := [.int .i64 p.1, .slice p.2.1 p.2.2.1 p.2.2.2]
  T := 51
  L := 25
  size := 2
  bytes := 32
  len _ := rfl
  one _ u hu := by
    simp only [List.mem_cons, List.not_mem_nil, or_false] at hu
    rcases hu with rfl | rfl <;> rfl
  pos := by decide
  und := Try.underlying25
  info := by kernel_rfl

/-- A row of paths: rates, and rows of links. -/
structure Pths (w : World) (B : Nat) (A : Option Addr) (n : Nat) (ps : List Pth) : Prop where
  len : ps.length = n
  small : n ≤ 9223372036854775807
  ok : ∀ i : Nat, bd64 (rt ps i)
  at_ : ∀ i, i < n → ∃ b off X m d, A = some ⟨b, off, none⟩ ∧ b < B ∧ w.cell? ⟨b, off + i * 2, none⟩ = some (.int .i64 (rt ps i)) ∧ w.cell? ⟨b, off + i * 2 + 1, none⟩ = some (.slice X m d) ∧ Row w B X m (lk ps i)

theorem Pths.keep {w w' : World} {B : Nat} {A : Option Addr} {n : Nat} {ps : List Pth} (h : Pths w B A n ps) (k : ∀ p : Addr, p.block < B → w'.cell? p = w.cell? p) : Pths w' B A n ps :=
  ⟨h.len, h.small, h.ok, fun i hi => by
    obtain ⟨b, off, X, m, d, hA, hb, c0, c1, hr⟩ := h.at_ i hi
    exact ⟨b, off, X, m, d, hA, hb, (k _ hb).trans c0, (k _ hb).trans c1, hr.keep k⟩⟩

theorem Pths.grown {w w' : World} {B : Nat} {A : Option Addr} {n : Nat} {ps : List Pth} (h : Pths w B A n ps) (hB : B ≤ w.heap.size) (k : w.grownBy w' none) : Pths w' B A n ps :=
  h.keep fun _ hp => grown_cell k (by omega) (by simp)

theorem Pths.grown' {w w' : World} {B : Nat} {A : Option Addr} {n : Nat} {ps : List Pth} {row : Option Nat} (h : Pths w B A n ps) (hB : B ≤ w.heap.size) (k : w.grownBy w' row) (hr : ∀ g, row = some g → B ≤ g) : Pths w' B A n ps :=
  h.keep fun p hp => grown_cell k (by omega) (fun e => by have := hr _ e; omega)

theorem Pths.wide {w : World} {B B' : Nat} {A : Option Addr} {n : Nat} {ps : List Pth} (h : Pths w B A n ps) (k : B ≤ B') : Pths w B' A n ps :=
  ⟨h.len, h.small, h.ok, fun i hi => by
    obtain ⟨b, off, X, m, d, hA, hb, c0, c1, hr⟩ := h.at_ i hi
    exact ⟨b, off, X, m, d, hA, by omega, c0, c1, hr.wide k⟩⟩

/-- What is known of the places of a row of paths that came in. -/
def Bds (w : World) (A : Option Addr) (n : Nat) : Prop :=
  ∀ i, i < n → ∀ b off X m d, A = some ⟨b, off, none⟩ → w.cell? ⟨b, off + i * 2 + 1, none⟩ = some (.slice X m d) → m ≤ d ∧ d * 8 ≤ 140737488351232 ∧ (X = none → d = 0)

def InP (w : World) (A : Option Addr) (n c : Nat) (ps : List Pth) : Prop := Pths w w.heap.size A n ps ∧ n ≤ c ∧ c * 32 ≤ 140737488351232 ∧ (A = none → c = 0) ∧ Bds w A n

def hdr (hs : List PH) (i : Nat) : PH := hs[i]?.getD (0, none, 0, 0)

def PartP (w : World) (base : Nat) (o : Value) (h : PH) (p : Pth) : Prop :=
  h.1 = p.1 ∧ Mine w base (.slice h.2.1 h.2.2.1 h.2.2.2) h.2.2.1 p.2 ∧ Apart o (.slice h.2.1 h.2.2.1 h.2.2.2)

def CPRel (w : World) (n : Nat) (ps : List Pth) (o i : Value) (wr : World) : Prop :=
  ∃ (k : Nat) (hs : List PH), k ≤ n ∧ i = .int .i64 (k : Nat) ∧ w.grownBy wr none ∧ MineE pathE wr w.heap.size o k hs ∧ ∀ j, j < k → PartP wr w.heap.size o (hdr hs j) (at2 ps j)

theorem part_step {w w' : World} {base : Nat} {o o' : Value} {h : PH} {p : Pth} (t : PartP w base o h p) (k : w.grownBy w' o.ownBlock) (c : o'.ownBlock = o.ownBlock ∨ o'.ownBlock = some w.heap.size) : PartP w' base o' h p :=
  ⟨t.1, t.2.1.kept' k (fun g hg e => t.2.2 g e hg), apart_new t.2.2 t.2.1.own_lt c⟩

theorem part_kept {w w' : World} {base : Nat} {o : Value} {h : PH} {p : Pth} (t : PartP w base o h p) (k : w.grownBy w' none) : PartP w' base o h p := ⟨t.1, t.2.1.kept k, t.2.2⟩

theorem copied {w : World} {base : Nat} {o : Value} {n : Nat} {hs : List PH} {ps : List Pth} (h : MineE pathE w base o n hs) (hl : ps.length = n) (hsm : n ≤ 9223372036854775807) (hok : ∀ i, bd64 (rt ps i)) (hoks : ∀ i, i < n → okI (lk ps i)) (hp : ∀ j, j < n → PartP w base o (hdr hs j) (at2 ps j)) :
    ∃ A c, o = .slice A n c ∧ Pths w w.heap.size A n ps := by
  obtain ⟨A, c, hv, _, _, hr⟩ := h.row
  refine ⟨A, c, hv, hl, hsm, hok, fun i hi => ?_⟩
  obtain ⟨b, off, hA, hb, hc⟩ := hr.at_ (by omega)
  obtain ⟨e1, e2, _⟩ := hp i hi
  refine ⟨b, off, (hdr hs i).2.1, (hdr hs i).2.2.1, (hdr hs i).2.2.2, hA, hb, ?_, hc i hi 1 _ rfl, e2.rowAt (hoks i hi)⟩
  have := hc i hi 0 _ rfl
  rw [Nat.add_zero] at this
  rw [show rt ps i = (hdr hs i).1 from e1.symm]
  exact this

def CopyPPost (w : World) (n : Nat) (ps : List Pth) (e : Ending) (w' : World) : Prop :=
  ∃ A c, e = .returned (.slice A n c) ∧ Pths w' w'.heap.size A n ps ∧ w.grownBy w' none

theorem hdr_old {hs : List PH} {h : PH} {j : Nat} (hj : j < hs.length) : hdr (hs ++ [h]) j = hdr hs j := by simp [hdr, List.getElem?_append_left hj]
theorem hdr_new {hs : List PH} {h : PH} {k : Nat} (hk : hs.length = k) : hdr (hs ++ [h]) k = h := by subst hk; simp [hdr]

theorem held2 {w w1 : World} {b i j : Nat} {x y : Value} (g : w.grownBy w1 none) (h : (fun w' : World => w'.cell? ⟨b, i, none⟩ = some x ∧ w'.cell? ⟨b, j, none⟩ = some y) w) :
    (fun w' : World => w'.cell? ⟨b, i, none⟩ = some x ∧ w'.cell? ⟨b, j, none⟩ = some y) w1 := ⟨kept g h.1, kept g h.2⟩

theorem held2' {w w1 : World} {row : Option Nat} {b i j : Nat} {x y : Value} (g : w.grownBy w1 row) (hr : row ≠ some b) (h : (fun w' : World => w'.cell? ⟨b, i, none⟩ = some x ∧ w'.cell? ⟨b, j, none⟩ = some y) w) :
    (fun w' : World => w'.cell? ⟨b, i, none⟩ = some x ∧ w'.cell? ⟨b, j, none⟩ = some y) w1 := ⟨far g hr h.1, far g hr h.2⟩

theorem step_appE2 {α : Type} (E : Elt α) {ops : Array Oper} {o : Oper} {a : Act} {w : World} {K : Act → World → Prop} {Q : Exit → Act → World → Prop} {F : Prop} (hgd : o.guard = none) (s x : Operand)
    (ho : o.op = .call { callee := .builtin .append, args := #[s, x], argTypes := #[E.L, E.L] }) (base : Nat) (v : Value) (n : Nat) (ys : List α) (hs : a.eval s = v) (hown : MineE E w base v n ys)
    {B : Nat} (A : Option Addr) (m c : Nat) (xs : List α) (hx : a.eval x = .slice A m c) (hr : Elts E w B A m xs) (hnil : A = none → c = 0) (hmax : n + m ≤ maxLen) (hbytes : (n + m) * E.bytes ≤ 140737488355328) (hbase : base ≤ w.heap.size)
    (h : ∀ v' w', MineE E w' base v' (n + m) (ys ++ xs) → w.grownBy w' v.ownBlock → (v'.ownBlock = v.ownBlock ∨ v'.ownBlock = some w.heap.size) → K (a.put o.dst v') w') :
    if Region.wanted o (yielded ops a.tmps) = true then Oper.wp Try.prog o a w K Q else F := by
  have hw : Region.wanted o (yielded ops a.tmps) = true := by simp [Region.wanted, hgd]
  rw [if_pos hw]
  obtain ⟨v', w', hrun, h2, h3, h4⟩ := run_appE E w base o.type v n ys hown A m c xs hr hnil hmax hbytes hbase
  unfold Oper.wp execOp
  simp only [ho, resolve, invoke, builtin, Sem.run_bind, Sem.run_pure, Result.andThen_ok, List.map_toArray, List.map_cons, List.map_nil, hs, hx, hrun]
  exact h v' w' h2 h3 h4

set_option maxHeartbeats 1000000 in
theorem CopyPaths_any (A : Option Addr) (n c : Nat) (ps : List Pth) (w : World) {B : Nat} (h : Pths w B A n ps) (hB : B ≤ w.heap.size) (hn32 : n * 32 ≤ 140737488351232) (hbd : Bds w A n) :
    Calls Try.prog 16 #[.slice A n c] w (CopyPPost w n ps) := by
  have hn := h.small
  have HP := Lib.hid h
  have HB := Lib.hid hbd
  clear h hbd
  have HS : Hid (CPRel w n ps (.slice none 0 0) (.int .i64 0) w) := ⟨0, [], Nat.zero_le _, rfl, World.grownBy.refl w none, MineE.nil _ _ _, by omega⟩
  go_enter Try.func16, Try.ntmps16
  go_wp2
  go_loopw [3, 4] (fun o i wr => CPRel w n ps o i wr) (fun _ i _ => n - (intOf i).toNat)
  case atStart => exact HS.out
  case round =>
    clear HS
    obtain ⟨k, hs, hk, rfl, hg, hmine, hpart⟩ := hrel
    have G := Lib.hid hg
    have HM := Lib.hid hmine
    have HQ := Lib.hid hpart
    by_cases hlt : k < n
    · obtain ⟨b, off, X, m, d, hA, hb, c0, c1, hrow⟩ := HP.out.at_ k hlt
      obtain ⟨hmd, hd8, hnil⟩ := HB.out k hlt b off X m d hA c1
      subst hA
      have hsz := hg.size
      have d0 := kept hg c0
      have d1 := kept hg c1
      have HRW := Lib.hid (hrow.grown hB hg)
      have HNI := Lib.hid hnil
      have hrb := HP.out.ok k
      have HE : Hid (at2 ps k = (rt ps k, lk ps k)) := rfl
      have HOK : Hid (okI (lk ps k)) := hrow.ok
      have HLN := Lib.hid hrow.len
      have HSS : Hid ((fun w' : World => w'.cell? ⟨b, off + k * 2, none⟩ = some (.int .i64 (rt ps k)) ∧ w'.cell? ⟨b, off + k * 2 + 1, none⟩ = some (.slice X m d)) wr) := ⟨d0, d1⟩
      clear hg hmine hpart hrow hnil c0 c1
      generalize rt ps k = r at *
      generalize lk ps k = xs at *
      have HC : Hid (∀ wx : World, wr.grownBy wx none → Calls Try.prog 53 #[.slice X m d] wx (CopyPost wx m xs)) := fun wx kx => CopyInts_any X m d xs wx (HRW.out.grown (by omega) kx) (by have := kx.size; omega) HNI.out (by omega)
      have hmax : k + 1 ≤ maxLen := by unfold maxLen; omega
      go_wp2_with fail
      go_region_held3 (fun w' : World => w'.cell? ⟨b, off + k * 2, none⟩ = some (.int .i64 r) ∧ w'.cell? ⟨b, off + k * 2 + 1, none⟩ = some (.slice X m d)) (first | exact HSS.out | exact held2 (grow0 _ _) HSS.out)
        (first
          | (go_at_call 53; refine (HC.out _ (by first | exact World.grownBy.refl _ _ | exact grown_drew (World.grownBy.refl _ _) | exact grown_drewN (World.grownBy.refl _ _) _)).mono ?_; rintro e w1 ⟨v1, rfl, hm1, hb1⟩; have hb2 := grown_of_below hb1; have GK : Hid (wr.grownBy w1 none) := (by first | exact hb2 | exact grown_undrew hb2); have HSS := Lib.hid (held2 GK.out HSS.out); have HM1 : Hid (Mine w1 wr.heap.size v1 m xs) := hm1; obtain ⟨A1, c1, rfl, _⟩ := hm1.sl; clear hm1 hb1 hb2)
          | (refine step_appE2 pathE rfl _ _ (by rfl) w.heap.size _ k hs (by rfl) (HM.out.kept (grown_trans GK.out (grow0 _ _))) _ 1 1 [(r, A1, m, c1)] (by rfl) (Elts.lit (E := pathE) [(r, A1, m, c1)] rfl rfl rfl (by simp)) (by simp) hmax (by show _ * 32 ≤ _; omega) (by have := GK.out.size; simp; omega) ?_; intro v3 w3 hm3 hg3 ho3; have HM3 := Lib.hid hm3; have HG3 := Lib.hid hg3; have HO3 := Lib.hid ho3; have HSS : Hid ((fun w' : World => w'.cell? ⟨b, off + k * 2, none⟩ = some (.int .i64 r) ∧ w'.cell? ⟨b, off + k * 2 + 1, none⟩ = some (.slice X m d)) w3) := (held2' hg3 (fun e => by have := HM.out.own_ge _ e; omega) (held2 (grow0 _ _) HSS.out)); clear hm3 hg3 ho3))
      go_wp2
      go_roundw
      case rel =>
        have gw := grown_trans GK.out (grow0 w1 (.cells #[.int .i64 r, .slice A1 m c1] 51))
        have hl := HM.out.length
        refine ⟨k + 1, hs ++ [(r, A1, m, c1)], by omega, by go_num, grown_none (grown_trans G.out gw) HG3.out HM.out.own_ge, HM3.out, fun j hj => ?_⟩
        rcases Nat.lt_or_ge j k with a | a
        · rw [hdr_old (by omega)]
          exact part_step (part_kept (HQ.out j a) gw) HG3.out HO3.out
        · obtain rfl : j = k := by omega
          rw [hdr_new hl, HE.out]
          refine part_step (o := u3) ⟨rfl, (HM1.out.kept (grow0 _ _)).wide (by omega), fun g hg e => ?_⟩ HG3.out HO3.out
          have h1 := HM.out.own_lt g hg
          have h2 := HM1.out.own_ge g e
          omega
      case measure => simp [intOf]; omega
    · obtain rfl : k = n := by omega
      obtain ⟨A1, c1, rfl, hp⟩ := copied hmine HP.out.len hn HP.out.ok (fun i hi => by obtain ⟨_, _, _, _, _, _, _, _, _, hr⟩ := HP.out.at_ i hi; exact hr.ok) hpart
      have HPP := Lib.hid hp
      clear hg hmine hpart hp
      go_wp2
      go_ret
      exact ⟨A1, c1, rfl, HPP.out, G.out⟩

end Go.Proofs.Ytmodkhcfihlhgaa
