/-
  Rows of paths: read, copied, compared.
-/
import Derived.Test.YtodjehljnmfbpaaMathBundle
import Derived.Test.YtodjehljnmfbpaaJD
set_option maxRecDepth 20000
namespace Go.Proofs.Ytodjehljnmfbpaa
open Go.RowKit

abbrev PH := Int × Option Addr × Nat × Nat

def pathE : Elt PH where
  z := (0, none, 0, 0)
  enc p := [.int .i64 p.1, .slice p.2.1 p.2.2.1 p.2.2.2]
  T := 48
  L := 27
  size := 2
  bytes := 32
  len _ := rfl
  one _ u hu := by
    simp only [List.mem_cons, List.not_mem_nil, or_false] at hu
    rcases hu with rfl | rfl <;> rfl
  pos := by decide
  und := Try.underlying27
  info := by kernel_rfl

/-- A row of paths: rates, and rows of links. -/
structure Pths (w : World) (B : Nat) (A : Option Addr) (n : Nat) (ps : List Pth) : Prop where
  len : ps.length = n
  small : n ≤ 9223372036854775807
  ok : ∀ i : Nat, bd64 (rt ps i)
  at_ : ∀ i, i < n → ∃ b off X m d, A = some ⟨b, off, none⟩ ∧ b < B ∧ w.cell? ⟨b, off + i * 2, none⟩ = some (.int .i64 (rt ps i)) ∧ w.cell? ⟨b, off + i * 2 + 1, none⟩ = some (.slice X m d) ∧ Row w B X m (lk ps i)

theorem Pths.keep {w w' : World} {B : Nat} {A : Option Addr} {n : Nat} {ps : List Pth} (h : Pths w B A n ps) (k : ∀ p : Addr, p.block < B → w'.cell? p = w.cell? p) : Pths w' B A n ps :=
  ⟨h.len, h.small, h.ok, fun i hi => by
    obtain ⟨b, off, X, m, d, hA, hb, c0, c1, hr⟩ := h.at_ i hi
    exact ⟨b, off, X, m, d, hA, hb, (k _ hb).trans c0, (k _ hb).trans c1, hr.keep k⟩⟩

theorem Pths.grown {w w' : World} {B : Nat} {A : Option Addr} {n : Nat} {ps : List Pth} (h : Pths w B A n ps) (hB : B ≤ w.heap.size) (k : w.grownBy w' none) : Pths w' B A n ps :=
  h.keep fun _ hp => grown_cell k (by omega) (by simp)

theorem Pths.grown' {w w' : World} {B : Nat} {A : Option Addr} {n : Nat} {ps : List Pth} {row : Option Nat} (h : Pths w B A n ps) (hB : B ≤ w.heap.size) (k : w.grownBy w' row) (hr : ∀ g, row = some g → B ≤ g) : Pths w' B A n ps :=
  h.keep fun p hp => grown_cell k (by omega) (fun e => by have := hr _ e; omega)

theorem Pths.wide {w : World} {B B' : Nat} {A : Option Addr} {n : Nat} {ps : List Pth} (h : Pths w B A n ps) (k : B ≤ B') : Pths w B' A n ps :=
  ⟨h.len, h.small, h.ok, fun i hi => by
    obtain ⟨b, off, X, m, d, hA, hb, c0, c1, hr⟩ := h.at_ i hi
    exact ⟨b, off, X, m, d, hA, by omega, c0, c1, hr.wide k⟩⟩

/-- What is known of the places of a row of paths that came in. -/
def Bds (w : World) (A : Option Addr) (n : Nat) : Prop :=
  ∀ i, i < n → ∀ b off X m d, A = some ⟨b, off, none⟩ → w.cell? ⟨b, off + i * 2 + 1, none⟩ = some (.slice X m d) → m ≤ d ∧ d * 8 ≤ 140737488351232 ∧ (X = none → d = 0)

def InP (w : World) (A : Option Addr) (n c : Nat) (ps : List Pth) : Prop := Pths w w.heap.size A n ps ∧ n ≤ c ∧ c * 32 ≤ 140737488351232 ∧ (A = none → c = 0) ∧ Bds w A n

def hdr (hs : List PH) (i : Nat) : PH := hs[i]?.getD (0, none, 0, 0)

def PartP (w : World) (base : Nat) (o : Value) (h : PH) (p : Pth) : Prop :=
  h.1 = p.1 ∧ Mine w base (.slice h.2.1 h.2.2.1 h.2.2.2) h.2.2.1 p.2 ∧ Apart o (.slice h.2.1 h.2.2.1 h.2.2.2)

def CPRel (w : World) (n : Nat) (ps : List Pth) (o i : Value) (wr : World) : Prop :=
  ∃ (k : Nat) (hs : List PH), k ≤ n ∧ i = .int .i64 (k : Nat) ∧ w.grownBy wr none ∧ MineE pathE wr w.heap.size o k hs ∧ ∀ j, j < k → PartP wr w.heap.size o (hdr hs j) (at2 ps j)

theorem part_step {w w' : World} {base : Nat} {o o' : Value} {h : PH} {p : Pth} (t : PartP w base o h p) (k : w.grownBy w' o.ownBlock) (c : o'.ownBlock = o.ownBlock ∨ o'.ownBlock = some w.heap.size) : PartP w' base o' h p :=
  ⟨t.1, t.2.1.kept' k (fun g hg e => t.2.2 g e hg), apart_new t.2.2 t.2.1.own_lt c⟩

theorem part_kept {w w' : World} {base : Nat} {o : Value} {h : PH} {p : Pth} (t : PartP w base o h p) (k : w.grownBy w' none) : PartP w' base o h p := ⟨t.1, t.2.1.kept k, t.2.2⟩

theorem copied {w : World} {base : Nat} {o : Value} {n : Nat} {hs : List PH} {ps : List Pth} (h : MineE pathE w base o n hs) (hl : ps.length = n) (hsm : n ≤ 9223372036854775807) (hok : ∀ i, bd64 (rt ps i)) (hoks : ∀ i, i < n → okI (lk ps i)) (hp : ∀ j, j < n → PartP w base o (hdr hs j) (at2 ps j)) :
    ∃ A c, o = .slice A n c ∧ Pths w w.heap.size A n ps := by
  obtain ⟨A, c, hv, _, _, hr⟩ := h.row
  refine ⟨A, c, hv, hl, hsm, hok, fun i hi => ?_⟩
  obtain ⟨b, off, hA, hb, hc⟩ := hr.at_ (by omega)
  obtain ⟨e1, e2, _⟩ := hp i hi
  refine ⟨b, off, (hdr hs i).2.1, (hdr hs i).2.2.1, (hdr hs i).2.2.2, hA, hb, ?_, hc i hi 1 _ rfl, e2.rowAt (hoks i hi)⟩
  have := hc i hi 0 _ rfl
  rw [Nat.add_zero] at this
  rw [show rt ps i = (hdr hs i).1 from e1.symm]
  exact this

def CopyPPost (w : World) (n : Nat) (ps : List Pth) (e : Ending) (w' : World) : Prop :=
  ∃ A c, e = .returned (.slice A n c) ∧ Pths w' w'.heap.size A n ps ∧ w.grownBy w' none

theorem hdr_old {hs : List PH} {h : PH} {j : Nat} (hj : j < hs.length) : hdr (hs ++ [h]) j = hdr hs j := by simp [hdr, List.getElem?_append_left hj]
theorem hdr_new {hs : List PH} {h : PH} {k : Nat} (hk : hs.length = k) : hdr (hs ++ [h]) k = h := by subst hk; simp [hdr]

theorem held2 {w w1 : World} {b i j : Nat} {x y : Value} (g : w.grownBy w1 none) (h : (fun w' : World => w'.cell? ⟨b, i, none⟩ = some x ∧ w'.cell? ⟨b, j, none⟩ = some y) w) :
    (fun w' : World => w'.cell? ⟨b, i, none⟩ = some x ∧ w'.cell? ⟨b, j, none⟩ = some y) w1 := ⟨kept g h.1, kept g h.2⟩

theorem held2' {w w1 : World} {row : Option Nat} {b i j : Nat} {x y : Value} (g : w.grownBy w1 row) (hr : row ≠ some b) (h : (fun w' : World => w'.cell? ⟨b, i, none⟩ = some x ∧ w'.cell? ⟨b, j, none⟩ = some y) w) :
    (fun w' : World => w'.cell? ⟨b, i, none⟩ = some x ∧ w'.cell? ⟨b, j, none⟩ = some y) w1 := ⟨far g hr h.1, far g hr h.2⟩

theorem step_appE2 {α : Type} (E : Elt α) {ops : Array Oper} {o : Oper} {a : Act} {w : World} {K : Act → World → Prop} {Q : Exit → Act → World → Prop} {F : Prop} (hgd : o.guard = none) (s x : Operand)
    (ho : o.op = .call { callee := .builtin .append, args := #[s, x], argTypes := #[E.L, E.L] }) (base : Nat) (v : Value) (n : Nat) (ys : List α) (hs : a.eval s = v) (hown : MineE E w base v n ys)
    {B : Nat} (A : Option Addr) (m c : Nat) (xs : List α) (hx : a.eval x = .slice A m c) (hr : Elts E w B A m xs) (hnil : A = none → c = 0) (hmax : n + m ≤ maxLen) (hbytes : (n + m) * E.bytes ≤ 140737488355328) (hbase : base ≤ w.heap.size)
    (h : ∀ v' w', MineE E w' base v' (n + m) (ys ++ xs) → w.grownBy w' v.ownBlock → (v'.ownBlock = v.ownBlock ∨ v'.ownBlock = some w.heap.size) → K (a.put o.dst v') w') :
    if Region.wanted o (yielded ops a.tmps) = true then Oper.wp Try.prog o a w K Q else F := by
  have hw : Region.wanted o (yielded ops a.tmps) = true := by simp [Region.wanted, hgd]
  rw [if_pos hw]
  obtain ⟨v', w', hrun, h2, h3, h4⟩ := run_appE E w base o.type v n ys hown A m c xs hr hnil hmax hbytes hbase
  unfold Oper.wp execOp
  simp only [ho, resolve, invoke, builtin, Sem.run_bind, Sem.run_pure, Result.andThen_ok, List.map_toArray, List.map_cons, List.map_nil, hs, hx, hrun]
  exact h v' w' h2 h3 h4

end Go.Proofs.Ytodjehljnmfbpaa
