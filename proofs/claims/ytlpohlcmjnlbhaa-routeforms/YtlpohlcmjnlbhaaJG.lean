/-
  cycle's leads, onward, leastOf, and slices.IndexFunc for what goes on, walked. cycle's onward and fits, walked. cycle's first, walked: a cycle's links, or none.
-/
import Derived.Test.YtlpohlcmjnlbhaaJB
import Derived.Test.YtlpohlcmjnlbhaaJF
import Derived.Test.YtlpohlcmjnlbhaaJC

set_option maxRecDepth 20000
namespace Go.Proofs.Ytlpohlcmjnlbhaa
open Go.RowKit

def LeadPost (w : World) (L : List Lk) (f T : List Int) (v : Nat) (e : Ending) (w' : World) : Prop := ∃ r, LeadIs L f T v r ∧ Says w (.int .i64 r) e w'

def LdRel (w : World) (n : Nat) (L : List Lk) (f T : List Int) (v : Nat) (i : Value) (wr : World) : Prop :=
  ∃ k : Nat, k ≤ n ∧ i = .int .i64 (k : Nat) ∧ w.grownBy wr none ∧ ∀ j, j < k → ¬ goesB L f T v j

set_option maxHeartbeats 2000000 in
theorem leads_any (vn : Nat) (A : Option Addr) (n c : Nat) (L : List Lk) (Y : Option Addr) (e0 : Nat) (f : List Int) (Z : Option Addr) (d : Nat) (T : List Int) (v : Nat) (w : World) {B B' B'' : Nat} (h : Lks w B A n L) (hy : Row w B' Y n f) (hz : Row w B'' Z vn T) (hm : mayG (vn : Nat) L = true) :
    Calls Try.prog 95 #[.agg #[.int .i64 (vn : Nat), .slice A n c], .slice Y n e0, .slice Z vn d, .int .i64 (v : Nat)] w (LeadPost w L f T v) := by
  have hn := h.small
  have HL := Lib.hid h.len
  have HMAY := Lib.hid hm
  have HR := Lib.hid h
  have HY := Lib.hid hy
  have HZ := Lib.hid hz
  have G0 := Lib.hid (grow0 w (.cells #[.int .i64 (vn : Nat), .slice A n c] 24))
  have OB0 := Lib.hid (Own.new w 24 [.int .i64 (vn : Nat), .slice A n c])
  clear h hy hz hm
  have HS : Hid (LdRel w n L f T v (.int .i64 0) (w.alloc (.cells #[.int .i64 (vn : Nat), .slice A n c] 24))) := ⟨0, Nat.zero_le _, rfl, G0.out, fun j hj => by omega⟩
  go_enter Try.func95, Try.ntmps95
  go_upto_region 1 with fail
  generalize w.alloc (.cells #[.int .i64 (vn : Nat), .slice A n c] 24) = w0 at *
  obtain ⟨p0, p1⟩ := OB0.out.two
  go_wp2
  clear p0 p1 OB0 G0
  go_loopw [14] (fun i wr => LdRel w n L f T v i wr) (fun i _ => n - (intOf i).toNat)
  case atStart => exact HS.out
  case round =>
    clear HS
    obtain ⟨k, hk, rfl, hg, hno⟩ := hrel
    have G := Lib.hid hg
    have HNO := Lib.hid hno
    clear hg hno
    by_cases hlt : k < n
    · obtain ⟨b2, off2, hA, hb2, hcell⟩ := HR.out.cells (by omega)
      subst hA
      obtain ⟨d0, d1, d2⟩ := hcell k hlt
      have d0 := kept G.out d0
      have d1 := kept G.out d1
      have d2 := kept G.out d2
      obtain ⟨bf, off, rfl, hbf, hcf⟩ := HY.out.at_ (by omega)
      have y0 := kept G.out (hcf k hlt)
      have hj := may_joins HMAY.out (i := k) (by rw [HL.out]; exact hlt)
      obtain ⟨bz, oz, rfl, hbz, hcz⟩ := HZ.out.at_ (by omega)
      have z0 := kept G.out (hcz (at3 L k).2.1.toNat (by omega))
      have HGO : Hid (goesB L f T v k ↔ ((at3 L k).1 = (v : Int) ∧ 0 < f[k]?.getD 0 ∧ 0 ≤ T[(at3 L k).2.1.toNat]?.getD 0)) := ⟨fun g => g.2, fun g => ⟨by rw [HL.out]; exact hlt, g⟩⟩
      have HNX : Hid (¬ goesB L f T v k → ∀ j, j < k + 1 → ¬ goesB L f T v j) := fun hk j hj => by
        by_cases e : j = k
        · subst e; exact hk
        · exact HNO.out j (by omega)
      clear hcell hcf hcz HNO
      generalize f[k]?.getD 0 = fk at *
      generalize at3 L k = l at *
      obtain ⟨p, t, cp⟩ := l
      simp only at d0 d1 d2 hj z0 HGO
      obtain ⟨j0, j1, j2, j3, _⟩ := hj
      obtain ⟨td, rfl⟩ : ∃ td : Nat, t = (td : Nat) := ⟨t.toNat, by omega⟩
      rw [Int.toNat_natCast] at z0 HGO
      generalize T[td]?.getD 0 = x at *
      by_cases hp : p = (v : Int)
      · subst hp
        have q0 : ((v : Int) == (v : Int)) = true := by simp
        have y1 := kept (grow0 wr (.cells #[.int .i64 (v : Nat), .int .i64 (td : Nat), .int .i64 cp] 57)) y0
        have z1 := kept (grow0 wr (.cells #[.int .i64 (v : Nat), .int .i64 (td : Nat), .int .i64 cp] 57)) z0
        clear y0 z0
        by_cases hf : 0 < fk
        · have q1 : decide (0 < fk) = true := by simp [hf]
          by_cases hx : 0 ≤ x
          · have q2 : decide (0 ≤ x) = true := by simp [hx]
            have E : Hid (goesB L f T v k) := HGO.out.2 ⟨rfl, hf, hx⟩
            clear HGO HNX hf hx
            go_wp2
            go_ret
            exact ⟨(k : Int), .inl ⟨k, rfl, E.out⟩, rfl, grown_alloc G.out _⟩
          · have q2 : decide (0 ≤ x) = false := by simp; omega
            have E := Lib.hid (HNX.out fun g => hx (HGO.out.1 g).2.2)
            clear HGO HNX hf hx
            go_wp2
            go_roundw
            case rel => exact ⟨k + 1, by omega, by go_num, grown_alloc G.out _, E.out⟩
            case measure => simp [intOf]; omega
        · have q1 : decide (0 < fk) = false := by simp; omega
          have E := Lib.hid (HNX.out fun g => hf (HGO.out.1 g).2.1)
          clear HGO HNX hf
          go_wp2
          go_roundw
          case rel => exact ⟨k + 1, by omega, by go_num, grown_alloc G.out _, E.out⟩
          case measure => simp [intOf]; omega
      · have q0 : (p == (v : Int)) = false := by simp [hp]
        have E := Lib.hid (HNX.out fun g => hp (HGO.out.1 g).1)
        clear HGO HNX hp
        go_wp2
        go_roundw
        case rel => exact ⟨k + 1, by omega, by go_num, grown_alloc G.out _, E.out⟩
        case measure => simp [intOf]; omega
    · obtain rfl : k = n := by omega
      have E : Hid (LeadIs L f T v (-1)) := .inr ⟨rfl, fun i g => HNO.out i (by have := g.1; rw [HL.out] at this; exact this) g⟩
      go_wp2
      go_ret
      exact ⟨-1, E.out, rfl, G.out⟩

/-- The first place at which one goes on, or -1. -/
def AtIs (T : List Int) (n : Nat) (r : Int) : Prop := (∃ k : Nat, r = (k : Int) ∧ k < n ∧ 0 ≤ nAt T k) ∨ (r = -1 ∧ ∀ j, j < n → nAt T j < 0)

def AtPost (w : World) (T : List Int) (n : Nat) (e : Ending) (w' : World) : Prop := ∃ r, AtIs T n r ∧ Says w (.int .i64 r) e w'

theorem ge0_any (x : Int) (w : World) : Calls Try.prog 89 #[.int .i64 x] w (Says w (.bool (decide (0 ≤ x)))) := by
  go_enter Try.func89, Try.ntmps89
  go_wp2
  go_ret
  exact ⟨rfl, World.grownBy.refl w none⟩

def AtRel (w : World) (n : Nat) (T : List Int) (i : Value) (wr : World) : Prop :=
  ∃ k : Nat, k ≤ n ∧ i = .int .i64 (k : Nat) ∧ w.grownBy wr none ∧ ∀ j, j < k → nAt T j < 0

theorem IndexF_any (Z : Option Addr) (n d : Nat) (T : List Int) (w : World) {B : Nat} (h : Row w B Z n T) :
    Calls Try.prog 88 #[.slice Z n d, .func (.func 89) #[] #[]] w (AtPost w T n) := by
  have hn := h.small
  have HZ := Lib.hid h
  clear h
  have HS : Hid (AtRel w n T (.int .i64 0) w) := ⟨0, Nat.zero_le _, rfl, World.grownBy.refl w none, fun j hj => by omega⟩
  go_enter Try.func88, Try.ntmps88
  go_wp2
  go_loopw [8] (fun i wr => AtRel w n T i wr) (fun i _ => n - (intOf i).toNat)
  case atStart => exact HS.out
  case round =>
    clear HS
    obtain ⟨k, hk, rfl, hg, hno⟩ := hrel
    have G := Lib.hid hg
    have HNO := Lib.hid hno
    clear hg hno
    by_cases hlt : k < n
    · obtain ⟨bz, oz, rfl, hbz, hcz⟩ := HZ.out.at_ (by omega)
      have z0 := kept G.out (hcz k hlt)
      have HNX : Hid (nAt T k < 0 → ∀ j, j < k + 1 → nAt T j < 0) := fun hk j hj => by
        by_cases e : j = k
        · subst e; exact hk
        · exact HNO.out j (by omega)
      have HX : Hid (nAt T k = T[k]?.getD 0) := rfl
      clear hcz HNO
      rw [← HX.out] at z0
      clear HX
      have HE : Hid (0 ≤ nAt T k → AtIs T n (k : Int)) := fun h => .inl ⟨k, rfl, hlt, h⟩
      generalize nAt T k = x at *
      go_wp2_with fail
      refine (ge0_any x _).mono ?_
      rintro e w1 ⟨rfl, g1⟩
      have G := Lib.hid (grown_trans G.out g1)
      clear g1 z0
      by_cases hx : 0 ≤ x
      · have q2 : decide (0 ≤ x) = true := by simp [hx]
        have E := Lib.hid (HE.out hx)
        clear HE HNX
        rw [q2]
        go_wp2
        go_ret
        exact ⟨(k : Int), E.out, rfl, G.out⟩
      · have q2 : decide (0 ≤ x) = false := by simp; omega
        have E := Lib.hid (HNX.out (by omega))
        clear HE HNX
        rw [q2]
        go_wp2
        go_roundw
        case rel => exact ⟨k + 1, by omega, by go_num, G.out, E.out⟩
        case measure => simp [intOf]; omega
    · obtain rfl : k = n := by omega
      go_wp2
      go_ret
      exact ⟨-1, .inr ⟨rfl, HNO.out⟩, rfl, G.out⟩

def LeastPost (w : World) (f ls : List Int) (e : Ending) (w' : World) : Prop := ∃ m, LeastIs f ls m ∧ Says w (.int .i64 m) e w'

def LeRel (w : World) (p : Nat) (f ls : List Int) (o i : Value) (wr : World) : Prop :=
  ∃ (k : Nat) (m : Int), k ≤ p ∧ o = .int .i64 m ∧ i = .int .i64 (k : Nat) ∧ w.grownBy wr none ∧ (∀ j, j < k → m ≤ nAt f (nAt ls j).toNat) ∧ ∃ j, j < p ∧ m = nAt f (nAt ls j).toNat

theorem least_on {f ls : List Int} {k p : Nat} {m x y : Int} (hk : k < p) (hx : nAt f (nAt ls k).toNat = x) (hy : y = m ∨ y = x) (h1 : y ≤ m) (h2 : y ≤ x) (h : (∀ j, j < k → m ≤ nAt f (nAt ls j).toNat) ∧ ∃ j, j < p ∧ m = nAt f (nAt ls j).toNat) : (∀ j, j < k + 1 → y ≤ nAt f (nAt ls j).toNat) ∧ ∃ j, j < p ∧ y = nAt f (nAt ls j).toNat := by
  obtain ⟨a, j, hj, b⟩ := h
  refine ⟨fun i hi => ?_, ?_⟩
  · by_cases e : i = k
    · subst e; omega
    · have := a i (by omega); omega
  · rcases hy with e | e
    · exact ⟨j, hj, by omega⟩
    · exact ⟨k, hk, by omega⟩

set_option maxHeartbeats 2000000 in
theorem leastOf_any (Y : Option Addr) (n e0 : Nat) (f : List Int) (Z : Option Addr) (p d : Nat) (ls : List Int) (w : World) {B B' : Nat} (hy : Row w B Y n f) (hz : Row w B' Z p ls) (hp : 0 < p) (hb : ∀ j, j < p → 0 ≤ nAt ls j ∧ nAt ls j < n) :
    Calls Try.prog 78 #[.slice Y n e0, .slice Z p d] w (LeastPost w f ls) := by
  have hn := hy.small
  have hpn := hz.small
  have HY := Lib.hid hy
  have HZ := Lib.hid hz
  have HB : Hid (∀ j, j < p → ∃ x : Nat, ls[j]?.getD 0 = (x : Int) ∧ x < n ∧ (nAt ls j).toNat = x) := fun j hj => by
    obtain ⟨a, b⟩ := hb j hj
    exact ⟨(nAt ls j).toNat, (show nAt ls j = _ by omega), by omega, rfl⟩
  clear hy hz hb
  obtain ⟨bz, oz, rfl, hbz, hcz⟩ := HZ.out.at_ hp
  obtain ⟨x0, e0, hx0, ex0⟩ := HB.out 0 hp
  have z0 := hcz 0 hp
  rw [e0] at z0
  obtain ⟨bf, off, rfl, hbf, hcf⟩ := HY.out.at_ (by omega)
  have y0 := hcf x0 hx0
  have HCZ := Lib.hid hcz
  have HCF := Lib.hid hcf
  have HS : Hid (LeRel w p f ls (.int .i64 (f[x0]?.getD 0)) (.int .i64 0) w) := ⟨0, _, Nat.zero_le _, rfl, rfl, World.grownBy.refl w none, fun j hj => by omega, 0, hp, by rw [ex0]⟩
  clear hcz hcf e0 ex0
  rw [Nat.add_zero] at z0
  generalize f[x0]?.getD 0 = fx at *
  go_enter Try.func78, Try.ntmps78
  go_wp2
  clear z0 y0
  go_loopw [5, 16] (fun o i wr => LeRel w p f ls o i wr) (fun _ i _ => p - (intOf i).toNat)
  case atStart => exact HS.out
  case round =>
    clear HS
    obtain ⟨k, m, hk, rfl, rfl, hg, hle⟩ := hrel
    have G := Lib.hid hg
    have HE := Lib.hid hle
    clear hg hle
    by_cases hlt : k < p
    · obtain ⟨x, hx, hxn, ex⟩ := HB.out k hlt
      have z0 := kept G.out (HCZ.out k hlt)
      rw [hx] at z0
      have y0 := kept G.out (HCF.out x hxn)
      have ST : Hid (∀ y, (y = m ∨ y = f[x]?.getD 0) → y ≤ m → y ≤ f[x]?.getD 0 → (∀ j, j < k + 1 → y ≤ nAt f (nAt ls j).toNat) ∧ ∃ j, j < p ∧ y = nAt f (nAt ls j).toNat) := fun y a b c => least_on hlt (by rw [ex]) a b c HE.out
      clear hx ex HE
      generalize f[x]?.getD 0 = fy at *
      by_cases hmin : fy < m
      · have E := Lib.hid (ST.out fy (.inr rfl) (by omega) (by omega))
        clear ST
        go_wp2
        go_roundw
        case rel => exact ⟨k + 1, fy, by omega, by first | rfl | (congr 1; omega), by go_num, G.out, E.out⟩
        case measure => simp [intOf]; omega
      · have E := Lib.hid (ST.out m (.inl rfl) (by omega) (by omega))
        clear ST
        go_wp2
        go_roundw
        case rel => exact ⟨k + 1, m, by omega, by first | rfl | (congr 1; omega), by go_num, G.out, E.out⟩
        case measure => simp [intOf]; omega
    · obtain rfl : k = p := by omega
      go_wp2
      go_ret
      exact ⟨m, ⟨fun j hj => HE.out.1 j (by have := HZ.out.len; omega), by obtain ⟨j, hj, e⟩ := HE.out.2; exact ⟨j, by have := HZ.out.len; omega, e⟩⟩, rfl, G.out⟩

end Go.Proofs.Ytlpohlcmjnlbhaa

set_option maxRecDepth 20000
namespace Go.Proofs.Ytlpohlcmjnlbhaa
open Go.RowKit

structure OnM (w : World) (vn : Nat) (A : Option Addr) (n c : Nat) (gs : Nat) (T : List Int) (wr : World) : Prop where
  g : w.grownBy wr none
  ob : Own wr w.heap.size 24 [.int .i64 (vn : Nat), .slice A n c]
  os : Own wr gs 3 (ints T)

theorem OnM.grown {w : World} {vn : Nat} {A : Option Addr} {n c gs : Nat} {T : List Int} {wr w' : World} (h : OnM w vn A n c gs T wr) (k : wr.grownBy w' none) : OnM w vn A n c gs T w' := ⟨grown_trans h.g k, h.ob.kept k, h.os.kept k⟩

theorem OnM.put {w : World} {vn : Nat} {A : Option Addr} {n c gs : Nat} {T : List Int} {wr : World} (h : OnM w vn A n c gs T wr) (h1 : w.heap.size < gs) (v : Nat) (r : Int) : OnM w vn A n c gs (T.set v r) (wr.setCell ⟨gs, v, none⟩ (.int .i64 r)) := by
  refine ⟨grown_new h.g (by omega) _, h.ob.setOther (by omega) _, ?_⟩
  have := h.os.setAt v (.int .i64 r)
  rw [ints_set] at this
  exact this

def OnORel (w : World) (vn : Nat) (A : Option Addr) (n c : Nat) (L : List Lk) (f : List Int) (gs : Nat) (i : Value) (wr : World) : Prop :=
  ∃ (k : Nat) (T : List Int), k ≤ vn ∧ i = .int .i64 (k : Nat) ∧ OnM w vn A n c gs T wr ∧ OnO vn L f k T

def OnIRel (w : World) (vn : Nat) (A : Option Addr) (n c : Nat) (L : List Lk) (f : List Int) (gs k : Nat) (i : Value) (wr : World) : Prop :=
  ∃ (v : Nat) (T : List Int), v ≤ vn ∧ i = .int .i64 (v : Nat) ∧ OnM w vn A n c gs T wr ∧ OnI vn L f k v T

theorem OnB.okI {V : Nat} {L : List Lk} {f T : List Int} (h : OnB V L f T) (hl : L.length ≤ 16) : okI T := fun i => by
  have := h.rng i
  unfold nAt at this
  omega

theorem OnM.row {w : World} {vn : Nat} {A : Option Addr} {n c gs : Nat} {T : List Int} {wr : World} (h : OnM w vn A n c gs T wr) (hl : T.length = vn) (ho : okI T) (hv : vn ≤ 1000) : Row wr wr.heap.size (some ⟨gs, 0, none⟩) vn T :=
  (h.os.mine (Nat.zero_le _) hl hv).rowAt ho

def OnPost (w : World) (vn : Nat) (L : List Lk) (f : List Int) (e : Ending) (w' : World) : Prop :=
  ∃ T g, OnIs vn L f T ∧ e = .returned (.slice (some ⟨g, 0, none⟩) vn vn) ∧ w.heap.size ≤ g ∧ Own w' g 3 (ints T) ∧ w.grownBy w' none

set_option maxHeartbeats 2000000 in
theorem onward_any (vn : Nat) (A : Option Addr) (n c : Nat) (L : List Lk) (Y : Option Addr) (e0 : Nat) (f : List Int) (w : World) {B B' : Nat} (h : Lks w B A n L) (hB : B ≤ w.heap.size) (hy : Row w B' Y n f) (hB' : B' ≤ w.heap.size) (hm : mayG (vn : Nat) L = true) :
    Calls Try.prog 87 #[.agg #[.int .i64 (vn : Nat), .slice A n c], .slice Y n e0] w (OnPost w vn L f) := by
  have h16 := may_small hm
  have hLn := h.len
  have HL16 : Hid (L.length ≤ 16) := by rw [Hid]; omega
  have HMAY := Lib.hid hm
  have HR := Lib.hid h
  have HY := Lib.hid hy
  obtain ⟨i0, hi, hz0, hz1, hz2⟩ := info_parts info3
  have HI := Lib.hid hi
  have HZ0 := Lib.hid hz0
  have HZ1 := Lib.hid hz1
  have HZ2 := Lib.hid hz2
  have OB := Lib.hid (Own.new w 24 [.int .i64 (vn : Nat), .slice A n c])
  have G := Lib.hid (grow0 w (.cells #[.int .i64 (vn : Nat), .slice A n c] 24))
  have hs0 : (w.alloc (.cells #[.int .i64 (vn : Nat), .slice A n c] 24)).heap.size = w.heap.size + 1 := by simp
  have SF := Lib.hid (on_first vn L f)
  clear hi hz0 hz1 hz2 h hm hy hLn
  go_enter Try.func87, Try.ntmps87
  go_upto_region 1 with fail
  generalize w.alloc (.cells #[.int .i64 (vn : Nat), .slice A n c] 24) = w0 at *
  obtain ⟨p0, p1⟩ := OB.out.two
  go_wp2_with (first | (refine wpList_make_full _ rfl _ _ 25 rfl w0.heap.size 3 i0 (.int .i64 0) 1 Try.underlying25 HI.out HZ0.out HZ1.out .i64 .i64 (vn : Int) (vn : Int) vn rfl rfl rfl rfl (by rw [HZ2.out]; omega) (by unfold maxLen; omega) (Nat.le_refl _) ?_))
  intro w4 hmk k4
  rw [toList_madeCells_one, ints_zero] at hmk
  have os := Own.of_made hmk
  have SE : Hid (OnM w vn A n c (w.heap.size + 1) (List.replicate vn 0) w4) := ⟨grown_trans G.out k4, OB.out.kept k4, os⟩
  clear hmk k4 os G OB p0 p1 HI HZ0 HZ1 HZ2
  have hgs : Hid (w.heap.size < w.heap.size + 1) := Nat.lt_succ_self _
  generalize w.heap.size + 1 = gs at *
  clear hs0
  obtain ⟨p0, p1⟩ := SE.out.ob.two
  have HS : Hid (OnORel w vn A n c L f gs (.int .i64 0) w4) := ⟨0, _, Nat.zero_le _, rfl, SE.out, SF.out⟩
  clear SE SF
  go_wp2
  clear p0 p1
  go_loopw [12] (fun i wr => OnORel w vn A n c L f gs i wr) (fun i _ => vn - (intOf i).toNat)
  case atStart => exact HS.out
  case round =>
    clear HS
    obtain ⟨k, T, hk, rfl, se, oi⟩ := hrel
    have SE := Lib.hid se
    have OI := Lib.hid oi
    clear se oi
    by_cases hlt : k < vn
    · have HS : Hid (OnIRel w vn A n c L f gs k (.int .i64 0) wr) := ⟨0, T, Nat.zero_le _, rfl, SE.out, on_in OI.out⟩
      clear SE OI
      go_wp2
      go_loopw [16] (fun i wi => OnIRel w vn A n c L f gs k i wi) (fun i _ => vn - (intOf i).toNat)
      case atStart => exact HS.out
      case round =>
        clear HS
        obtain ⟨v, S, hv, rfl, se, ii⟩ := hrel
        have SE := Lib.hid se
        have II := Lib.hid ii
        have HLS := Lib.hid ii.1.len
        clear se ii
        by_cases hvl : v < vn
        · obtain ⟨p0, p1⟩ := SE.out.ob.two
          have RS := Lib.hid (SE.out.row HLS.out (II.out.1.okI HL16.out) (by omega))
          go_wp2_with fail
          refine (leads_any vn A n c L Y e0 f _ vn S v _ (HR.out.grown hB SE.out.g) (HY.out.grown hB' SE.out.g) RS.out HMAY.out).mono ?_
          rintro e w1 ⟨r, lr, rfl, k1⟩
          have SE1 := Lib.hid (SE.out.grown k1)
          have PU := Lib.hid (on_put HMAY.out II.out hvl lr)
          have f0 := SE1.out.os.frozen v
          have c0 := SE1.out.os.cell v
          rw [ints_get S v (by have := HLS.out; omega)] at c0
          have SE2 := Lib.hid (SE1.out.put hgs.out v r)
          clear SE RS k1 II lr p0 p1 SE1
          go_wp2
          go_roundw
          case rel => exact ⟨v + 1, _, by omega, by go_num, SE2.out, PU.out⟩
          case measure => simp [intOf]; omega
        · obtain rfl : v = vn := by omega
          have HN := Lib.hid (on_out II.out)
          clear II
          go_wp2
          go_roundw
          case rel => exact ⟨k + 1, S, by omega, by go_num, SE.out, HN.out⟩
          case measure => simp [intOf]; omega
    · obtain rfl : k = vn := by omega
      have E := Lib.hid (on_end OI.out)
      clear OI
      go_wp2
      go_ret
      exact ⟨T, gs, E.out, rfl, by have := hgs.out; omega, SE.out.os, SE.out.g⟩

theorem cfits_any (V : Int) (A : Option Addr) (n c : Nat) (L : List Lk) (Y : Option Addr) (m e0 : Nat) (f : List Int) (w : World) {B B' : Nat} (h : Lks w B A n L) (hB : B ≤ w.heap.size) (hy : Row w B' Y m f) (hB' : B' ≤ w.heap.size) :
    Calls Try.prog 75 #[.agg #[.int .i64 V, .slice A n c], .slice Y m e0] w (Says w (.bool (mayG V L && capsB L f))) := by
  have HL := Lib.hid h.len
  have HR := Lib.hid h
  have HY := Lib.hid hy
  have G0 := Lib.hid (grow0 w (.cells #[.int .i64 V, .slice A n c] 24))
  clear h hy
  go_enter Try.func75, Try.ntmps75
  go_wp2_with fail
  refine (GMay_any V A n c L _ (HR.out.grown hB G0.out) (by simp; omega)).mono ?_
  rintro e w1 ⟨rfl, g1⟩
  obtain ⟨g, o2⟩ := box1 [.int .i64 V, .slice A n c] g1
  obtain ⟨c0, c1⟩ := o2.two
  have G := Lib.hid g
  clear g g1 o2 G0
  cases hm : mayG V L
  · have E : Hid ((mayG V L && capsB L f) = false) := by rw [Hid, hm]; rfl
    clear hm
    go_wp2
    go_ret
    exact ⟨ret_bool E.out, G.out⟩
  have E : Hid ((mayG V L && capsB L f) = capsB L f) := by rw [Hid, hm]; rfl
  have h16 := may_small hm
  rw [HL.out] at h16
  clear hm
  go_wp2_with fail
  refine (areCaps_any V A n c L Y m e0 f _ (HR.out.grown hB G.out) (HY.out.grown hB' G.out) (by have := G.out.size; omega) (by omega)).mono ?_
  rintro e w2 ⟨rfl, k⟩
  have G := Lib.hid (grown_trans G.out k)
  clear k c0 c1
  go_wp2
  go_ret
  exact ⟨ret_bool E.out, G.out⟩

end Go.Proofs.Ytlpohlcmjnlbhaa

set_option maxRecDepth 20000
namespace Go.Proofs.Ytlpohlcmjnlbhaa
open Go.RowKit

/-- What first tells. -/
def FstIs (L : List Lk) (f ls : List Int) : Prop := TurnsIs L f ls ∨ (ls = [] ∧ ¬ CycP L f)

def FstPost (w : World) (L : List Lk) (f : List Int) (e : Ending) (w' : World) : Prop :=
  ∃ ls, FstIs L f ls ∧ ∃ v, e = .returned v ∧ Mine w' w.heap.size v ls.length ls ∧ w.grownBy w' none

theorem cells_lead {w : World} {vn n : Nat} {A : Option Addr} {L : List Lk} {B : Nat} {T : List Int} {gn u x : Nat} (hR : Lks w B A n L) (hT : Own w gn 3 (ints T)) (hu : u < T.length) (hx : nAt T u = (x : Int)) (hxn : x < n) (hto : (at3 L x).2.1 = (vn : Int)) :
    ∃ b2 off2, A = some ⟨b2, off2, none⟩ ∧ w.cell? ⟨gn, u, none⟩ = some (.int .i64 (x : Nat)) ∧ w.cell? ⟨b2, off2 + x * 3 + 1, none⟩ = some (.int .i64 (vn : Nat)) := by
  obtain ⟨b2, off2, hA, _, hc⟩ := hR.cells (by omega)
  obtain ⟨_, d1, _⟩ := hc x hxn
  have c0 := hT.cell u
  rw [ints_get T u hu] at c0
  rw [hto] at d1
  refine ⟨b2, off2, hA, ?_, d1⟩
  rw [c0]
  show some (Value.int .i64 (nAt T u)) = _
  rw [hx]

def StRel (w1 : World) (vn : Nat) (L : List Lk) (T : List Int) (a : Nat) (u i : Value) (wr : World) : Prop :=
  ∃ k : Nat, k ≤ vn ∧ u = .int .i64 (itr (stN L T) k a : Nat) ∧ i = .int .i64 (k : Nat) ∧ w1.grownBy wr none

def WkRel (w1 : World) (p : Nat) (L : List Lk) (T : List Int) (a : Nat) (u o : Value) (wr : World) : Prop :=
  ∃ k : Nat, k ≤ p ∧ u = .int .i64 (itr (stN L T) k a : Nat) ∧ w1.grownBy wr none ∧ Mine wr w1.heap.size o k (walkT L T a k)

def lenV : Value → Nat
  | .slice _ n _ => n
  | _ => 0

set_option maxHeartbeats 4000000 in
theorem first_any (vn : Nat) (A : Option Addr) (n c : Nat) (L : List Lk) (Y : Option Addr) (e0 : Nat) (f : List Int) (w : World) {B B' : Nat} (h : Lks w B A n L) (hB : B ≤ w.heap.size) (hy : Row w B' Y n f) (hB' : B' ≤ w.heap.size) (hm : mayG (vn : Nat) L = true) :
    Calls Try.prog 77 #[.agg #[.int .i64 (vn : Nat), .slice A n c], .slice Y n e0] w (FstPost w L f) := by
  have h16 := may_small hm
  have hLn := h.len
  rw [hLn] at h16
  have HLN := Lib.hid hLn
  have HMAY := Lib.hid hm
  have HR := Lib.hid h
  have HY := Lib.hid hy
  have HG0 := Lib.hid (grow0 w (.cells #[.int .i64 (vn : Nat), .slice A n c] 24))
  clear h hm hy hLn
  go_enter Try.func77, Try.ntmps77
  go_wp2_with fail
  refine (onward_any vn A n c L Y e0 f _ (HR.out.grown hB HG0.out) (by simp; omega) (HY.out.grown hB' HG0.out) (by simp; omega) HMAY.out).mono ?_
  rintro e w1 ⟨T, gn, on, rfl, hgn, ow, k⟩
  obtain ⟨g1, o2⟩ := box1 [.int .i64 (vn : Nat), .slice A n c] k
  have hgn1 : w.heap.size < gn := by simp at hgn; omega
  have G := Lib.hid g1
  have OB := Lib.hid o2
  have OW := Lib.hid ow
  have ON := Lib.hid on
  have HLT := Lib.hid on.base.len
  have l1 := ow.lt
  have RT := Lib.hid ((ow.mine (Nat.zero_le _) on.base.len (by omega)).rowAt (on.base.okI (by have := HLN.out; omega)))
  clear k g1 o2 ow on hgn HG0
  go_wp2_with fail
  refine (IndexF_any _ vn vn T _ RT.out).mono ?_
  rintro e w2 ⟨r, hr, rfl, k⟩
  have HR1 := Lib.hid (HR.out.grown hB G.out)
  have hB1 : B ≤ w1.heap.size := by omega
  have G1 := Lib.hid k
  clear k HR HY
  rcases hr with ⟨a0, rfl, ha0, hp0⟩ | ⟨rfl, hno⟩
  case inr =>
    have E : Hid (FstIs L f []) := .inr ⟨rfl, on_none HMAY.out ON.out.base hno⟩
    clear hno
    go_wp2
    go_ret
    exact ⟨[], E.out, _, rfl, Mine.nil _ _, grown_trans G.out G1.out⟩
  have IO := Lib.hid (itr_on HMAY.out ON.out ha0 hp0)
  have hneg : ¬ (a0 : Int) < 0 := by omega
  have HS : Hid (StRel w1 vn L T a0 (.int .i64 (a0 : Nat)) (.int .i64 0) w2) := ⟨0, Nat.zero_le _, rfl, rfl, G1.out⟩
  obtain ⟨q0, q1⟩ := (OB.out.kept G1.out).two
  clear hp0 G1
  go_wp2
  clear q0 q1 hneg
  go_loopw [6, 18] (fun u i wr => StRel w1 vn L T a0 u i wr) (fun _ i _ => vn - (intOf i).toNat)
  case atStart => exact HS.out
  case round =>
    clear HS
    obtain ⟨k, hk, rfl, rfl, hg⟩ := hrel
    have G1 := Lib.hid hg
    clear hg
    by_cases hlt : k < vn
    · obtain ⟨hu, hup⟩ := IO.out k
      obtain ⟨x, hx, hxn, _, _, hto, _⟩ := step_on HMAY.out ON.out hu hup
      rw [HLN.out] at hxn
      have HNX : Hid (itr (stN L T) (k + 1) a0 = stN L T (itr (stN L T) k a0)) := rfl
      obtain ⟨b2, off2, rfl, d0, d1⟩ := cells_lead (HR1.out.grown hB1 G1.out) (OW.out.kept G1.out) (by rw [HLT.out]; exact hu) hx hxn hto
      obtain ⟨q0, q1⟩ := (OB.out.kept G1.out).two
      clear hx hto hup
      generalize stN L T (itr (stN L T) k a0) = u2 at *
      generalize itr (stN L T) k a0 = u at *
      go_upto_region 7 with fail
      go_quiet (fail)
      go_wp2
      go_roundw
      case rel => exact ⟨k + 1, by omega, by rw [HNX.out], by go_num, by first | exact G1.out | exact grown_drew G1.out | exact grown_drewN G1.out _⟩
      case measure => simp [intOf]; omega
    · obtain rfl : k = vn := by omega
      obtain ⟨p0, hp1, hpb⟩ := come_back (fun j => (IO.out j).1)
      obtain ⟨ha, hap⟩ := IO.out k
      obtain ⟨p, ⟨hp1, hpb⟩, hpl⟩ := least_of (P := fun q => 1 ≤ q ∧ itr (stN L T) q (itr (stN L T) k a0) = itr (stN L T) k a0) p0 ⟨hp1, hpb⟩
      clear IO hlt hk
      generalize itr (stN L T) k a0 = a at *
      have WT := Lib.hid (walk_turns HMAY.out ON.out ha hap hp1 hpb (fun q h1 h2 e => hpl q h2 ⟨h1, e⟩))
      have hpn := WT.out.most
      rw [walk_len, HLN.out] at hpn
      have IO := Lib.hid (itr_on HMAY.out ON.out ha hap)
      have HPB := Lib.hid hpb
      have HPL : Hid (∀ q, 1 ≤ q → q < p → itr (stN L T) q a ≠ a) := fun q h1 h2 e => hpl q h2 ⟨h1, e⟩
      have HS : Hid (WkRel w1 p L T a (.int .i64 (a : Nat)) (.slice none 0 0) wr) := ⟨0, Nat.zero_le _, rfl, G1.out, Mine.nil _ _⟩
      clear hpl hpb hap G1
      go_wp2
      go_loopw [6, 7] (fun u o wr => WkRel w1 p L T a u o wr) (fun _ o _ => p - lenV o)
      case atStart => exact HS.out
      case round =>
        clear HS
        obtain ⟨j, hj, rfl, hg, mo⟩ := hrel
        have G1 := Lib.hid hg
        have MO := Lib.hid mo
        obtain ⟨A', c', rfl, _⟩ := mo.sl
        clear hg mo
        by_cases hlt : j < p
        · obtain ⟨hu, hup⟩ := IO.out j
          obtain ⟨x, hx, hxn, _, _, hto, _⟩ := step_on HMAY.out ON.out hu hup
          rw [HLN.out] at hxn
          have HNX : Hid (itr (stN L T) (j + 1) a = stN L T (itr (stN L T) j a)) := rfl
          have HWN := Lib.hid (walk_next L T a j)
          rw [hx] at HWN
          have HCL : Hid (∀ wx, w1.grownBy wx none → ∃ b2 off2, A = some ⟨b2, off2, none⟩ ∧ wx.cell? ⟨gn, itr (stN L T) j a, none⟩ = some (.int .i64 (x : Nat)) ∧ wx.cell? ⟨b2, off2 + x * 3 + 1, none⟩ = some (.int .i64 (stN L T (itr (stN L T) j a) : Nat))) := fun wx gx => cells_lead (HR1.out.grown hB1 gx) (OW.out.kept gx) (by rw [HLT.out]; exact hu) hx hxn hto
          have hq : ((j : Int) == 0) = true ∨ (((j : Int) == 0) = false ∧ (((itr (stN L T) j a : Nat) : Int) != (a : Int)) = true) := by
            rcases Nat.eq_zero_or_pos j with e | e
            · subst e; exact .inl rfl
            · have := HPL.out j e hlt
              exact .inr ⟨by simp; omega, by simp; omega⟩
          clear hx hto hup
          generalize stN L T (itr (stN L T) j a) = u2 at *
          generalize itr (stN L T) j a = u at *
          obtain ⟨b2, off2, rfl, d0, _⟩ := HCL.out wr G1.out
          have HM1 := Lib.hid (MO.out.kept (grow0 _ (.cells #[.int .i64 (x : Nat)] 3)))
          have HROW := Lib.hid (Row.newAt (w := wr) (g := wr.heap.size) (n := 1) (vs := #[.int .i64 (x : Nat)]) [(x : Int)] (by simp) rfl rfl (by simp) (by simp; omega))
          have hgs := G1.out.size
          rcases hq with t0 | ⟨t0, t1⟩
          all_goals
            go_wp2_with (first | (at_builtin; refine wpList_app _ rfl _ _ rfl w1.heap.size _ _ _ rfl HM1.out _ 1 1 [(x : Int)] rfl HROW.out (by simp) (by omega) (by simp; omega) ?_))
            intro v1 w3 hm1 hg3 _
            have G3 := Lib.hid (grown_none (grown_alloc G1.out (.cells #[.int .i64 (x : Nat)] 3)) hg3 (fun g hg => MO.out.own_ge g hg))
            obtain ⟨A3, c3, rfl, _⟩ := hm1.sl
            have HM3 := Lib.hid hm1
            clear d0 hm1 hg3
            obtain ⟨b3, off3, hA3, d0, d1⟩ := HCL.out w3 G3.out
            injection hA3 with hA3
            injection hA3 with e1 e2
            subst e1 e2
            obtain ⟨q0, q1⟩ := (OB.out.kept G3.out).two
            go_upto_region 12 with fail
            go_quiet (fail)
            go_wp2
            go_roundw
            case rel => exact ⟨j + 1, by omega, by rw [HNX.out], by first | exact G3.out | exact grown_drew G3.out | exact grown_drewN G3.out _, by rw [HWN.out]; first | exact HM3.out | exact HM3.out.drewN _⟩
            case measure => simp [lenV]; omega
        · obtain rfl : j = p := by omega
          rw [HPB.out]
          have t0 : ((j : Int) == 0) = false := by simp; omega
          have t1 : (((a : Nat) : Int) != (a : Int)) = false := not_same
          go_wp2
          go_ret
          exact ⟨walkT L T a j, .inl WT.out, _, rfl, by rw [walk_len]; exact MO.out.wide (by have := G.out.size; omega), grown_trans G.out G1.out⟩

end Go.Proofs.Ytlpohlcmjnlbhaa
