/-
  cut.areRising; the reference's Among. One operation of a drawn region, taken by hand. The reference's VertsMay. cut.May and the reference's CutMay. cut.Leaving and the reference's. cut.Worth and the reference's. cut.Proves and the reference's.
-/
import Derived.Test.YtlpohlcmjnlbhaaJF
import Derived.Test.YtlpohlcmjnlbhaaJC
import Derived.Test.YtlpohlcmjnlbhaaJB
import Derived.Test.YtlpohlcmjnlbhaaJD

set_option maxRecDepth 20000
namespace Go.Proofs.Ytlpohlcmjnlbhaa
open Go.RowKit

/-- Is it above the one ahead of it? -/
def upB (vs : List Int) (i : Nat) : Bool := decide (i = 0) || decide (vs[i - 1]?.getD 0 < vs[i]?.getD 0)

theorem verts_split (V : Int) (vs : List Int) : vertsB V vs = ((List.range vs.length).all (upB vs) && allV V vs) := by
  rw [Bool.eq_iff_iff, Bool.and_eq_true]
  constructor
  · intro h
    have k := fun i (hi : i < vs.length) => verts_at h hi
    refine ⟨List.all_eq_true.2 fun i hi => ?_, allV_all fun j hj => ?_⟩
    · have := k i (List.mem_range.1 hi)
      simp only [riseB, Bool.and_eq_true] at this
      exact this.2
    · have := k j hj
      simp only [riseB, Bool.and_eq_true] at this
      exact this.1
  · rintro ⟨a, b⟩
    refine List.all_eq_true.2 fun i hi => ?_
    simp only [riseB, Bool.and_eq_true]
    exact ⟨allV_at b (List.mem_range.1 hi), List.all_eq_true.1 a i hi⟩

def RiseRel (w : World) (V : Int) (A : Option Addr) (n c m : Nat) (vs : List Int) (i : Value) (wr : World) : Prop :=
  ∃ k : Nat, k ≤ m ∧ i = .int .i64 (k : Nat) ∧ w.grownBy wr none ∧ Own wr w.heap.size 24 [.int .i64 V, .slice A n c] ∧ (List.range k).all (riseB V vs) = true

theorem rise_isV {V : Int} {vs : List Int} {k : Nat} (h : isV V (vs[k]?.getD 0) = false) : riseB V vs k = false := by simp [riseB, h]
theorem rise_zero {V : Int} {vs : List Int} (h : isV V (vs[0]?.getD 0) = true) : riseB V vs 0 = true := by simp [riseB]; simpa using h
theorem rise_next {V : Int} {vs : List Int} {j : Nat} (h : isV V (vs[j + 1]?.getD 0) = true) : riseB V vs (j + 1) = decide (vs[j]?.getD 0 < vs[j + 1]?.getD 0) := by simp [riseB, h]
theorem rise_more {V : Int} {vs : List Int} {k : Nat} (h : (List.range k).all (riseB V vs) = true) (e : riseB V vs k = true) : (List.range (k + 1)).all (riseB V vs) = true := by rw [range_next, h, e]; rfl

def UpRel (w : World) (V : Int) (A : Option Addr) (n c m : Nat) (vs : List Int) (i : Value) (wr : World) : Prop :=
  ∃ k : Nat, k ≤ m ∧ i = .int .i64 (k : Nat) ∧ w.grownBy wr none ∧ Own wr w.heap.size 24 [.int .i64 V, .slice A n c] ∧ (List.range k).all (upB vs) = true

theorem up_next {vs : List Int} {j : Nat} : upB vs (j + 1) = decide (vs[j]?.getD 0 < vs[j + 1]?.getD 0) := by simp [upB]
theorem up_more {vs : List Int} {k : Nat} (h : (List.range k).all (upB vs) = true) (e : upB vs k = true) : (List.range (k + 1)).all (upB vs) = true := by rw [range_next, h, e]; rfl
theorem up_stop {V : Int} {vs : List Int} {k : Nat} (h : k < vs.length) (e : upB vs k = false) : vertsB V vs = false := by rw [verts_split, range_stop h e]; rfl

set_option maxHeartbeats 1000000 in
theorem areRising_any (V : Int) (A : Option Addr) (n c : Nat) (X : Option Addr) (m d : Nat) (vs : List Int) (w : World) {B : Nat} (h : Row w B X m vs) :
    Calls Try.prog 62 #[.agg #[.int .i64 V, .slice A n c], .slice X m d] w (Says w (.bool (vertsB V vs))) := by
  have hm := h.small
  have HL := Lib.hid h.len
  have HR := Lib.hid h
  clear h
  have HS : Hid (UpRel w V A n c m vs (.int .i64 0) (w.alloc (.cells #[.int .i64 V, .slice A n c] 24))) := ⟨0, Nat.zero_le _, rfl, grow0 _ _, Own.new w 24 [.int .i64 V, .slice A n c], rfl⟩
  go_enter Try.func62, Try.ntmps62
  go_wp2
  go_loopw [9] (fun i wr => UpRel w V A n c m vs i wr) (fun i _ => m - (intOf i).toNat)
  case atStart => exact HS.out
  case round =>
    clear HS
    obtain ⟨k, hk, rfl, hg, ob, hall⟩ := hrel
    have G := Lib.hid hg
    have HA := Lib.hid hall
    obtain ⟨c0, c1⟩ := ob.two
    have O := Lib.hid ob
    by_cases hlt : k < m
    · obtain ⟨b, off, hA, hb, hcell⟩ := HR.out.at_ (by omega)
      subst hA
      have HC := Lib.hid hcell
      have d0 := kept hg (hcell k hlt)
      have HNO := Lib.hid (up_stop (V := V) (vs := vs) (k := k) (by rw [HL.out]; exact hlt))
      clear hcell hg hall ob
      rcases k with _ | j
      · have E : Hid ((List.range (0 + 1)).all (upB vs) = true) := up_more HA.out rfl
        clear HNO HA
        rw [Nat.add_zero] at d0
        generalize vs[0]?.getD 0 = y at *
        go_wp2
        go_roundw
        case rel => exact ⟨0 + 1, by omega, by go_num, G.out, O.out, E.out⟩
        case measure => simp [intOf]; omega
      · have d1 := kept G.out (HC.out j (by omega))
        have HE := Lib.hid (up_next (vs := vs) (j := j))
        generalize hy : vs[j + 1]?.getD 0 = y at *
        generalize hz : vs[j]?.getD 0 = z at *
        clear hy hz
        by_cases hzy : y ≤ z
        · have E : Hid (vertsB V vs = false) := HNO.out (by rw [HE.out]; simp; omega)
          clear HNO HE HA
          go_wp2
          go_ret
          exact ⟨ret_bool E.out, G.out⟩
        · have E : Hid ((List.range (j + 1 + 1)).all (upB vs) = true) := up_more HA.out (by rw [HE.out]; simp; omega)
          clear HNO HE HA
          go_wp2
          go_roundw
          case rel => exact ⟨j + 1 + 1, by omega, by go_num, G.out, O.out, E.out⟩
          case measure => simp [intOf]; omega
    · obtain rfl : k = m := by omega
      have E : Hid (vertsB V vs = allV V vs) := by rw [Hid, verts_split, HL.out, HA.out, Bool.true_and]
      have HRR := Lib.hid (HR.out.raw)
      clear hg hall ob
      have GR := G.out
      go_wp2_with fail
      refine (Verts_any V A n c X k d vs _ (HRR.out.kept GR)).mono ?_
      rintro e w2 ⟨rfl, g2⟩
      have G := Lib.hid (grown_trans G.out g2)
      clear g2 GR
      go_wp2
      go_ret
      exact ⟨ret_bool E.out, G.out⟩

def AmRel (w : World) (n : Nat) (x : Int) (xs : List Int) (i : Value) (wr : World) : Prop :=
  ∃ k : Nat, k ≤ n ∧ i = .int .i64 (k : Nat) ∧ w.grownBy wr none ∧ ∀ j, j < k → ¬ xs[j]?.getD 0 = x

theorem am_yes {x : Int} {xs : List Int} {k : Nat} (h : k < xs.length) (e : xs[k]?.getD 0 = x) : decide (x ∈ xs) = true := by
  rw [List.getElem?_eq_getElem h, Option.getD_some] at e
  subst e
  simp
theorem am_no {x : Int} {xs : List Int} (h : ∀ j, j < xs.length → ¬ xs[j]?.getD 0 = x) : decide (x ∈ xs) = false := by
  simp only [decide_eq_false_iff_not]
  intro hx
  obtain ⟨i, hi, e⟩ := List.getElem_of_mem hx
  exact h i hi (by rw [List.getElem?_eq_getElem hi, Option.getD_some]; exact e)

theorem Among_any (x : Int) (A : Option Addr) (n c : Nat) (xs : List Int) (w : World) {B : Nat} (h : Row w B A n xs) :
    Calls Try.prog 52 #[.slice A n c, .int .i64 x] w (Says w (.bool (decide (x ∈ xs)))) := by
  have hn := h.small
  have HL := Lib.hid h.len
  have HR := Lib.hid h
  clear h
  have HS : Hid (AmRel w n x xs (.int .i64 0) w) := ⟨0, Nat.zero_le _, rfl, World.grownBy.refl w none, by omega⟩
  go_enter Try.func52, Try.ntmps52
  go_wp2
  go_loopw [5] (fun i wr => AmRel w n x xs i wr) (fun i _ => n - (intOf i).toNat)
  case atStart => exact HS.out
  case round =>
    clear HS
    obtain ⟨k, hk, rfl, hg, hno⟩ := hrel
    have G := Lib.hid hg
    have HNO := Lib.hid hno
    by_cases hlt : k < n
    · obtain ⟨b, off, hA, hb, hcell⟩ := HR.out.at_ (by omega)
      subst hA
      have d0 := kept hg (hcell k hlt)
      clear hcell hg hno
      by_cases he : xs[k]?.getD 0 = x
      · have E := Lib.hid (am_yes (by rw [HL.out]; exact hlt) he)
        rw [he] at d0
        clear he
        have hxx : (x == x) = true := by simp
        go_wp2
        go_ret
        exact ⟨ret_bool E.out, G.out⟩
      · have HN := Lib.hid he
        have hxx : (xs[k]?.getD 0 == x) = false := by simp; exact he
        have HNO2 : Hid (∀ j, j < k + 1 → ¬ xs[j]?.getD 0 = x) := fun j hj => by
          rcases Nat.lt_or_ge j k with a | a
          · exact HNO.out j a
          · obtain rfl : j = k := by omega
            exact HN.out
        clear he HN HNO
        generalize xs[k]?.getD 0 = y at *
        go_wp2
        go_roundw
        case rel => exact ⟨k + 1, by omega, by go_num, G.out, HNO2.out⟩
        case measure => simp [intOf]; omega
    · obtain rfl : k = n := by omega
      have E := Lib.hid (am_no (x := x) (xs := xs) (by rw [HL.out]; exact HNO.out))
      clear hg hno
      go_wp2
      go_ret
      exact ⟨ret_bool E.out, G.out⟩

end Go.Proofs.Ytlpohlcmjnlbhaa

set_option maxRecDepth 20000
namespace Go.Proofs.Ytlpohlcmjnlbhaa
open Go.RowKit

theorem takeH {P : Program} {ops : Array Oper} {Q : Exit → Act → World → Prop} {md : Region.Mode} {S : World → Prop} {i d : Nat} {oi : Oper} {v : Value} {fuel : Nat} {listed : Array Bool} {a : Act} {w : World} (hi : ops[i]? = some oi) (hd : oi.dst = some d)
    (hs : Region.noSelect ops = true) (hf : Region.free md ops listed i = true) (hr : (Region.ready md ops listed).contains i = true)
    (hQ : ∀ c a w, Q (.panic c) (a.put (some d) v) w → Q (.panic c) a w) (hy : YieldsIf P ops S oi v a) (hS : S w)
    (h : wpAnyH P md ops Q S fuel (listed.setIfInBounds i true) (a.put (some d) v) w) : wpAnyH P md ops Q S (fuel + 1) listed a w :=
  wpAnyH_take hi hs hf hr (by rw [hd]; exact hQ) hy hS (by rw [hd]; exact h)

end Go.Proofs.Ytlpohlcmjnlbhaa

set_option maxRecDepth 20000
namespace Go.Proofs.Ytlpohlcmjnlbhaa
open Go.RowKit

theorem held3 {w w1 : World} {b b2 i j : Nat} {x y z : Value} (g : w.grownBy w1 none) (h : (fun w' : World => w'.cell? ⟨b, 0, none⟩ = some x ∧ w'.cell? ⟨b, 1, none⟩ = some y ∧ w'.cell? ⟨b2, i + j, none⟩ = some z) w) :
    (fun w' : World => w'.cell? ⟨b, 0, none⟩ = some x ∧ w'.cell? ⟨b, 1, none⟩ = some y ∧ w'.cell? ⟨b2, i + j, none⟩ = some z) w1 := ⟨kept g h.1, kept g h.2.1, kept g h.2.2⟩

theorem held4c {w w1 : World} {b b2 i j k : Nat} {x y z u : Value} (g : w.grownBy w1 none) (h : (fun w' : World => w'.cell? ⟨b, 0, none⟩ = some x ∧ w'.cell? ⟨b, 1, none⟩ = some y ∧ w'.cell? ⟨b2, i + j, none⟩ = some z ∧ w'.cell? ⟨b2, i + k, none⟩ = some u) w) :
    (fun w' : World => w'.cell? ⟨b, 0, none⟩ = some x ∧ w'.cell? ⟨b, 1, none⟩ = some y ∧ w'.cell? ⟨b2, i + j, none⟩ = some z ∧ w'.cell? ⟨b2, i + k, none⟩ = some u) w1 := ⟨kept g h.1, kept g h.2.1, kept g h.2.2.1, kept g h.2.2.2⟩

set_option maxRecDepth 20000 in
set_option maxHeartbeats 2000000 in
theorem VertsMay_any (V : Int) (A : Option Addr) (n c : Nat) (X : Option Addr) (m d : Nat) (vs : List Int) (w : World) {B : Nat} (h : Row w B X m vs) :
    Calls Try.prog 50 #[.agg #[.int .i64 V, .slice A n c], .slice X m d] w (Says w (.bool (vertsB V vs))) := by
  have hm := h.small
  have HL := Lib.hid h.len
  have HR := Lib.hid h
  clear h
  have HS : Hid (RiseRel w V A n c m vs (.int .i64 0) (w.alloc (.cells #[.int .i64 V, .slice A n c] 24))) := ⟨0, Nat.zero_le _, rfl, grow0 _ _, Own.new w 24 [.int .i64 V, .slice A n c], rfl⟩
  go_enter Try.func50, Try.ntmps50
  go_wp2
  go_loopw [5] (fun i wr => RiseRel w V A n c m vs i wr) (fun i _ => m - (intOf i).toNat)
  case atStart => exact HS.out
  case round =>
    clear HS
    obtain ⟨k, hk, rfl, hg, ob, hall⟩ := hrel
    have G := Lib.hid hg
    have HA := Lib.hid hall
    obtain ⟨c0, c1⟩ := ob.two
    have O := Lib.hid ob
    by_cases hlt : k < m
    · obtain ⟨b, off, hA, hb, hcell⟩ := HR.out.at_ (by omega)
      subst hA
      have HC := Lib.hid hcell
      have d0 := kept hg (hcell k hlt)
      have HNO := Lib.hid (verts_stop (V := V) (vs := vs) (k := k) (by rw [HL.out]; exact hlt))
      have GK := Lib.hid (World.grownBy.refl wr none)
      clear hcell hg hall ob
      cases hv : isV V (vs[k]?.getD 0)
      · have E : Hid (vertsB V vs = false) := HNO.out (rise_isV hv)
        have HV := Lib.hid hv
        clear HNO hv
        generalize vs[k]?.getD 0 = y at *
        have HSS : Hid ((fun w' : World => w'.cell? ⟨w.heap.size, 0, none⟩ = some (.int .i64 V) ∧ w'.cell? ⟨w.heap.size, 1, none⟩ = some (.slice A n c) ∧ w'.cell? ⟨b, off + k, none⟩ = some (.int .i64 y)) wr) := ⟨c0, c1, d0⟩
        go_wp2_with fail
        refine wp_region_held_drew (S := fun w' : World => w'.cell? ⟨w.heap.size, 0, none⟩ = some (.int .i64 V) ∧ w'.cell? ⟨w.heap.size, 1, none⟩ = some (.slice A n c) ∧ w'.cell? ⟨b, off + k, none⟩ = some (.int .i64 y)) (by kernel_rfl) HSS.out (fun hHeld => ?_)
        refine takeH (i := 0) (d := 12) (v := .agg #[.int .i64 V, .slice A n c]) rfl rfl (by kernel_rfl) (by kernel_rfl) (by kernel_rfl) (fun _ _ _ h => h) (Or.inl ⟨by rfl, ?_⟩) (by assumption) ?_
        · intro w hSw; go_simp
        simp only [Act.put, List.setIfInBounds_toArray, List.set_cons_zero, List.set_cons_succ]
        refine takeH (i := 1) (d := 13) (v := .slice (some ⟨b, off, none⟩) m d) rfl rfl (by kernel_rfl) (by kernel_rfl) (by kernel_rfl) (fun _ _ _ h => h) (Or.inl ⟨by rfl, ?_⟩) (by assumption) ?_
        · intro w hSw; go_simp
        simp only [Act.put, List.setIfInBounds_toArray, List.set_cons_zero, List.set_cons_succ]
        refine takeH (i := 2) (d := 14) (v := .int .i64 (k : Nat)) rfl rfl (by kernel_rfl) (by kernel_rfl) (by kernel_rfl) (fun _ _ _ h => h) (Or.inl ⟨by rfl, ?_⟩) (by assumption) ?_
        · intro w hSw; go_simp
        simp only [Act.put, List.setIfInBounds_toArray, List.set_cons_zero, List.set_cons_succ]
        refine takeH (i := 3) (d := 15) (v := .pointer (some ⟨b, off + k, none⟩)) rfl rfl (by kernel_rfl) (by kernel_rfl) (by kernel_rfl) (fun _ _ _ h => h) (Or.inl ⟨by rfl, ?_⟩) (by assumption) ?_
        · intro w hSw; go_simp
        simp only [Act.put, List.setIfInBounds_toArray, List.set_cons_zero, List.set_cons_succ]
        refine takeH (i := 4) (d := 16) (v := .int .i64 y) rfl rfl (by kernel_rfl) (by kernel_rfl) (by kernel_rfl) (fun _ _ _ h => h) (Or.inl ⟨by rfl, ?_⟩) (by assumption) ?_
        · intro w hSw; go_simp
        simp only [Act.put, List.setIfInBounds_toArray, List.set_cons_zero, List.set_cons_succ]
        refine wpAnyH_ready (rs := [5]) (by kernel_rfl) (by simp) ?_
        refine AllReadyH.cons rfl (fun K hK => ?_) AllReadyH.nil
        go_simp
        go_at_call 48
        refine (RVertex_any V y A n c _).mono ?_
        rintro e w8 ⟨he, g⟩
        rw [HV.out] at he
        subst he
        have GK : Hid (wr.grownBy w8 none) := grown_undrew g
        have HSS := Lib.hid (held3 g HSS.out)
        clear g
        go_wp2_with fail
        refine hK.out _ _ HSS.out (fun hHeld => ?_)
        clear hK
        refine takeH (i := 6) (d := 18) (v := .bool true) rfl rfl (by kernel_rfl) (by kernel_rfl) (by kernel_rfl) (fun _ _ _ h => h) (Or.inl ⟨by rfl, ?_⟩) (by assumption) ?_
        · intro w hSw; go_simp
        simp only [Act.put, List.setIfInBounds_toArray, List.set_cons_zero, List.set_cons_succ]
        refine takeH (i := 7) (d := 19) (v := .bool true) rfl rfl (by kernel_rfl) (by kernel_rfl) (by kernel_rfl) (fun _ _ _ h => h) (Or.inl ⟨by rfl, ?_⟩) (by assumption) ?_
        · intro w hSw; go_simp
        simp only [Act.put, List.setIfInBounds_toArray, List.set_cons_zero, List.set_cons_succ]
        refine takeH (i := 8) (d := 20) (v := undef) rfl rfl (by kernel_rfl) (by kernel_rfl) (by kernel_rfl) (fun _ _ _ h => h) (Or.inr ⟨by rfl, rfl⟩) (by assumption) ?_
        simp only [Act.put, List.setIfInBounds_toArray, List.set_cons_zero, List.set_cons_succ]
        refine takeH (i := 9) (d := 21) (v := undef) rfl rfl (by kernel_rfl) (by kernel_rfl) (by kernel_rfl) (fun _ _ _ h => h) (Or.inr ⟨by rfl, rfl⟩) (by assumption) ?_
        simp only [Act.put, List.setIfInBounds_toArray, List.set_cons_zero, List.set_cons_succ]
        refine takeH (i := 10) (d := 22) (v := undef) rfl rfl (by kernel_rfl) (by kernel_rfl) (by kernel_rfl) (fun _ _ _ h => h) (Or.inr ⟨by rfl, rfl⟩) (by assumption) ?_
        simp only [Act.put, List.setIfInBounds_toArray, List.set_cons_zero, List.set_cons_succ]
        refine takeH (i := 11) (d := 23) (v := undef) rfl rfl (by kernel_rfl) (by kernel_rfl) (by kernel_rfl) (fun _ _ _ h => h) (Or.inr ⟨by rfl, rfl⟩) (by assumption) ?_
        simp only [Act.put, List.setIfInBounds_toArray, List.set_cons_zero, List.set_cons_succ]
        refine takeH (i := 12) (d := 24) (v := undef) rfl rfl (by kernel_rfl) (by kernel_rfl) (by kernel_rfl) (fun _ _ _ h => h) (Or.inr ⟨by rfl, rfl⟩) (by assumption) ?_
        simp only [Act.put, List.setIfInBounds_toArray, List.set_cons_zero, List.set_cons_succ]
        refine takeH (i := 13) (d := 25) (v := undef) rfl rfl (by kernel_rfl) (by kernel_rfl) (by kernel_rfl) (fun _ _ _ h => h) (Or.inr ⟨by rfl, rfl⟩) (by assumption) ?_
        simp only [Act.put, List.setIfInBounds_toArray, List.set_cons_zero, List.set_cons_succ]
        refine takeH (i := 14) (d := 26) (v := undef) rfl rfl (by kernel_rfl) (by kernel_rfl) (by kernel_rfl) (fun _ _ _ h => h) (Or.inr ⟨by rfl, rfl⟩) (by assumption) ?_
        simp only [Act.put, List.setIfInBounds_toArray, List.set_cons_zero, List.set_cons_succ]
        refine takeH (i := 15) (d := 27) (v := undef) rfl rfl (by kernel_rfl) (by kernel_rfl) (by kernel_rfl) (fun _ _ _ h => h) (Or.inr ⟨by rfl, rfl⟩) (by assumption) ?_
        simp only [Act.put, List.setIfInBounds_toArray, List.set_cons_zero, List.set_cons_succ]
        refine takeH (i := 16) (d := 28) (v := undef) rfl rfl (by kernel_rfl) (by kernel_rfl) (by kernel_rfl) (fun _ _ _ h => h) (Or.inr ⟨by rfl, rfl⟩) (by assumption) ?_
        simp only [Act.put, List.setIfInBounds_toArray, List.set_cons_zero, List.set_cons_succ]
        refine takeH (i := 17) (d := 29) (v := undef) rfl rfl (by kernel_rfl) (by kernel_rfl) (by kernel_rfl) (fun _ _ _ h => h) (Or.inr ⟨by rfl, rfl⟩) (by assumption) ?_
        simp only [Act.put, List.setIfInBounds_toArray, List.set_cons_zero, List.set_cons_succ]
        refine takeH (i := 18) (d := 30) (v := undef) rfl rfl (by kernel_rfl) (by kernel_rfl) (by kernel_rfl) (fun _ _ _ h => h) (Or.inr ⟨by rfl, rfl⟩) (by assumption) ?_
        simp only [Act.put, List.setIfInBounds_toArray, List.set_cons_zero, List.set_cons_succ]
        refine takeH (i := 19) (d := 31) (v := undef) rfl rfl (by kernel_rfl) (by kernel_rfl) (by kernel_rfl) (fun _ _ _ h => h) (Or.inr ⟨by rfl, rfl⟩) (by assumption) ?_
        simp only [Act.put, List.setIfInBounds_toArray, List.set_cons_zero, List.set_cons_succ]
        refine takeH (i := 20) (d := 32) (v := undef) rfl rfl (by kernel_rfl) (by kernel_rfl) (by kernel_rfl) (fun _ _ _ h => h) (Or.inr ⟨by rfl, rfl⟩) (by assumption) ?_
        simp only [Act.put, List.setIfInBounds_toArray, List.set_cons_zero, List.set_cons_succ]
        refine takeH (i := 21) (d := 33) (v := undef) rfl rfl (by kernel_rfl) (by kernel_rfl) (by kernel_rfl) (fun _ _ _ h => h) (Or.inr ⟨by rfl, rfl⟩) (by assumption) ?_
        simp only [Act.put, List.setIfInBounds_toArray, List.set_cons_zero, List.set_cons_succ]
        refine takeH (i := 22) (d := 34) (v := .bool true) rfl rfl (by kernel_rfl) (by kernel_rfl) (by kernel_rfl) (fun _ _ _ h => h) (Or.inl ⟨by rfl, ?_⟩) (by assumption) ?_
        · intro w hSw; go_simp
        simp only [Act.put, List.setIfInBounds_toArray, List.set_cons_zero, List.set_cons_succ]
        refine wpAnyH_done (by kernel_rfl) ?_ _
        go_wp2
        go_ret
        exact ⟨ret_bool E.out, grown_trans G.out GK.out⟩
      by_cases hk0 : k = 0
      · have E : Hid ((List.range (k + 1)).all (riseB V vs) = true) := rise_more HA.out (by subst hk0; exact rise_zero hv)
        have HV := Lib.hid hv
        clear HNO hv HA
        generalize vs[k]?.getD 0 = y at *
        have hk1 : ¬ (0 : Int) < (k : Int) := by omega
        have hk2 : decide ((0 : Int) < (k : Int)) = false := by simp; omega
        have HK0 := Lib.hid hk0
        clear hk0
        have HSS : Hid ((fun w' : World => w'.cell? ⟨w.heap.size, 0, none⟩ = some (.int .i64 V) ∧ w'.cell? ⟨w.heap.size, 1, none⟩ = some (.slice A n c) ∧ w'.cell? ⟨b, off + k, none⟩ = some (.int .i64 y)) wr) := ⟨c0, c1, d0⟩
        go_wp2_with fail
        refine wp_region_held_drew (S := fun w' : World => w'.cell? ⟨w.heap.size, 0, none⟩ = some (.int .i64 V) ∧ w'.cell? ⟨w.heap.size, 1, none⟩ = some (.slice A n c) ∧ w'.cell? ⟨b, off + k, none⟩ = some (.int .i64 y)) (by kernel_rfl) HSS.out (fun hHeld => ?_)
        refine takeH (i := 0) (d := 12) (v := .agg #[.int .i64 V, .slice A n c]) rfl rfl (by kernel_rfl) (by kernel_rfl) (by kernel_rfl) (fun _ _ _ h => h) (Or.inl ⟨by rfl, ?_⟩) (by assumption) ?_
        · intro w hSw; go_simp
        simp only [Act.put, List.setIfInBounds_toArray, List.set_cons_zero, List.set_cons_succ]
        refine takeH (i := 1) (d := 13) (v := .slice (some ⟨b, off, none⟩) m d) rfl rfl (by kernel_rfl) (by kernel_rfl) (by kernel_rfl) (fun _ _ _ h => h) (Or.inl ⟨by rfl, ?_⟩) (by assumption) ?_
        · intro w hSw; go_simp
        simp only [Act.put, List.setIfInBounds_toArray, List.set_cons_zero, List.set_cons_succ]
        refine takeH (i := 2) (d := 14) (v := .int .i64 (k : Nat)) rfl rfl (by kernel_rfl) (by kernel_rfl) (by kernel_rfl) (fun _ _ _ h => h) (Or.inl ⟨by rfl, ?_⟩) (by assumption) ?_
        · intro w hSw; go_simp
        simp only [Act.put, List.setIfInBounds_toArray, List.set_cons_zero, List.set_cons_succ]
        refine takeH (i := 3) (d := 15) (v := .pointer (some ⟨b, off + k, none⟩)) rfl rfl (by kernel_rfl) (by kernel_rfl) (by kernel_rfl) (fun _ _ _ h => h) (Or.inl ⟨by rfl, ?_⟩) (by assumption) ?_
        · intro w hSw; go_simp
        simp only [Act.put, List.setIfInBounds_toArray, List.set_cons_zero, List.set_cons_succ]
        refine takeH (i := 4) (d := 16) (v := .int .i64 y) rfl rfl (by kernel_rfl) (by kernel_rfl) (by kernel_rfl) (fun _ _ _ h => h) (Or.inl ⟨by rfl, ?_⟩) (by assumption) ?_
        · intro w hSw; go_simp
        simp only [Act.put, List.setIfInBounds_toArray, List.set_cons_zero, List.set_cons_succ]
        refine wpAnyH_ready (rs := [5]) (by kernel_rfl) (by simp) ?_
        refine AllReadyH.cons rfl (fun K hK => ?_) AllReadyH.nil
        go_simp
        go_at_call 48
        refine (RVertex_any V y A n c _).mono ?_
        rintro e w8 ⟨he, g⟩
        rw [HV.out] at he
        subst he
        have GK : Hid (wr.grownBy w8 none) := grown_undrew g
        have HSS := Lib.hid (held3 g HSS.out)
        clear g
        go_wp2_with fail
        refine hK.out _ _ HSS.out (fun hHeld => ?_)
        clear hK
        refine takeH (i := 6) (d := 18) (v := .bool false) rfl rfl (by kernel_rfl) (by kernel_rfl) (by kernel_rfl) (fun _ _ _ h => h) (Or.inl ⟨by rfl, ?_⟩) (by assumption) ?_
        · intro w hSw; go_simp
        simp only [Act.put, List.setIfInBounds_toArray, List.set_cons_zero, List.set_cons_succ]
        refine takeH (i := 7) (d := 19) (v := .bool false) rfl rfl (by kernel_rfl) (by kernel_rfl) (by kernel_rfl) (fun _ _ _ h => h) (Or.inl ⟨by rfl, ?_⟩) (by assumption) ?_
        · intro w hSw; go_simp
        simp only [Act.put, List.setIfInBounds_toArray, List.set_cons_zero, List.set_cons_succ]
        refine takeH (i := 8) (d := 20) (v := .int .i64 (k : Nat)) rfl rfl (by kernel_rfl) (by kernel_rfl) (by kernel_rfl) (fun _ _ _ h => h) (Or.inl ⟨by rfl, ?_⟩) (by assumption) ?_
        · intro w hSw; go_simp
        simp only [Act.put, List.setIfInBounds_toArray, List.set_cons_zero, List.set_cons_succ]
        refine takeH (i := 9) (d := 21) (v := .bool false) rfl rfl (by kernel_rfl) (by kernel_rfl) (by kernel_rfl) (fun _ _ _ h => h) (Or.inl ⟨by rfl, ?_⟩) (by assumption) ?_
        · intro w hSw; go_simp; exact HK0.out
        simp only [Act.put, List.setIfInBounds_toArray, List.set_cons_zero, List.set_cons_succ]
        refine takeH (i := 10) (d := 22) (v := .bool false) rfl rfl (by kernel_rfl) (by kernel_rfl) (by kernel_rfl) (fun _ _ _ h => h) (Or.inl ⟨by rfl, ?_⟩) (by assumption) ?_
        · intro w hSw; go_simp
        simp only [Act.put, List.setIfInBounds_toArray, List.set_cons_zero, List.set_cons_succ]
        refine takeH (i := 11) (d := 23) (v := undef) rfl rfl (by kernel_rfl) (by kernel_rfl) (by kernel_rfl) (fun _ _ _ h => h) (Or.inr ⟨by rfl, rfl⟩) (by assumption) ?_
        simp only [Act.put, List.setIfInBounds_toArray, List.set_cons_zero, List.set_cons_succ]
        refine takeH (i := 12) (d := 24) (v := undef) rfl rfl (by kernel_rfl) (by kernel_rfl) (by kernel_rfl) (fun _ _ _ h => h) (Or.inr ⟨by rfl, rfl⟩) (by assumption) ?_
        simp only [Act.put, List.setIfInBounds_toArray, List.set_cons_zero, List.set_cons_succ]
        refine takeH (i := 13) (d := 25) (v := undef) rfl rfl (by kernel_rfl) (by kernel_rfl) (by kernel_rfl) (fun _ _ _ h => h) (Or.inr ⟨by rfl, rfl⟩) (by assumption) ?_
        simp only [Act.put, List.setIfInBounds_toArray, List.set_cons_zero, List.set_cons_succ]
        refine takeH (i := 14) (d := 26) (v := undef) rfl rfl (by kernel_rfl) (by kernel_rfl) (by kernel_rfl) (fun _ _ _ h => h) (Or.inr ⟨by rfl, rfl⟩) (by assumption) ?_
        simp only [Act.put, List.setIfInBounds_toArray, List.set_cons_zero, List.set_cons_succ]
        refine takeH (i := 15) (d := 27) (v := undef) rfl rfl (by kernel_rfl) (by kernel_rfl) (by kernel_rfl) (fun _ _ _ h => h) (Or.inr ⟨by rfl, rfl⟩) (by assumption) ?_
        simp only [Act.put, List.setIfInBounds_toArray, List.set_cons_zero, List.set_cons_succ]
        refine takeH (i := 16) (d := 28) (v := undef) rfl rfl (by kernel_rfl) (by kernel_rfl) (by kernel_rfl) (fun _ _ _ h => h) (Or.inr ⟨by rfl, rfl⟩) (by assumption) ?_
        simp only [Act.put, List.setIfInBounds_toArray, List.set_cons_zero, List.set_cons_succ]
        refine takeH (i := 17) (d := 29) (v := undef) rfl rfl (by kernel_rfl) (by kernel_rfl) (by kernel_rfl) (fun _ _ _ h => h) (Or.inr ⟨by rfl, rfl⟩) (by assumption) ?_
        simp only [Act.put, List.setIfInBounds_toArray, List.set_cons_zero, List.set_cons_succ]
        refine takeH (i := 18) (d := 30) (v := undef) rfl rfl (by kernel_rfl) (by kernel_rfl) (by kernel_rfl) (fun _ _ _ h => h) (Or.inr ⟨by rfl, rfl⟩) (by assumption) ?_
        simp only [Act.put, List.setIfInBounds_toArray, List.set_cons_zero, List.set_cons_succ]
        refine takeH (i := 19) (d := 31) (v := undef) rfl rfl (by kernel_rfl) (by kernel_rfl) (by kernel_rfl) (fun _ _ _ h => h) (Or.inr ⟨by rfl, rfl⟩) (by assumption) ?_
        simp only [Act.put, List.setIfInBounds_toArray, List.set_cons_zero, List.set_cons_succ]
        refine takeH (i := 20) (d := 32) (v := undef) rfl rfl (by kernel_rfl) (by kernel_rfl) (by kernel_rfl) (fun _ _ _ h => h) (Or.inr ⟨by rfl, rfl⟩) (by assumption) ?_
        simp only [Act.put, List.setIfInBounds_toArray, List.set_cons_zero, List.set_cons_succ]
        refine takeH (i := 21) (d := 33) (v := .bool false) rfl rfl (by kernel_rfl) (by kernel_rfl) (by kernel_rfl) (fun _ _ _ h => h) (Or.inl ⟨by rfl, ?_⟩) (by assumption) ?_
        · intro w hSw; go_simp
        simp only [Act.put, List.setIfInBounds_toArray, List.set_cons_zero, List.set_cons_succ]
        refine takeH (i := 22) (d := 34) (v := .bool false) rfl rfl (by kernel_rfl) (by kernel_rfl) (by kernel_rfl) (fun _ _ _ h => h) (Or.inl ⟨by rfl, ?_⟩) (by assumption) ?_
        · intro w hSw; go_simp
        simp only [Act.put, List.setIfInBounds_toArray, List.set_cons_zero, List.set_cons_succ]
        refine wpAnyH_done (by kernel_rfl) ?_ _
        go_wp2
        go_roundw
        case rel => exact ⟨k + 1, by omega, by go_num, grown_trans G.out GK.out, O.out.kept GK.out, E.out⟩
        case measure => simp [intOf]; omega
      · obtain ⟨j, rfl⟩ : ∃ j, k = j + 1 := ⟨k - 1, by omega⟩
        have e0 := kept G.out (HC.out j (by omega))
        have HE := Lib.hid (rise_next hv)
        have HV := Lib.hid hv
        clear hv hk0
        generalize hy : vs[j + 1]?.getD 0 = y at *
        generalize hz : vs[j]?.getD 0 = z at *
        clear hy hz
        have hw : IntKind.i64.wrap (j : Int) = (j : Int) := IntWalk.i64_in _ (by omega)
        have f1 : (0 : Int) ≤ (j : Int) + 1 := by omega
        have f2 : (j : Int) + 1 < (m : Int) := by omega
        have f3 : ((j : Int) + 1).toNat = j + 1 := by omega
        have f4 : (j : Int) < (m : Int) := by omega
        have f5 : (0 : Int) < (j : Int) + 1 := by omega
        have HSS : Hid ((fun w' : World => w'.cell? ⟨w.heap.size, 0, none⟩ = some (.int .i64 V) ∧ w'.cell? ⟨w.heap.size, 1, none⟩ = some (.slice A n c) ∧ w'.cell? ⟨b, off + (j + 1), none⟩ = some (.int .i64 y) ∧ w'.cell? ⟨b, off + j, none⟩ = some (.int .i64 z)) wr) := ⟨c0, c1, d0, e0⟩
        by_cases hzy : y ≤ z
        · have E : Hid (vertsB V vs = false) := HNO.out (by rw [HE.out]; simp; omega)
          clear HNO HE HA
          go_wp2_with fail
          go_region_held3 (fun w' : World => w'.cell? ⟨w.heap.size, 0, none⟩ = some (.int .i64 V) ∧ w'.cell? ⟨w.heap.size, 1, none⟩ = some (.slice A n c) ∧ w'.cell? ⟨b, off + (j + 1), none⟩ = some (.int .i64 y) ∧ w'.cell? ⟨b, off + j, none⟩ = some (.int .i64 z)) (exact HSS.out)
            (first
            | (go_at_call 48; refine (RVertex_any V y A n c _).mono ?_; rintro e w8 ⟨he, g⟩; rw [HV.out] at he; subst he; have GK : Hid (wr.grownBy w8 none) := (by first | exact grown_trans GK.out g | exact grown_trans (grown_drew GK.out) g | exact grown_trans (grown_drewN GK.out _) g); have HSS := Lib.hid (held4c g HSS.out); clear g))
          go_wp2
          go_ret
          exact ⟨ret_bool E.out, grown_trans G.out GK.out⟩
        · have E : Hid ((List.range (j + 1 + 1)).all (riseB V vs) = true) := rise_more HA.out (by rw [HE.out]; simp; omega)
          clear HNO HE HA
          go_wp2_with fail
          go_region_held3 (fun w' : World => w'.cell? ⟨w.heap.size, 0, none⟩ = some (.int .i64 V) ∧ w'.cell? ⟨w.heap.size, 1, none⟩ = some (.slice A n c) ∧ w'.cell? ⟨b, off + (j + 1), none⟩ = some (.int .i64 y) ∧ w'.cell? ⟨b, off + j, none⟩ = some (.int .i64 z)) (exact HSS.out)
            (first
            | (go_at_call 48; refine (RVertex_any V y A n c _).mono ?_; rintro e w8 ⟨he, g⟩; rw [HV.out] at he; subst he; have GK : Hid (wr.grownBy w8 none) := (by first | exact grown_trans GK.out g | exact grown_trans (grown_drew GK.out) g | exact grown_trans (grown_drewN GK.out _) g); have HSS := Lib.hid (held4c g HSS.out); clear g))
          go_wp2
          go_roundw
          case rel => exact ⟨j + 1 + 1, by omega, by go_num, grown_trans G.out GK.out, O.out.kept GK.out, E.out⟩
          case measure => simp [intOf]; omega
    · obtain rfl : k = m := by omega
      have E : Hid (vertsB V vs = true) := by rw [Hid, vertsB, HL.out]; exact HA.out
      clear hg hall ob
      go_wp2
      go_ret
      exact ⟨ret_bool E.out, G.out⟩

end Go.Proofs.Ytlpohlcmjnlbhaa

set_option maxRecDepth 20000
namespace Go.Proofs.Ytlpohlcmjnlbhaa
open Go.RowKit

set_option maxHeartbeats 1000000 in
theorem SMay_any (V s t : Int) (A : Option Addr) (n c : Nat) (L : List Lk) (X : Option Addr) (m d : Nat) (vs : List Int) (w : World) {B B' : Nat} (h : Lks w B A n L) (hB : B ≤ w.heap.size) (hx : Row w B' X m vs) (hB' : B' ≤ w.heap.size) :
    Calls Try.prog 38 #[.agg #[.int .i64 V, .slice A n c], .int .i64 s, .int .i64 t, .slice X m d] w (Says w (.bool (cutB V L s t vs))) := by
  have HX := Lib.hid hx
  have HR1 := Lib.hid (h.grown hB (grow0 w (.cells #[.int .i64 V, .slice A n c] 24)))
  have HE : Hid (cutB V L s t vs = (mayG V L && vertsB V vs && decide (s ∈ vs) && isV V t && !decide (t ∈ vs))) := rfl
  clear h hx
  go_enter Try.func38, Try.ntmps38
  go_wp2_with fail
  refine (GMay_any V A n c L _ HR1.out (by simp; omega)).mono ?_
  rintro e w1 ⟨rfl, g1⟩
  obtain ⟨g, o2⟩ := box1 [.int .i64 V, .slice A n c] g1
  obtain ⟨c0, c1⟩ := o2.two
  have G := Lib.hid g
  have O2 := Lib.hid o2
  clear g g1 o2 HR1
  cases hmay : mayG V L
  · have E : Hid (cutB V L s t vs = false) := by rw [Hid, HE.out, hmay]; rfl
    clear HE hmay
    go_wp2
    go_ret
    exact ⟨ret_bool E.out, G.out⟩
  rw [hmay, Bool.true_and] at HE
  clear hmay
  go_wp2_with fail
  refine (areRising_any V A n c X m d vs _ (HX.out.grown hB' G.out)).mono ?_
  rintro e w2 ⟨rfl, g2⟩
  have G := Lib.hid (grown_trans G.out g2)
  have O2 := Lib.hid (O2.out.kept g2)
  clear g2 c0 c1
  cases hv : vertsB V vs
  · have E : Hid (cutB V L s t vs = false) := by rw [Hid, HE.out, hv]; rfl
    clear HE hv
    go_wp2
    go_ret
    exact ⟨ret_bool E.out, G.out⟩
  rw [hv, Bool.true_and] at HE
  clear hv
  go_wp2_with fail
  refine (Contains_any s X m d vs _ (HX.out.grown hB' G.out)).mono ?_
  rintro e w3 ⟨rfl, g3⟩
  have G := Lib.hid (grown_trans G.out g3)
  have O2 := Lib.hid (O2.out.kept g3)
  obtain ⟨c0, c1⟩ := O2.out.two
  clear g3
  cases hs : decide (s ∈ vs)
  · have E : Hid (cutB V L s t vs = false) := by rw [Hid, HE.out, hs]; rfl
    clear HE hs
    go_wp2
    go_ret
    exact ⟨ret_bool E.out, G.out⟩
  rw [hs, Bool.true_and] at HE
  clear hs
  go_wp2_with fail
  refine (Vert1_any V t A n c _ rfl).mono ?_
  rintro e w4 ⟨rfl, g4⟩
  have G := Lib.hid (grown_trans G.out g4)
  clear g4 c0 c1 O2
  cases ht : isV V t
  · have E : Hid (cutB V L s t vs = false) := by rw [Hid, HE.out, ht]; rfl
    clear HE ht
    go_wp2
    go_ret
    exact ⟨ret_bool E.out, G.out⟩
  rw [ht, Bool.true_and] at HE
  clear ht
  go_wp2_with fail
  refine (Contains_any t X m d vs _ (HX.out.grown hB' G.out)).mono ?_
  rintro e w5 ⟨rfl, g5⟩
  have G := Lib.hid (grown_trans G.out g5)
  clear g5
  cases hd : decide (t ∈ vs)
  · have E : Hid (cutB V L s t vs = true) := by rw [Hid, HE.out, hd]; rfl
    clear HE hd
    go_wp2
    go_ret
    exact ⟨ret_bool E.out, G.out⟩
  · have E : Hid (cutB V L s t vs = false) := by rw [Hid, HE.out, hd]; rfl
    clear HE hd
    go_wp2
    go_ret
    exact ⟨ret_bool E.out, G.out⟩

set_option maxHeartbeats 1000000 in
theorem RCutMay_any (V s t : Int) (A : Option Addr) (n c : Nat) (L : List Lk) (X : Option Addr) (m d : Nat) (vs : List Int) (w : World) {B B' : Nat} (h : Lks w B A n L) (hB : B ≤ w.heap.size) (hx : Row w B' X m vs) (hB' : B' ≤ w.heap.size) :
    Calls Try.prog 30 #[.agg #[.int .i64 V, .slice A n c], .int .i64 s, .int .i64 t, .slice X m d] w (Says w (.bool (cutB V L s t vs))) := by
  have HX := Lib.hid hx
  have HR1 := Lib.hid (h.grown hB (grow0 w (.cells #[.int .i64 V, .slice A n c] 24)))
  have HE := Lib.hid (cut_ref V L s t vs)
  clear h hx
  go_enter Try.func30, Try.ntmps30
  go_wp2_with fail
  refine (RMay_any V A n c L _ HR1.out).mono ?_
  rintro e w1 ⟨rfl, g1⟩
  obtain ⟨g, o2⟩ := box1 [.int .i64 V, .slice A n c] g1
  obtain ⟨c0, c1⟩ := o2.two
  have G := Lib.hid g
  have O2 := Lib.hid o2
  clear g g1 o2 HR1
  cases hmay : mayG V L
  · have E : Hid (cutB V L s t vs = false) := by rw [Hid, HE.out, hmay]; rfl
    clear HE hmay
    go_wp2
    go_ret
    exact ⟨ret_bool E.out, G.out⟩
  rw [hmay, Bool.true_and] at HE
  clear hmay
  go_wp2_with fail
  refine (RVertex_any V s A n c _).mono ?_
  rintro e w2 ⟨rfl, g2⟩
  have G := Lib.hid (grown_trans G.out g2)
  have O2 := Lib.hid (O2.out.kept g2)
  clear g2 c0 c1
  obtain ⟨c0, c1⟩ := O2.out.two
  cases hs : isV V s
  · have E : Hid (cutB V L s t vs = false) := by rw [Hid, HE.out, hs]; rfl
    clear HE hs
    go_wp2
    go_ret
    exact ⟨ret_bool E.out, G.out⟩
  rw [hs, Bool.true_and] at HE
  clear hs
  go_wp2_with fail
  refine (RVertex_any V t A n c _).mono ?_
  rintro e w3 ⟨rfl, g3⟩
  have G := Lib.hid (grown_trans G.out g3)
  have O2 := Lib.hid (O2.out.kept g3)
  clear g3 c0 c1
  obtain ⟨c0, c1⟩ := O2.out.two
  cases ht : isV V t
  · have E : Hid (cutB V L s t vs = false) := by rw [Hid, HE.out, ht]; rfl
    clear HE ht
    go_wp2
    go_ret
    exact ⟨ret_bool E.out, G.out⟩
  rw [ht, Bool.true_and] at HE
  clear ht
  go_wp2_with fail
  refine (VertsMay_any V A n c X m d vs _ (HX.out.grown hB' G.out)).mono ?_
  rintro e w4 ⟨rfl, g4⟩
  have G := Lib.hid (grown_trans G.out g4)
  clear g4 c0 c1 O2
  cases hv : vertsB V vs
  · have E : Hid (cutB V L s t vs = false) := by rw [Hid, HE.out, hv]; rfl
    clear HE hv
    go_wp2
    go_ret
    exact ⟨ret_bool E.out, G.out⟩
  rw [hv, Bool.true_and] at HE
  clear hv
  go_wp2_with fail
  refine (Among_any s X m d vs _ (HX.out.grown hB' G.out)).mono ?_
  rintro e w5 ⟨rfl, g5⟩
  have G := Lib.hid (grown_trans G.out g5)
  clear g5
  cases hsv : decide (s ∈ vs)
  · have E : Hid (cutB V L s t vs = false) := by rw [Hid, HE.out, hsv]; rfl
    clear HE hsv
    go_wp2
    go_ret
    exact ⟨ret_bool E.out, G.out⟩
  rw [hsv, Bool.true_and] at HE
  clear hsv
  go_wp2_with fail
  refine (Among_any t X m d vs _ (HX.out.grown hB' G.out)).mono ?_
  rintro e w6 ⟨rfl, g6⟩
  have G := Lib.hid (grown_trans G.out g6)
  clear g6
  cases hd : decide (t ∈ vs)
  · have E : Hid (cutB V L s t vs = true) := by rw [Hid, HE.out, hd]; rfl
    clear HE hd
    go_wp2
    go_ret
    exact ⟨ret_bool E.out, G.out⟩
  · have E : Hid (cutB V L s t vs = false) := by rw [Hid, HE.out, hd]; rfl
    clear HE hd
    go_wp2
    go_ret
    exact ⟨ret_bool E.out, G.out⟩

end Go.Proofs.Ytlpohlcmjnlbhaa

set_option maxRecDepth 20000
namespace Go.Proofs.Ytlpohlcmjnlbhaa
open Go.RowKit

def LvRel (w : World) (V : Int) (A : Option Addr) (n c : Nat) (L : List Lk) (vs : List Int) (o i : Value) (wr : World) : Prop :=
  ∃ k : Nat, k ≤ n ∧ i = .int .i64 (k : Nat) ∧ w.grownBy wr none ∧ Own wr w.heap.size 24 [.int .i64 V, .slice A n c] ∧ Mine wr (w.heap.size + 1) o (lv L vs k).length (lv L vs k)

theorem leav_may {V : Int} {L : List Lk} {vs : List Int} (h : mayG V L = false) : leavV V L vs = [] ∧ leavE V L vs = 800 := leav_no (by simp [leavB, h])
theorem leav_verts {V : Int} {L : List Lk} {vs : List Int} (h : vertsB V vs = false) : leavV V L vs = [] ∧ leavE V L vs = 800 := leav_no (by simp [leavB, h])
theorem leav_goes {V : Int} {L : List Lk} {vs : List Int} (h : mayG V L = true) (k : vertsB V vs = true) : leavV V L vs = lv L vs L.length ∧ leavE V L vs = 0 := leav_yes (by simp [leavB, h, k])
theorem leaves_from {vs : List Int} {f t cp : Int} (h : decide (f ∈ vs) = false) : leaves vs (f, t, cp) = false := by simp only [leaves, h, Bool.false_and]
theorem leaves_to {vs : List Int} {f t cp : Int} (h : decide (t ∈ vs) = true) : leaves vs (f, t, cp) = false := by simp only [leaves, h, Bool.not_true, Bool.and_false]
theorem leaves_yes {vs : List Int} {f t cp : Int} (h : decide (f ∈ vs) = true) (k : decide (t ∈ vs) = false) : leaves vs (f, t, cp) = true := by simp only [leaves, h, k, Bool.not_false, Bool.and_true]

set_option maxHeartbeats 2000000 in
theorem Leaving_any (V : Int) (A : Option Addr) (n c : Nat) (L : List Lk) (X : Option Addr) (m d : Nat) (vs : List Int) (w : World) {B B' : Nat} (h : Lks w B A n L) (hB : B ≤ w.heap.size) (hx : Row w B' X m vs) (hB' : B' ≤ w.heap.size) :
    Calls Try.prog 64 #[.agg #[.int .i64 V, .slice A n c], .slice X m d] w (SelPost w (leavV V L vs) (leavE V L vs)) := by
  have hn := h.small
  have HL := Lib.hid h.len
  have HR := Lib.hid h
  have HX := Lib.hid hx
  have HR1 := Lib.hid (h.grown hB (grow0 w (.cells #[.int .i64 V, .slice A n c] 24)))
  clear h hx
  go_enter Try.func64, Try.ntmps64
  go_wp2_with fail
  refine (GMay_any V A n c L _ HR1.out (by simp; omega)).mono ?_
  rintro e w1 ⟨rfl, g1⟩
  obtain ⟨g, o2⟩ := box1 [.int .i64 V, .slice A n c] g1
  obtain ⟨c0, c1⟩ := o2.two
  have G := Lib.hid g
  have O2 := Lib.hid o2
  clear g g1 o2 HR1
  cases hm : mayG V L
  · have E := Lib.hid (leav_may (vs := vs) hm)
    go_wp2
    go_ret2
    exact ⟨.slice none 0 0, ret_sel E.out.2, by rw [E.out.1]; exact Mine.nil _ _, G.out⟩
  go_wp2_with fail
  refine (areRising_any V A n c X m d vs _ (HX.out.grown hB' G.out)).mono ?_
  rintro e w2 ⟨rfl, g2⟩
  have O2 := Lib.hid (O2.out.kept g2)
  have G := Lib.hid (grown_trans G.out g2)
  clear c0 c1
  obtain ⟨c0, c1⟩ := O2.out.two
  clear g2
  cases hv : vertsB V vs
  · have E := Lib.hid (leav_verts (V := V) (L := L) hv)
    go_wp2
    go_ret2
    exact ⟨.slice none 0 0, ret_sel E.out.2, by rw [E.out.1]; exact Mine.nil _ _, G.out⟩
  have E := Lib.hid (leav_goes hm hv)
  have h16 := may_small hm
  rw [HL.out] at h16
  have HS : Hid (LvRel w V A n c L vs (.slice none 0 0) (.int .i64 0) w2) := ⟨0, Nat.zero_le _, rfl, G.out, O2.out, Mine.nil _ _⟩
  clear G hm hv
  go_wp2
  go_loopw [6, 21] (fun o i wr => LvRel w V A n c L vs o i wr) (fun _ i _ => n - (intOf i).toNat)
  case atStart => exact HS.out
  case round =>
    clear HS c0 c1 O2
    obtain ⟨k, hk, rfl, hg, o2, hmine⟩ := hrel
    have G := Lib.hid hg
    have hsz := hg.size
    have l2 := o2.lt
    have O2 := Lib.hid o2
    have HM := Lib.hid hmine
    by_cases hlt : k < n
    · obtain ⟨b, off, hA, hb, hcell⟩ := HR.out.cells (by omega)
      subst hA
      obtain ⟨d0, d1, d2⟩ := hcell k hlt
      have d0 := kept hg d0
      have d1 := kept hg d1
      have d2 := kept hg d2
      have hyes := Lib.hid (lv_yes (L := L) (vs := vs) (k := k))
      have hno := Lib.hid (lv_no (L := L) (vs := vs) (k := k))
      have hl := lv_len L vs k
      clear hcell hg o2 hmine
      generalize at3 L k = l at *
      obtain ⟨f, t, cp⟩ := l
      simp only at d0 d1 d2
      have HX1 := Lib.hid (HX.out.grown hB' (grown_alloc G.out (.cells #[.int .i64 f, .int .i64 t, .int .i64 cp] 57)))
      go_wp2_with fail
      refine (Contains_any f X m d vs _ HX1.out).mono ?_
      rintro e w3 ⟨rfl, hg3⟩
      obtain ⟨g3, o5⟩ := box1 [.int .i64 f, .int .i64 t, .int .i64 cp] hg3
      have O2 := Lib.hid (O2.out.kept g3)
      have G := Lib.hid (grown_trans G.out g3)
      have HM := Lib.hid (HM.out.kept g3)
      obtain ⟨c6, c7, c8⟩ := o5.three
      clear d0 d1 d2 o5 g3 hg3 HX1
      cases hf : decide (f ∈ vs)
      · have HN := Lib.hid (hno.out (leaves_from hf))
        clear hyes hno hf
        go_wp2
        go_roundw
        case rel => exact ⟨k + 1, by omega, by go_num, G.out, O2.out, by rw [HN.out]; exact HM.out⟩
        case measure => simp [intOf]; omega
      go_wp2_with fail
      refine (Contains_any t X m d vs _ (HX.out.grown hB' G.out)).mono ?_
      rintro e w4 ⟨rfl, g4⟩
      have O2 := Lib.hid (O2.out.kept g4)
      have G := Lib.hid (grown_trans G.out g4)
      have HM := Lib.hid (HM.out.kept g4)
      have hsz := G.out.size
      clear g4 c6 c7 c8
      cases ht : decide (t ∈ vs)
      · have HY := Lib.hid (hyes.out (leaves_yes hf ht))
        clear hyes hno hf ht
        have HM1 := Lib.hid (HM.out.kept (grow0 _ (.cells #[.int .i64 (k : Nat)] 3)))
        have HROW := Lib.hid (Row.newAt (w := w4) (g := w4.heap.size) (n := 1) (vs := #[.int .i64 (k : Nat)]) [(k : Int)] (by simp) rfl rfl (by simp) (by simp; omega))
        have l4 := O2.out.lt
        go_wp2_with (first | (at_builtin; refine wpList_app _ rfl _ _ rfl (w.heap.size + 1) _ _ _ rfl HM1.out _ 1 1 [(k : Int)] rfl HROW.out (by simp) (by omega) (by simp; omega) ?_))
        intro v1 w5 hm1 hg5 _
        have G5 := Lib.hid (grown_none (grown_alloc G.out (.cells #[.int .i64 (k : Nat)] 3)) hg5 (fun g hg => by have := HM.out.own_ge g hg; omega))
        have O5 := Lib.hid (Own.kept' (O2.out.alloc (.cells #[.int .i64 (k : Nat)] 3)) hg5 HM.out.apart)
        have HM5 := Lib.hid hm1
        clear hm1 hg5
        go_wp2
        go_roundw
        case rel => exact ⟨k + 1, by omega, by go_num, G5.out, O5.out, by rw [HY.out]; simpa using HM5.out⟩
        case measure => simp [intOf]; omega
      · have HN := Lib.hid (hno.out (leaves_to ht))
        clear hyes hno hf ht
        go_wp2
        go_roundw
        case rel => exact ⟨k + 1, by omega, by go_num, G.out, O2.out, by rw [HN.out]; exact HM.out⟩
        case measure => simp [intOf]; omega
    · obtain rfl : k = n := by omega
      clear hmine hg o2
      go_wp2
      go_ret2
      exact ⟨_, ret_sel E.out.2, by rw [E.out.1, HL.out]; exact HM.out.wide (by omega), G.out⟩

set_option maxHeartbeats 2000000 in
theorem RLeaving_any (V : Int) (A : Option Addr) (n c : Nat) (L : List Lk) (X : Option Addr) (m d : Nat) (vs : List Int) (w : World) {B B' : Nat} (h : Lks w B A n L) (hB : B ≤ w.heap.size) (hx : Row w B' X m vs) (hB' : B' ≤ w.heap.size) :
    Calls Try.prog 51 #[.agg #[.int .i64 V, .slice A n c], .slice X m d] w (SelPost w (leavV V L vs) (leavE V L vs)) := by
  have hn := h.small
  have HL := Lib.hid h.len
  have HR := Lib.hid h
  have HX := Lib.hid hx
  have HR1 := Lib.hid (h.grown hB (grow0 w (.cells #[.int .i64 V, .slice A n c] 24)))
  clear h hx
  go_enter Try.func51, Try.ntmps51
  go_wp2_with fail
  refine (RMay_any V A n c L _ HR1.out).mono ?_
  rintro e w1 ⟨rfl, g1⟩
  obtain ⟨g, o2⟩ := box1 [.int .i64 V, .slice A n c] g1
  obtain ⟨c0, c1⟩ := o2.two
  have G := Lib.hid g
  have O2 := Lib.hid o2
  clear g g1 o2 HR1
  cases hm : mayG V L
  · have E := Lib.hid (leav_may (vs := vs) hm)
    go_wp2
    go_ret2
    exact ⟨.slice none 0 0, ret_sel E.out.2, by rw [E.out.1]; exact Mine.nil _ _, G.out⟩
  go_wp2_with fail
  refine (VertsMay_any V A n c X m d vs _ (HX.out.grown hB' G.out)).mono ?_
  rintro e w2 ⟨rfl, g2⟩
  have O2 := Lib.hid (O2.out.kept g2)
  have G := Lib.hid (grown_trans G.out g2)
  clear c0 c1
  obtain ⟨c0, c1⟩ := O2.out.two
  clear g2
  cases hv : vertsB V vs
  · have E := Lib.hid (leav_verts (V := V) (L := L) hv)
    go_wp2
    go_ret2
    exact ⟨.slice none 0 0, ret_sel E.out.2, by rw [E.out.1]; exact Mine.nil _ _, G.out⟩
  have E := Lib.hid (leav_goes hm hv)
  have h16 := may_small hm
  rw [HL.out] at h16
  have HS : Hid (LvRel w V A n c L vs (.slice none 0 0) (.int .i64 0) w2) := ⟨0, Nat.zero_le _, rfl, G.out, O2.out, Mine.nil _ _⟩
  clear G hm hv
  go_wp2
  go_loopw [6, 7] (fun o i wr => LvRel w V A n c L vs o i wr) (fun _ i _ => n - (intOf i).toNat)
  case atStart => exact HS.out
  case round =>
    clear HS c0 c1 O2
    obtain ⟨k, hk, rfl, hg, o2, hmine⟩ := hrel
    have G := Lib.hid hg
    have hsz := hg.size
    have l2 := o2.lt
    obtain ⟨c0, c1⟩ := o2.two
    have O2 := Lib.hid o2
    have HM := Lib.hid hmine
    by_cases hlt : k < n
    · obtain ⟨b, off, hA, hb, hcell⟩ := HR.out.cells (by omega)
      subst hA
      obtain ⟨d0, d1, d2⟩ := hcell k hlt
      have HD0 := Lib.hid d0
      have HD1 := Lib.hid d1
      have d0 := kept hg d0
      have hyes := Lib.hid (lv_yes (L := L) (vs := vs) (k := k))
      have hno := Lib.hid (lv_no (L := L) (vs := vs) (k := k))
      have hl := lv_len L vs k
      clear hcell hg o2 hmine d1 d2
      generalize at3 L k = l at *
      obtain ⟨f, t, cp⟩ := l
      simp only at d0 HD0 HD1
      go_wp2_with fail
      refine (Among_any f X m d vs _ (HX.out.grown hB' G.out)).mono ?_
      rintro e w3 ⟨rfl, g3⟩
      have O2 := Lib.hid (O2.out.kept g3)
      have G := Lib.hid (grown_trans G.out g3)
      have HM := Lib.hid (HM.out.kept g3)
      clear d0 c0 c1 g3
      obtain ⟨c0, c1⟩ := O2.out.two
      have d1 := kept G.out HD1.out
      cases hf : decide (f ∈ vs)
      · have HN := Lib.hid (hno.out (leaves_from hf))
        clear hyes hno hf
        go_wp2
        go_roundw
        case rel => exact ⟨k + 1, by omega, by go_num, G.out, O2.out, by rw [HN.out]; exact HM.out⟩
        case measure => simp [intOf]; omega
      go_wp2_with fail
      refine (Among_any t X m d vs _ (HX.out.grown hB' G.out)).mono ?_
      rintro e w4 ⟨rfl, g4⟩
      have O2 := Lib.hid (O2.out.kept g4)
      have G := Lib.hid (grown_trans G.out g4)
      have HM := Lib.hid (HM.out.kept g4)
      have hsz := G.out.size
      clear g4 c0 c1 d1
      cases ht : decide (t ∈ vs)
      · have HY := Lib.hid (hyes.out (leaves_yes hf ht))
        clear hyes hno hf ht
        have HM1 := Lib.hid (HM.out.kept (grow0 _ (.cells #[.int .i64 (k : Nat)] 3)))
        have HROW := Lib.hid (Row.newAt (w := w4) (g := w4.heap.size) (n := 1) (vs := #[.int .i64 (k : Nat)]) [(k : Int)] (by simp) rfl rfl (by simp) (by simp; omega))
        have l4 := O2.out.lt
        go_wp2_with (first | (at_builtin; refine wpList_app _ rfl _ _ rfl (w.heap.size + 1) _ _ _ rfl HM1.out _ 1 1 [(k : Int)] rfl HROW.out (by simp) (by omega) (by simp; omega) ?_))
        intro v1 w5 hm1 hg5 _
        have G5 := Lib.hid (grown_none (grown_alloc G.out (.cells #[.int .i64 (k : Nat)] 3)) hg5 (fun g hg => by have := HM.out.own_ge g hg; omega))
        have O5 := Lib.hid (Own.kept' (O2.out.alloc (.cells #[.int .i64 (k : Nat)] 3)) hg5 HM.out.apart)
        have HM5 := Lib.hid hm1
        clear hm1 hg5
        go_wp2
        go_roundw
        case rel => exact ⟨k + 1, by omega, by go_num, G5.out, O5.out, by rw [HY.out]; simpa using HM5.out⟩
        case measure => simp [intOf]; omega
      · have HN := Lib.hid (hno.out (leaves_to ht))
        clear hyes hno hf ht
        go_wp2
        go_roundw
        case rel => exact ⟨k + 1, by omega, by go_num, G.out, O2.out, by rw [HN.out]; exact HM.out⟩
        case measure => simp [intOf]; omega
    · obtain rfl : k = n := by omega
      clear hmine hg o2
      go_wp2
      go_ret2
      exact ⟨_, ret_sel E.out.2, by rw [E.out.1, HL.out]; exact HM.out.wide (by omega), G.out⟩

end Go.Proofs.Ytlpohlcmjnlbhaa

set_option maxRecDepth 20000
namespace Go.Proofs.Ytlpohlcmjnlbhaa
open Go.RowKit

def wthV (V : Int) (L : List Lk) (caps vs : List Int) : Value := .tuple #[.int .i64 (worthX V L caps vs), .int .i64 (worthE V L caps vs)]

theorem lv_get {L : List Lk} {vs : List Int} {j : Nat} (h : j < (lv L vs L.length).length) : ∃ i : Nat, i < L.length ∧ (lv L vs L.length)[j]?.getD 0 = (i : Int) := by
  obtain ⟨i, a, _, e⟩ := pick_get h
  exact ⟨i, a, e⟩

def WoRel (w1 : World) (q : Nat) (L : List Lk) (caps vs : List Int) (a i : Value) (wr : World) : Prop :=
  ∃ j : Nat, j ≤ q ∧ a = .int .i64 (pw L caps vs j) ∧ i = .int .i64 (j : Nat) ∧ w1.grownBy wr none

theorem worth_leav {V : Int} {L : List Lk} {caps vs : List Int} (h : leavB V L vs = false) : worthX V L caps vs = 0 ∧ worthE V L caps vs = 800 := worth_no (by simp [worthB, h])
theorem worth_caps {V : Int} {L : List Lk} {caps vs : List Int} (h : capsB L caps = false) : worthX V L caps vs = 0 ∧ worthE V L caps vs = 800 := worth_no (by simp [worthB, h])
theorem worth_goes {V : Int} {L : List Lk} {caps vs : List Int} (h : leavB V L vs = true) (k : capsB L caps = true) : worthX V L caps vs = wk L caps vs L.length ∧ worthE V L caps vs = 0 := worth_yes (by simp [worthB, h, k])

set_option maxHeartbeats 2000000 in
theorem Worth_any (V : Int) (A : Option Addr) (n c : Nat) (L : List Lk) (Y : Option Addr) (p e0 : Nat) (caps : List Int) (X : Option Addr) (m d : Nat) (vs : List Int) (w : World) {B B' B'' : Nat} (h : Lks w B A n L) (hB : B ≤ w.heap.size) (hy : Row w B'' Y p caps) (hB'' : B'' ≤ w.heap.size) (hx : Row w B' X m vs) (hB' : B' ≤ w.heap.size) :
    Calls Try.prog 39 #[.agg #[.int .i64 V, .slice A n c], .slice Y p e0, .slice X m d] w (Says w (wthV V L caps vs)) := by
  have HL := Lib.hid h.len
  have HLY := Lib.hid hy.len
  have HR := Lib.hid h
  have HY := Lib.hid hy
  have HR1 := Lib.hid (h.grown hB (grow0 w (.cells #[.int .i64 V, .slice A n c] 24)))
  have HX1 := Lib.hid (hx.grown hB' (grow0 w (.cells #[.int .i64 V, .slice A n c] 24)))
  clear h hx hy
  go_enter Try.func39, Try.ntmps39
  go_wp2_with fail
  refine (Leaving_any V A n c L X m d vs _ HR1.out (by simp; omega) HX1.out (by simp; omega)).mono ?_
  rintro e w1 ⟨v, he, hv, g1⟩
  obtain ⟨g, o2⟩ := box1 [.int .i64 V, .slice A n c] g1
  obtain ⟨c0, c1⟩ := o2.two
  have G := Lib.hid g
  clear g g1 o2 HR1 HX1
  cases hlb : leavB V L vs
  · have E := Lib.hid (worth_leav (caps := caps) hlb)
    rw [(leav_no hlb).2] at he
    subst he
    clear hv hlb
    go_wp2
    go_ret2
    exact ⟨ret_two E.out.1 E.out.2, G.out⟩
  rw [(leav_yes hlb).2] at he
  subst he
  rw [(leav_yes hlb).1] at hv
  have HLB := Lib.hid hlb
  have HMAY := Lib.hid (leav_parts hlb).1
  have h16 := (may_small HMAY.out).2.2
  have hl0 := lv_len L vs L.length
  obtain ⟨Av, cv, rfl, _, hrv⟩ := hv.row (lv_ok (by omega))
  have HRV := Lib.hid hrv
  have hq := hrv.small
  clear hv hlb hrv
  go_wp2_with fail
  refine (areCaps_any V A n c L Y p e0 caps _ (HR.out.grown hB G.out) (HY.out.grown hB'' G.out) (by have := G.out.size; omega) (by have := (may_small HMAY.out).2.2; have := HL.out; omega)).mono ?_
  rintro e w2 ⟨rfl, g2⟩
  have G := Lib.hid (grown_trans G.out g2)
  have HRV := Lib.hid (HRV.out.grown (Nat.le_refl _) g2)
  clear g2 c0 c1
  cases hcap : capsB L caps
  · have E := Lib.hid (worth_caps (V := V) (vs := vs) hcap)
    clear hcap
    go_wp2
    go_ret2
    exact ⟨ret_two E.out.1 E.out.2, G.out⟩
  have E := Lib.hid (worth_goes HLB.out hcap)
  have HPC := Lib.hid (capsB_parts hcap).1
  have HBD := Lib.hid (fun j => pw_bd (vs := vs) HMAY.out hcap j)
  have HEND := Lib.hid (pw_all L caps vs)
  have HGET := Lib.hid (fun (j : Nat) (hj : j < (lv L vs L.length).length) => lv_get hj)
  have HST := Lib.hid (fun (j : Nat) (hj : j < (lv L vs L.length).length) => pw_step (caps := caps) hj)
  have HYR := Lib.hid (HY.out.grown hB'' G.out)
  clear hcap hl0 h16
  generalize hxs : lv L vs L.length = xs at *
  generalize hqe : xs.length = q at *
  have HS : Hid (WoRel w2 q L caps vs (.int .i64 0) (.int .i64 0) w2) := ⟨0, Nat.zero_le _, by rw [pw_zero], rfl, World.grownBy.refl w2 none⟩
  clear hxs hqe
  go_wp2
  go_loopw [10, 29] (fun a i wr => WoRel w2 q L caps vs a i wr) (fun _ i _ => q - (intOf i).toNat)
  case atStart => exact HS.out
  case round =>
    clear HS
    obtain ⟨j, hj, rfl, rfl, hg⟩ := hrel
    have G2 := Lib.hid hg
    by_cases hlt : j < q
    · obtain ⟨b, off, hA, hb, hcell⟩ := HRV.out.at_ (by omega)
      subst hA
      have d0 := kept hg (hcell j hlt)
      obtain ⟨i, hi, hxi⟩ := HGET.out j hlt
      have hip : i < p := by have := HPC.out; have := HLY.out; omega
      have HSTj := Lib.hid (HST.out j hlt)
      rw [hxi] at d0 HSTj
      obtain ⟨b2, off2, hA2, hb2, hcell2⟩ := HYR.out.at_ (by omega)
      subst hA2
      have e1 := kept hg (hcell2 i hip)
      have hb0 := HBD.out j
      have hb1 := HBD.out (j + 1)
      rw [HSTj.out] at hb1
      have e2 : capI caps ((i : Int).toNat) = caps[i]?.getD 0 := by simp [capI]
      rw [e2] at HSTj hb1
      have hps := HSTj.out
      clear hcell hcell2 hg hxi e2 HSTj
      generalize caps[i]?.getD 0 = y at *
      generalize pw L caps vs j = a at *
      have HPS := Lib.hid hps
      clear hps
      have hw : IntKind.i64.wrap (a + y) = a + y := IntWalk.i64_in _ (by omega)
      go_wp2
      go_roundw
      case rel => exact ⟨j + 1, by omega, by rw [HPS.out], by go_num, G2.out⟩
      case measure => simp [intOf]; omega
    · obtain rfl : j = q := by omega
      have E2 : Hid (worthX V L caps vs = pw L caps vs j) := by rw [Hid, E.out.1, HEND.out]
      clear hg
      generalize pw L caps vs j = a at *
      go_wp2
      go_ret2
      exact ⟨ret_two E2.out E.out.2, grown_trans G.out G2.out⟩

set_option maxHeartbeats 2000000 in
theorem RWorth_any (V : Int) (A : Option Addr) (n c : Nat) (L : List Lk) (Y : Option Addr) (p e0 : Nat) (caps : List Int) (X : Option Addr) (m d : Nat) (vs : List Int) (w : World) {B B' B'' : Nat} (h : Lks w B A n L) (hB : B ≤ w.heap.size) (hy : Row w B'' Y p caps) (hB'' : B'' ≤ w.heap.size) (hx : Row w B' X m vs) (hB' : B' ≤ w.heap.size) :
    Calls Try.prog 28 #[.agg #[.int .i64 V, .slice A n c], .slice Y p e0, .slice X m d] w (Says w (wthV V L caps vs)) := by
  have HL := Lib.hid h.len
  have HLY := Lib.hid hy.len
  have HR := Lib.hid h
  have HY := Lib.hid hy
  have HX := Lib.hid hx
  have HR1 := Lib.hid (h.grown hB (grow0 w (.cells #[.int .i64 V, .slice A n c] 24)))
  have HY1 := Lib.hid (hy.grown hB'' (grow0 w (.cells #[.int .i64 V, .slice A n c] 24)))
  clear h hx hy
  go_enter Try.func28, Try.ntmps28
  go_wp2_with fail
  refine (RCaps_any V A n c L Y p e0 caps _ HR1.out (by simp; omega) HY1.out).mono ?_
  rintro e w1 ⟨he, g1⟩
  obtain ⟨g, o2⟩ := box1 [.int .i64 V, .slice A n c] g1
  obtain ⟨c0, c1⟩ := o2.two
  have G := Lib.hid g
  have O2 := Lib.hid o2
  clear g g1 o2 HR1 HY1
  cases hmay : mayG V L
  · have E := Lib.hid (worth_leav (V := V) (L := L) (caps := caps) (vs := vs) (by simp [leavB, hmay]))
    rw [hmay] at he
    subst he
    clear hmay
    go_wp2
    go_ret2
    exact ⟨ret_two E.out.1 E.out.2, G.out⟩
  cases hcap : capsB L caps
  · have E := Lib.hid (worth_caps (V := V) (vs := vs) hcap)
    rw [hmay, hcap] at he
    subst he
    clear hcap hmay
    go_wp2
    go_ret2
    exact ⟨ret_two E.out.1 E.out.2, G.out⟩
  rw [hmay, hcap] at he
  subst he
  have HMAY := Lib.hid hmay
  have HCAP := Lib.hid hcap
  clear hmay hcap
  go_wp2_with fail
  refine (VertsMay_any V A n c X m d vs _ (HX.out.grown hB' G.out)).mono ?_
  rintro e w2 ⟨rfl, g2⟩
  have G := Lib.hid (grown_trans G.out g2)
  have O2 := Lib.hid (O2.out.kept g2)
  clear g2 c0 c1
  obtain ⟨c0, c1⟩ := O2.out.two
  cases hv : vertsB V vs
  · have E := Lib.hid (worth_leav (V := V) (L := L) (caps := caps) (vs := vs) (by simp [leavB, hv]))
    clear hv
    go_wp2
    go_ret2
    exact ⟨ret_two E.out.1 E.out.2, G.out⟩
  have hlb : leavB V L vs = true := by simp [leavB, HMAY.out, hv]
  have E := Lib.hid (worth_goes hlb HCAP.out)
  have HLB := Lib.hid hlb
  clear hv hlb
  go_wp2_with fail
  refine (RLeaving_any V A n c L X m d vs _ (HR.out.grown hB G.out) (by have := G.out.size; omega) (HX.out.grown hB' G.out) (by have := G.out.size; omega)).mono ?_
  rintro e w3 ⟨v, he, hv, g3⟩
  rw [(leav_yes HLB.out).2] at he
  subst he
  rw [(leav_yes HLB.out).1] at hv
  have h16 := (may_small HMAY.out).2.2
  have hl0 := lv_len L vs L.length
  obtain ⟨Av, cv, rfl, _, hrv⟩ := hv.row (lv_ok (by omega))
  have HRV := Lib.hid hrv
  have hq := hrv.small
  have G := Lib.hid (grown_trans G.out g3)
  clear hv hrv g3 c0 c1 O2
  have HPC := Lib.hid (capsB_parts HCAP.out).1
  have HBD := Lib.hid (fun j => pw_bd (vs := vs) HMAY.out HCAP.out j)
  have HEND := Lib.hid (pw_all L caps vs)
  have HGET := Lib.hid (fun (j : Nat) (hj : j < (lv L vs L.length).length) => lv_get hj)
  have HST := Lib.hid (fun (j : Nat) (hj : j < (lv L vs L.length).length) => pw_step (caps := caps) hj)
  have HYR := Lib.hid (HY.out.grown hB'' G.out)
  clear hl0 h16
  generalize hxs : lv L vs L.length = xs at *
  generalize hqe : xs.length = q at *
  have HS : Hid (WoRel w3 q L caps vs (.int .i64 0) (.int .i64 0) w3) := ⟨0, Nat.zero_le _, by rw [pw_zero], rfl, World.grownBy.refl w3 none⟩
  clear hxs hqe
  go_wp2
  go_loopw [10, 11] (fun a i wr => WoRel w3 q L caps vs a i wr) (fun _ i _ => q - (intOf i).toNat)
  case atStart => exact HS.out
  case round =>
    clear HS
    obtain ⟨j, hj, rfl, rfl, hg⟩ := hrel
    have G2 := Lib.hid hg
    by_cases hlt : j < q
    · obtain ⟨b, off, hA, hb, hcell⟩ := HRV.out.at_ (by omega)
      subst hA
      have d0 := kept hg (hcell j hlt)
      obtain ⟨i, hi, hxi⟩ := HGET.out j hlt
      have hip : i < p := by have := HPC.out; have := HLY.out; omega
      have HSTj := Lib.hid (HST.out j hlt)
      rw [hxi] at d0 HSTj
      obtain ⟨b2, off2, hA2, hb2, hcell2⟩ := HYR.out.at_ (by omega)
      subst hA2
      have e1 := kept hg (hcell2 i hip)
      have hb0 := HBD.out j
      have hb1 := HBD.out (j + 1)
      rw [HSTj.out] at hb1
      have e2 : capI caps ((i : Int).toNat) = caps[i]?.getD 0 := by simp [capI]
      rw [e2] at HSTj hb1
      have hps := HSTj.out
      clear hcell hcell2 hg hxi e2 HSTj
      generalize caps[i]?.getD 0 = y at *
      generalize pw L caps vs j = a at *
      have HPS := Lib.hid hps
      clear hps
      have hw : IntKind.i64.wrap (a + y) = a + y := IntWalk.i64_in _ (by omega)
      go_wp2
      go_roundw
      case rel => exact ⟨j + 1, by omega, by rw [HPS.out], by go_num, G2.out⟩
      case measure => simp [intOf]; omega
    · obtain rfl : j = q := by omega
      have E2 : Hid (worthX V L caps vs = pw L caps vs j) := by rw [Hid, E.out.1, HEND.out]
      clear hg
      generalize pw L caps vs j = a at *
      go_wp2
      go_ret2
      exact ⟨ret_two E2.out E.out.2, grown_trans G.out G2.out⟩

end Go.Proofs.Ytlpohlcmjnlbhaa

set_option maxRecDepth 20000
namespace Go.Proofs.Ytlpohlcmjnlbhaa
open Go.RowKit

def prvV (V : Int) (L : List Lk) (caps : List Int) (s t R : Int) (vs : List Int) : Value := .tuple #[.bool (provB V L caps s t R vs), .int .i64 (provE V L caps)]

set_option maxHeartbeats 2000000 in
theorem Proves_any (V s t R : Int) (A : Option Addr) (n c : Nat) (L : List Lk) (Y : Option Addr) (p e0 : Nat) (caps : List Int) (X : Option Addr) (m d : Nat) (vs : List Int) (w : World) {B B' B'' : Nat} (h : Lks w B A n L) (hB : B ≤ w.heap.size) (hy : Row w B'' Y p caps) (hB'' : B'' ≤ w.heap.size) (hx : Row w B' X m vs) (hB' : B' ≤ w.heap.size) :
    Calls Try.prog 19 #[.agg #[.int .i64 V, .slice A n c], .slice Y p e0, .int .i64 s, .int .i64 t, .int .i64 R, .slice X m d] w (Says w (prvV V L caps s t R vs)) := by
  have HL := Lib.hid h.len
  have HR := Lib.hid h
  have HY := Lib.hid hy
  have HX := Lib.hid hx
  have HR1 := Lib.hid (h.grown hB (grow0 w (.cells #[.int .i64 V, .slice A n c] 24)))
  clear h hx hy
  go_enter Try.func19, Try.ntmps19
  go_wp2_with fail
  refine (GMay_any V A n c L _ HR1.out (by simp; omega)).mono ?_
  rintro e w1 ⟨rfl, g1⟩
  obtain ⟨g, o2⟩ := box1 [.int .i64 V, .slice A n c] g1
  obtain ⟨c0, c1⟩ := o2.two
  have G := Lib.hid g
  have O2 := Lib.hid o2
  clear g g1 o2 HR1
  cases hmay : mayG V L
  · have E := Lib.hid (prov_no (V := V) (L := L) (caps := caps) (s := s) (t := t) (R := R) (vs := vs) (by rw [hmay]; rfl))
    clear hmay
    go_wp2
    go_ret2
    exact ⟨ret_fit E.out.2 E.out.1, G.out⟩
  have HMAY := Lib.hid hmay
  clear hmay
  go_wp2_with fail
  refine (areCaps_any V A n c L Y p e0 caps _ (HR.out.grown hB G.out) (HY.out.grown hB'' G.out) (by have := G.out.size; omega) (by have := (may_small HMAY.out).2.2; have := HL.out; omega)).mono ?_
  rintro e w2 ⟨rfl, g2⟩
  have G := Lib.hid (grown_trans G.out g2)
  have O2 := Lib.hid (O2.out.kept g2)
  clear g2 c0 c1
  obtain ⟨c0, c1⟩ := O2.out.two
  cases hcap : capsB L caps
  · have E := Lib.hid (prov_no (V := V) (L := L) (caps := caps) (s := s) (t := t) (R := R) (vs := vs) (by rw [hcap, Bool.and_false]))
    clear hcap
    go_wp2
    go_ret2
    exact ⟨ret_fit E.out.2 E.out.1, G.out⟩
  have HB : Hid ((mayG V L && capsB L caps) = true) := by rw [Hid, HMAY.out, hcap]; rfl
  clear hcap
  go_wp2_with fail
  refine (SMay_any V s t A n c L X m d vs _ (HR.out.grown hB G.out) (by have := G.out.size; omega) (HX.out.grown hB' G.out) (by have := G.out.size; omega)).mono ?_
  rintro e w3 ⟨rfl, g3⟩
  have G := Lib.hid (grown_trans G.out g3)
  have O2 := Lib.hid (O2.out.kept g3)
  clear g3 c0 c1
  obtain ⟨c0, c1⟩ := O2.out.two
  cases hcut : cutB V L s t vs
  · have E := Lib.hid (prov_cut (R := R) HB.out hcut)
    clear hcut
    go_wp2
    go_ret2
    exact ⟨ret_fit E.out.2 E.out.1, G.out⟩
  have E := Lib.hid (prov_yes (R := R) HB.out hcut)
  clear hcut
  go_wp2_with fail
  refine (Worth_any V A n c L Y p e0 caps X m d vs _ (HR.out.grown hB G.out) (by have := G.out.size; omega) (HY.out.grown hB'' G.out) (by have := G.out.size; omega) (HX.out.grown hB' G.out) (by have := G.out.size; omega)).mono ?_
  rintro e w4 ⟨he, g4⟩
  have G := Lib.hid (grown_trans G.out g4)
  clear g4 c0 c1 O2
  rw [wthV, E.out.2.1] at he
  subst he
  have E1 := Lib.hid E.out.1
  have E2 := Lib.hid E.out.2.2
  clear E
  generalize worthX V L caps vs = x at *
  go_wp2
  go_ret2
  exact ⟨ret_fit E2.out E1.out, G.out⟩

set_option maxHeartbeats 2000000 in
theorem RProves_any (V s t R : Int) (A : Option Addr) (n c : Nat) (L : List Lk) (Y : Option Addr) (p e0 : Nat) (caps : List Int) (X : Option Addr) (m d : Nat) (vs : List Int) (w : World) {B B' B'' : Nat} (h : Lks w B A n L) (hB : B ≤ w.heap.size) (hy : Row w B'' Y p caps) (hB'' : B'' ≤ w.heap.size) (hx : Row w B' X m vs) (hB' : B' ≤ w.heap.size) :
    Calls Try.prog 13 #[.agg #[.int .i64 V, .slice A n c], .slice Y p e0, .int .i64 s, .int .i64 t, .int .i64 R, .slice X m d] w (Says w (prvV V L caps s t R vs)) := by
  have HR := Lib.hid h
  have HY := Lib.hid hy
  have HX := Lib.hid hx
  have HR1 := Lib.hid (h.grown hB (grow0 w (.cells #[.int .i64 V, .slice A n c] 24)))
  have HY1 := Lib.hid (hy.grown hB'' (grow0 w (.cells #[.int .i64 V, .slice A n c] 24)))
  clear h hx hy
  go_enter Try.func13, Try.ntmps13
  go_wp2_with fail
  refine (RCaps_any V A n c L Y p e0 caps _ HR1.out (by simp; omega) HY1.out).mono ?_
  rintro e w1 ⟨rfl, g1⟩
  obtain ⟨g, o2⟩ := box1 [.int .i64 V, .slice A n c] g1
  obtain ⟨c0, c1⟩ := o2.two
  have G := Lib.hid g
  have O2 := Lib.hid o2
  clear g g1 o2 HR1 HY1
  cases hb : (mayG V L && capsB L caps)
  · have E := Lib.hid (prov_no (s := s) (t := t) (R := R) (vs := vs) hb)
    clear hb
    go_wp2
    go_ret2
    exact ⟨ret_fit E.out.2 E.out.1, G.out⟩
  have HB := Lib.hid hb
  clear hb
  go_wp2_with fail
  refine (RCutMay_any V s t A n c L X m d vs _ (HR.out.grown hB G.out) (by have := G.out.size; omega) (HX.out.grown hB' G.out) (by have := G.out.size; omega)).mono ?_
  rintro e w3 ⟨rfl, g3⟩
  have G := Lib.hid (grown_trans G.out g3)
  have O2 := Lib.hid (O2.out.kept g3)
  clear g3 c0 c1
  obtain ⟨c0, c1⟩ := O2.out.two
  cases hcut : cutB V L s t vs
  · have E := Lib.hid (prov_cut (R := R) HB.out hcut)
    clear hcut
    go_wp2
    go_ret2
    exact ⟨ret_fit E.out.2 E.out.1, G.out⟩
  have E := Lib.hid (prov_yes (R := R) HB.out hcut)
  clear hcut
  go_wp2_with fail
  refine (RWorth_any V A n c L Y p e0 caps X m d vs _ (HR.out.grown hB G.out) (by have := G.out.size; omega) (HY.out.grown hB'' G.out) (by have := G.out.size; omega) (HX.out.grown hB' G.out) (by have := G.out.size; omega)).mono ?_
  rintro e w4 ⟨he, g4⟩
  have G := Lib.hid (grown_trans G.out g4)
  clear g4 c0 c1 O2
  rw [wthV] at he
  subst he
  have E1 := Lib.hid E.out.1
  have E2 := Lib.hid E.out.2.2
  clear E
  generalize worthX V L caps vs = x at *
  generalize worthE V L caps vs = z at *
  go_wp2
  go_ret2
  exact ⟨ret_fit E2.out E1.out, G.out⟩

end Go.Proofs.Ytlpohlcmjnlbhaa
