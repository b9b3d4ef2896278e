/-
  within.Rates and Caps; the reference's CapsMay, Within, Own.
-/
import Derived.Test.YtefgnaldiggnnaaOwnB
import Derived.Test.YtefgnaldiggnnaaJA
set_option maxRecDepth 20000
namespace Go.Proofs.Ytefgnaldiggnnaa
open Go.RowKit

def CapRel (w : World) (V : Int) (A : Option Addr) (n c m : Nat) (L : List Lk) (caps : List Int) (i : Value) (wr : World) : Prop :=
  ∃ k : Nat, k ≤ m ∧ i = .int .i64 (k : Nat) ∧ w.grownBy wr none ∧ Own wr w.heap.size 24 [.int .i64 V, .slice A n c] ∧ (List.range k).all (capB L caps) = true

def RatRel (w : World) (m : Nat) (caps f : List Int) (i : Value) (wr : World) : Prop :=
  ∃ k : Nat, k ≤ m ∧ i = .int .i64 (k : Nat) ∧ w.grownBy wr none ∧ (List.range k).all (rateIn caps f) = true

set_option maxHeartbeats 1000000 in
theorem Rates_any (X : Option Addr) (n d : Nat) (caps : List Int) (Y : Option Addr) (m e0 : Nat) (f : List Int) (w : World) {B B' : Nat} (hx : Row w B X n caps) (hy : Row w B' Y m f) :
    Calls Try.prog 43 #[.slice X n d, .slice Y m e0] w (Says w (.bool (ratesB caps f))) := by
  have hn := hx.small
  have hm := hy.small
  have HLX := Lib.hid hx.len
  have HLY := Lib.hid hy.len
  have HX := Lib.hid hx
  have HY := Lib.hid hy
  clear hx hy
  by_cases hmn : m = n
  case neg =>
    have E := Lib.hid (ratesB_len (caps := caps) (f := f) (by rw [HLX.out, HLY.out]; exact hmn))
    have hne : ((m : Int) != (n : Int)) = true := by simp; omega
    go_enter Try.func43, Try.ntmps43
    go_wp2
    go_ret
    exact ⟨ret_bool E.out, World.grownBy.refl w none⟩
  subst hmn
  have hne : ((m : Int) != (m : Int)) = false := by simp
  have HS : Hid (RatRel w m caps f (.int .i64 0) w) := ⟨0, Nat.zero_le _, rfl, World.grownBy.refl w none, rfl⟩
  go_enter Try.func43, Try.ntmps43
  go_wp2
  go_loopw [14] (fun i wr => RatRel w m caps f i wr) (fun i _ => m - (intOf i).toNat)
  case atStart => exact HS.out
  case round =>
    clear HS hne
    obtain ⟨k, hk, rfl, hg, hall⟩ := hrel
    have G := Lib.hid hg
    have HA := Lib.hid hall
    by_cases hlt : k < m
    · obtain ⟨b, off, hA, hb, hcell⟩ := HX.out.at_ (by omega)
      subst hA
      have d0 := kept hg (hcell k hlt)
      obtain ⟨b2, off2, hA2, hb2, hcell2⟩ := HY.out.at_ (by omega)
      subst hA2
      have e0 := kept hg (hcell2 k hlt)
      have HN := Lib.hid (range_next k (rateIn caps f))
      have HNO := Lib.hid (ratesB_stop (caps := caps) (f := f) (k := k) (by rw [HLY.out]; exact hlt))
      have HCB : Hid (rateIn caps f k = (decide (0 ≤ f[k]?.getD 0) && decide (f[k]?.getD 0 ≤ caps[k]?.getD 0))) := rfl
      clear hcell hcell2 hg hall
      generalize f[k]?.getD 0 = x at *
      generalize caps[k]?.getD 0 = y at *
      by_cases h0 : x < 0
      · have E : Hid (ratesB caps f = false) := HNO.out (by rw [HCB.out]; simp; omega)
        clear HN HNO HCB
        go_wp2
        go_ret
        exact ⟨ret_bool E.out, G.out⟩
      · by_cases h1 : y < x
        · have E : Hid (ratesB caps f = false) := HNO.out (by rw [HCB.out]; simp; omega)
          clear HN HNO HCB
          go_wp2
          go_ret
          exact ⟨ret_bool E.out, G.out⟩
        · have E : Hid ((List.range (k + 1)).all (rateIn caps f) = true) := by rw [Hid, HN.out, HA.out, HCB.out]; simp; omega
          clear HN HNO HCB
          go_wp2
          go_roundw
          case rel => exact ⟨k + 1, by omega, by go_num, G.out, E.out⟩
          case measure => simp [intOf]; omega
    · obtain rfl : k = m := by omega
      have E : Hid (ratesB caps f = true) := ratesB_all (by rw [HLX.out, HLY.out]) (by rw [HLY.out]; exact HA.out)
      clear hg hall
      go_wp2
      go_ret
      exact ⟨ret_bool E.out, G.out⟩

def OwnRel (w : World) (V : Int) (A : Option Addr) (n c : Nat) (L : List Lk) (o i : Value) (wr : World) : Prop :=
  ∃ k : Nat, k ≤ n ∧ i = .int .i64 (k : Nat) ∧ w.grownBy wr none ∧ Own wr w.heap.size 24 [.int .i64 V, .slice A n c] ∧ Mine wr (w.heap.size + 1) o k ((ownC L).take k)

theorem own_ok {w : World} {B : Nat} {A : Option Addr} {n : Nat} {L : List Lk} (h : Lks w B A n L) : okI (ownC L) := fun i => by
  rw [own_get]
  exact (h.ok i).2.2

set_option maxHeartbeats 1000000 in
theorem areCaps_any (V : Int) (A : Option Addr) (n c : Nat) (L : List Lk) (X : Option Addr) (m d : Nat) (caps : List Int) (w : World) {B B' : Nat} (h : Lks w B A n L) (hx : Row w B' X m caps) (hB' : B' ≤ w.heap.size) (h8 : n * 8 ≤ 140737488351232) :
    Calls Try.prog 36 #[.agg #[.int .i64 V, .slice A n c], .slice X m d] w (Says w (.bool (capsB L caps))) := by
  have hn := h.small
  have HL := Lib.hid h.len
  have HR := Lib.hid h
  have HX := Lib.hid hx
  have HOK := Lib.hid (own_ok h)
  clear h hx
  have HS : Hid (OwnRel w V A n c L (.slice none 0 0) (.int .i64 0) (w.alloc (.cells #[.int .i64 V, .slice A n c] 24))) := ⟨0, Nat.zero_le _, rfl, grow0 _ _, Own.new w 24 [.int .i64 V, .slice A n c], Mine.nil _ _⟩
  go_enter Try.func36, Try.ntmps36
  go_wp2
  go_loopw [5, 11] (fun o i wr => OwnRel w V A n c L o i wr) (fun _ i _ => n - (intOf i).toNat)
  case atStart => exact HS.out
  case round =>
    clear HS
    obtain ⟨k, hk, rfl, hg, ob, hmine⟩ := hrel
    have G := Lib.hid hg
    have hsz := ob.lt
    by_cases hlt : k < n
    · obtain ⟨b, off, hA, hb, hcell⟩ := HR.out.cells (by omega)
      subst hA
      obtain ⟨d0, d1, d2⟩ := hcell k hlt
      have d0 := kept hg d0
      have d1 := kept hg d1
      have d2 := kept hg d2
      have HNX := Lib.hid (own_next (L := L) (k := k) (by rw [HL.out]; exact hlt))
      have hbd := (HR.out.ok k).2.2
      obtain ⟨c0, c1⟩ := ob.two
      have O2 := Lib.hid ob
      have HM := Lib.hid hmine
      clear hcell hg ob hmine
      generalize at3 L k = l at *
      obtain ⟨p, t, cp⟩ := l
      simp only at d0 d1 d2 hbd
      have HBD := Lib.hid hbd
      clear hbd
      have HM1 := Lib.hid ((HM.out.kept (grow0 _ (.cells #[.int .i64 p, .int .i64 t, .int .i64 cp] 42))).kept (grow0 _ (.cells #[.int .i64 cp] 3)))
      have HROW := Lib.hid (Row.newAt (w := wr.alloc (.cells #[.int .i64 p, .int .i64 t, .int .i64 cp] 42)) (g := wr.heap.size + 1) (n := 1) (vs := #[.int .i64 cp]) [cp] (by simp) rfl rfl (by simp) (by simp; exact HBD.out))
      go_wp2_with (first | (at_builtin; refine wpList_app _ rfl _ _ rfl (w.heap.size + 1) _ _ _ rfl HM1.out _ 1 1 [cp] rfl HROW.out (by simp) (by omega) (by simp; omega) ?_))
      intro v1 w3 hm1 hg3 _
      have G3 := Lib.hid (grown_none (grown_alloc (grown_alloc G.out (.cells #[.int .i64 p, .int .i64 t, .int .i64 cp] 42)) (.cells #[.int .i64 cp] 3)) hg3 (fun g hg => by have := HM.out.own_ge g hg; omega))
      have O3 := Lib.hid (Own.kept' ((O2.out.alloc (.cells #[.int .i64 p, .int .i64 t, .int .i64 cp] 42)).alloc (.cells #[.int .i64 cp] 3)) hg3 HM.out.apart)
      have HM3 := Lib.hid hm1
      clear hm1 hg3
      go_wp2
      go_roundw
      case rel => exact ⟨k + 1, by omega, by go_num, G3.out, O3.out, by rw [HNX.out]; simpa using HM3.out⟩
      case measure => simp [intOf]; omega
    · obtain rfl : k = n := by omega
      rw [List.take_of_length_le (by rw [own_len, HL.out]; exact Nat.le_refl _)] at hmine
      obtain ⟨Av, cv, rfl, _, hrv⟩ := hmine.row HOK.out
      have HRV := Lib.hid hrv
      clear hmine hg ob hrv
      go_wp2_with fail
      refine (Rates_any Av k cv (ownC L) X m d caps _ HRV.out (HX.out.grown hB' G.out)).mono ?_
      rintro e w2 ⟨he, g2⟩
      rw [own_caps] at he
      subst he
      have G := Lib.hid (grown_trans G.out g2)
      clear g2
      go_wp2
      go_ret
      exact ⟨rfl, G.out⟩

set_option maxRecDepth 20000 in
set_option maxHeartbeats 2000000 in
theorem RCaps_any (V : Int) (A : Option Addr) (n c : Nat) (L : List Lk) (X : Option Addr) (m d : Nat) (caps : List Int) (w : World) {B B' : Nat} (h : Lks w B A n L) (hB : B ≤ w.heap.size) (hx : Row w B' X m caps) :
    Calls Try.prog 33 #[.agg #[.int .i64 V, .slice A n c], .slice X m d] w (Says w (.bool (mayG V L && capsB L caps))) := by
  have hn := h.small
  have hm := hx.small
  have HL := Lib.hid h.len
  have HLX := Lib.hid hx.len
  have HR := Lib.hid h
  have HX := Lib.hid hx
  have HR1 := Lib.hid (h.grown hB (grow0 w (.cells #[.int .i64 V, .slice A n c] 24)))
  clear h hx
  go_enter Try.func33, Try.ntmps33
  go_wp2_with fail
  refine (RMay_any V A n c L _ HR1.out).mono ?_
  rintro e w1 ⟨rfl, g1⟩
  obtain ⟨g, o2⟩ := box1 [.int .i64 V, .slice A n c] g1
  obtain ⟨c0, c1⟩ := o2.two
  have G := Lib.hid g
  have O2 := Lib.hid o2
  clear g g1 o2 HR1
  cases hmay : mayG V L
  · have HMAY := Lib.hid hmay
    go_wp2
    go_ret
    exact ⟨ret_bool (by rw [HMAY.out]; rfl), G.out⟩
  have HMAY := Lib.hid hmay
  by_cases hmn : m = n
  case neg =>
    have E := Lib.hid (capsB_len (L := L) (caps := caps) (by rw [HL.out, HLX.out]; exact hmn))
    have hne : ((m : Int) != (n : Int)) = true := by simp; omega
    go_wp2
    go_ret
    exact ⟨ret_bool (by rw [HMAY.out, E.out]; rfl), G.out⟩
  subst hmn
  have hne : ((m : Int) != (m : Int)) = false := by simp
  have HS : Hid (CapRel w V A m c m L caps (.int .i64 0) w1) := ⟨0, Nat.zero_le _, rfl, G.out, O2.out, rfl⟩
  clear G O2
  go_wp2
  go_loopw [5] (fun i wr => CapRel w V A m c m L caps i wr) (fun i _ => m - (intOf i).toNat)
  case atStart => exact HS.out
  case round =>
    clear HS hne c0 c1 hmay
    obtain ⟨k, hk, rfl, hg, ob, hall⟩ := hrel
    have G := Lib.hid hg
    have HA := Lib.hid hall
    obtain ⟨c0, c1⟩ := ob.two
    have O := Lib.hid ob
    by_cases hlt : k < m
    · obtain ⟨b, off, hA, hb, hcell⟩ := HX.out.at_ (by omega)
      subst hA
      have d0 := kept hg (hcell k hlt)
      obtain ⟨b2, off2, hA2, hb2, hcell2⟩ := HR.out.cells (by omega)
      subst hA2
      obtain ⟨_, _, e2⟩ := hcell2 k hlt
      have e2 := kept hg e2
      have HN := Lib.hid (range_next k (capB L caps))
      have HNO := Lib.hid (capsB_stop (L := L) (caps := caps) (k := k) (by rw [HLX.out]; exact hlt))
      have HCB : Hid (capB L caps k = (decide (0 ≤ caps[k]?.getD 0) && decide (caps[k]?.getD 0 ≤ (at3 L k).2.2))) := rfl
      clear hcell hcell2 hg ob hall
      generalize caps[k]?.getD 0 = x at *
      generalize (at3 L k).2.2 = y at *
      by_cases h0 : x < 0
      · have E : Hid (capsB L caps = false) := HNO.out (by rw [HCB.out]; simp; omega)
        have q1 : decide (x < 0) = true := by simp [h0]
        clear HN HNO HCB
        go_wp2_with fail
        go_quiet (fail)
        go_wp2
        go_ret
        exact ⟨ret_bool (by rw [HMAY.out, E.out]; rfl), grown_drewN G.out _⟩
      · have q1 : decide (x < 0) = false := by simp; omega
        by_cases h1 : y < x
        · have E : Hid (capsB L caps = false) := HNO.out (by rw [HCB.out]; simp; omega)
          have q2 : decide (y < x) = true := by simp [h1]
          clear HN HNO HCB
          go_wp2_with fail
          go_quiet (fail)
          go_wp2
          go_ret
          exact ⟨ret_bool (by rw [HMAY.out, E.out]; rfl), grown_drewN G.out _⟩
        · have E : Hid ((List.range (k + 1)).all (capB L caps) = true) := by rw [Hid, HN.out, HA.out, HCB.out]; simp; omega
          have q2 : decide (y < x) = false := by simp; omega
          clear HN HNO HCB
          go_wp2_with fail
          go_quiet (fail)
          go_wp2
          go_roundw
          case rel => exact ⟨k + 1, by omega, by go_num, grown_drewN G.out _, O.out.drewN _, E.out⟩
          case measure => simp [intOf]; omega
    · obtain rfl : k = m := by omega
      have E : Hid (capsB L caps = true) := capsB_all (by rw [HL.out, HLX.out]) (by rw [HLX.out]; exact HA.out)
      clear hg hall ob
      go_wp2
      go_ret
      exact ⟨ret_bool (by rw [HMAY.out, E.out]; rfl), G.out⟩

set_option maxRecDepth 20000 in
set_option maxHeartbeats 2000000 in
theorem RWithin_any (X : Option Addr) (n d : Nat) (caps : List Int) (Y : Option Addr) (m d' : Nat) (f : List Int) (w : World) {B B' : Nat} (hx : Row w B X n caps) (hy : Row w B' Y m f) :
    Calls Try.prog 18 #[.slice X n d, .slice Y m d'] w (Says w (.bool (ratesB caps f))) := by
  have hn := hx.small
  have hm := hy.small
  have HLX := Lib.hid hx.len
  have HLY := Lib.hid hy.len
  have HX := Lib.hid hx
  have HY := Lib.hid hy
  clear hx hy
  by_cases hmn : m = n
  case neg =>
    have E := Lib.hid (ratesB_len (caps := caps) (f := f) (by rw [HLX.out, HLY.out]; exact hmn))
    have hne : ((m : Int) != (n : Int)) = true := by simp; omega
    go_enter Try.func18, Try.ntmps18
    go_wp2
    go_ret
    exact ⟨ret_bool E.out, World.grownBy.refl w none⟩
  subst hmn
  have hne : ((m : Int) != (m : Int)) = false := by simp
  have HS : Hid (RatRel w m caps f (.int .i64 0) w) := ⟨0, Nat.zero_le _, rfl, World.grownBy.refl w none, rfl⟩
  go_enter Try.func18, Try.ntmps18
  go_wp2
  go_loopw [5] (fun i wr => RatRel w m caps f i wr) (fun i _ => m - (intOf i).toNat)
  case atStart => exact HS.out
  case round =>
    clear HS hne
    obtain ⟨k, hk, rfl, hg, hall⟩ := hrel
    have G := Lib.hid hg
    have HA := Lib.hid hall
    by_cases hlt : k < m
    · obtain ⟨b, off, hA, hb, hcell⟩ := HX.out.at_ (by omega)
      subst hA
      have d0 := kept hg (hcell k hlt)
      obtain ⟨b2, off2, hA2, hb2, hcell2⟩ := HY.out.at_ (by omega)
      subst hA2
      have e0 := kept hg (hcell2 k hlt)
      have HN := Lib.hid (range_next k (rateIn caps f))
      have HNO := Lib.hid (ratesB_stop (caps := caps) (f := f) (k := k) (by rw [HLY.out]; exact hlt))
      have HCB : Hid (rateIn caps f k = (decide (0 ≤ f[k]?.getD 0) && decide (f[k]?.getD 0 ≤ caps[k]?.getD 0))) := rfl
      clear hcell hcell2 hg hall
      generalize f[k]?.getD 0 = x at *
      generalize caps[k]?.getD 0 = y at *
      by_cases h0 : x < 0
      · have E : Hid (ratesB caps f = false) := HNO.out (by rw [HCB.out]; simp; omega)
        have q1 : decide (x < 0) = true := by simp [h0]
        clear HN HNO HCB
        go_wp2_with fail
        go_quiet (fail)
        go_wp2
        go_ret
        exact ⟨ret_bool E.out, grown_drewN G.out _⟩
      · have q1 : decide (x < 0) = false := by simp; omega
        by_cases h1 : y < x
        · have E : Hid (ratesB caps f = false) := HNO.out (by rw [HCB.out]; simp; omega)
          have q2 : decide (y < x) = true := by simp [h1]
          clear HN HNO HCB
          go_wp2_with fail
          go_quiet (fail)
          go_wp2
          go_ret
          exact ⟨ret_bool E.out, grown_drewN G.out _⟩
        · have E : Hid ((List.range (k + 1)).all (rateIn caps f) = true) := by rw [Hid, HN.out, HA.out, HCB.out]; simp; omega
          have q2 : decide (y < x) = false := by simp; omega
          clear HN HNO HCB
          go_wp2_with fail
          go_quiet (fail)
          go_wp2
          go_roundw
          case rel => exact ⟨k + 1, by omega, by go_num, grown_drewN G.out _, E.out⟩
          case measure => simp [intOf]; omega
    · obtain rfl : k = m := by omega
      have E : Hid (ratesB caps f = true) := ratesB_all (by rw [HLX.out, HLY.out]) (by rw [HLY.out]; exact HA.out)
      clear hg hall
      go_wp2
      go_ret
      exact ⟨ret_bool E.out, G.out⟩

set_option maxHeartbeats 1000000 in
theorem ROwn_any (V : Int) (A : Option Addr) (n c : Nat) (L : List Lk) (w : World) {B : Nat} (h : Lks w B A n L) (h8 : n * 8 ≤ 140737488351232) :
    Calls Try.prog 27 #[.agg #[.int .i64 V, .slice A n c]] w (fun e w' => ∃ v, e = .returned v ∧ Mine w' w.heap.size v n (ownC L) ∧ w.grownBy w' none) := by
  have hn := h.small
  have HL := Lib.hid h.len
  have HR := Lib.hid h
  clear h
  have HS : Hid (OwnRel w V A n c L (.slice none 0 0) (.int .i64 0) (w.alloc (.cells #[.int .i64 V, .slice A n c] 24))) := ⟨0, Nat.zero_le _, rfl, grow0 _ _, Own.new w 24 [.int .i64 V, .slice A n c], Mine.nil _ _⟩
  go_enter Try.func27, Try.ntmps27
  go_wp2
  go_loopw [3, 4] (fun o i wr => OwnRel w V A n c L o i wr) (fun _ i _ => n - (intOf i).toNat)
  case atStart => exact HS.out
  case round =>
    clear HS
    obtain ⟨k, hk, rfl, hg, ob, hmine⟩ := hrel
    have G := Lib.hid hg
    have hsz := ob.lt
    obtain ⟨c0, c1⟩ := ob.two
    by_cases hlt : k < n
    · obtain ⟨b, off, hA, hb, hcell⟩ := HR.out.cells (by omega)
      subst hA
      obtain ⟨_, _, d2⟩ := hcell k hlt
      have d2 := kept hg d2
      have HNX := Lib.hid (own_next (L := L) (k := k) (by rw [HL.out]; exact hlt))
      have HBD := Lib.hid (HR.out.ok k).2.2
      have O2 := Lib.hid ob
      have HM := Lib.hid hmine
      clear hcell hg ob hmine
      generalize (at3 L k).2.2 = cp at *
      have HM1 := Lib.hid (HM.out.kept (grow0 _ (.cells #[.int .i64 cp] 3)))
      have HROW := Lib.hid (Row.newAt (w := wr) (g := wr.heap.size) (n := 1) (vs := #[.int .i64 cp]) [cp] rfl rfl rfl (by simp) (by simp; exact HBD.out))
      go_wp2_with (first | (at_builtin; refine wpList_app _ rfl _ _ rfl (w.heap.size + 1) _ _ _ rfl HM1.out _ 1 1 [cp] rfl HROW.out (by simp) (by omega) (by simp; omega) ?_))
      intro v1 w3 hm1 hg3 _
      have G3 := Lib.hid (grown_none (grown_alloc G.out (.cells #[.int .i64 cp] 3)) hg3 (fun g hg => by have := HM.out.own_ge g hg; omega))
      have O3 := Lib.hid (Own.kept' (O2.out.alloc (.cells #[.int .i64 cp] 3)) hg3 HM.out.apart)
      have HM3 := Lib.hid hm1
      clear hm1 hg3
      go_wp2
      go_roundw
      case rel => exact ⟨k + 1, by omega, by go_num, G3.out, O3.out, by rw [HNX.out]; simpa using HM3.out⟩
      case measure => simp [intOf]; omega
    · obtain rfl : k = n := by omega
      rw [List.take_of_length_le (by rw [own_len, HL.out]; exact Nat.le_refl _)] at hmine
      have HM := Lib.hid hmine
      clear hmine hg ob
      go_wp2
      go_ret
      exact ⟨_, rfl, HM.out.wide (by omega), G.out⟩

end Go.Proofs.Ytefgnaldiggnnaa
