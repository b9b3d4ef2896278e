/-
  within.Rates and Caps; the reference's CapsMay, Within, Own. Gains of vertices, the room of an arc: the program's and the reference's. stream.fits, Value and Room, the reference's Value and Room. stream.May and the reference's FlowMay. A copy of a row, a rate; stream.Move and the reference's.
-/
import Derived.Test.YtlpohlcmjnlbhaaJC
import Derived.Test.YtlpohlcmjnlbhaaJA
import Derived.Test.YtlpohlcmjnlbhaaJB
import Derived.Lib.SliceRun

set_option maxRecDepth 20000
namespace Go.Proofs.Ytlpohlcmjnlbhaa
open Go.RowKit

def CapRel (w : World) (V : Int) (A : Option Addr) (n c m : Nat) (L : List Lk) (caps : List Int) (i : Value) (wr : World) : Prop :=
  ∃ k : Nat, k ≤ m ∧ i = .int .i64 (k : Nat) ∧ w.grownBy wr none ∧ Own wr w.heap.size 24 [.int .i64 V, .slice A n c] ∧ (List.range k).all (capB L caps) = true

def RatRel (w : World) (m : Nat) (caps f : List Int) (i : Value) (wr : World) : Prop :=
  ∃ k : Nat, k ≤ m ∧ i = .int .i64 (k : Nat) ∧ w.grownBy wr none ∧ (List.range k).all (rateIn caps f) = true

set_option maxHeartbeats 1000000 in
theorem Rates_any (X : Option Addr) (n d : Nat) (caps : List Int) (Y : Option Addr) (m e0 : Nat) (f : List Int) (w : World) {B B' : Nat} (hx : Row w B X n caps) (hy : Row w B' Y m f) :
    Calls Try.prog 57 #[.slice X n d, .slice Y m e0] w (Says w (.bool (ratesB caps f))) := by
  have hn := hx.small
  have hm := hy.small
  have HLX := Lib.hid hx.len
  have HLY := Lib.hid hy.len
  have HX := Lib.hid hx
  have HY := Lib.hid hy
  clear hx hy
  by_cases hmn : m = n
  case neg =>
    have E := Lib.hid (ratesB_len (caps := caps) (f := f) (by rw [HLX.out, HLY.out]; exact hmn))
    have hne : ((m : Int) != (n : Int)) = true := by simp; omega
    go_enter Try.func57, Try.ntmps57
    go_wp2
    go_ret
    exact ⟨ret_bool E.out, World.grownBy.refl w none⟩
  subst hmn
  have hne : ((m : Int) != (m : Int)) = false := by simp
  have HS : Hid (RatRel w m caps f (.int .i64 0) w) := ⟨0, Nat.zero_le _, rfl, World.grownBy.refl w none, rfl⟩
  go_enter Try.func57, Try.ntmps57
  go_wp2
  go_loopw [14] (fun i wr => RatRel w m caps f i wr) (fun i _ => m - (intOf i).toNat)
  case atStart => exact HS.out
  case round =>
    clear HS hne
    obtain ⟨k, hk, rfl, hg, hall⟩ := hrel
    have G := Lib.hid hg
    have HA := Lib.hid hall
    by_cases hlt : k < m
    · obtain ⟨b, off, hA, hb, hcell⟩ := HX.out.at_ (by omega)
      subst hA
      have d0 := kept hg (hcell k hlt)
      obtain ⟨b2, off2, hA2, hb2, hcell2⟩ := HY.out.at_ (by omega)
      subst hA2
      have e0 := kept hg (hcell2 k hlt)
      have HN := Lib.hid (range_next k (rateIn caps f))
      have HNO := Lib.hid (ratesB_stop (caps := caps) (f := f) (k := k) (by rw [HLY.out]; exact hlt))
      have HCB : Hid (rateIn caps f k = (decide (0 ≤ f[k]?.getD 0) && decide (f[k]?.getD 0 ≤ caps[k]?.getD 0))) := rfl
      clear hcell hcell2 hg hall
      generalize f[k]?.getD 0 = x at *
      generalize caps[k]?.getD 0 = y at *
      by_cases h0 : x < 0
      · have E : Hid (ratesB caps f = false) := HNO.out (by rw [HCB.out]; simp; omega)
        clear HN HNO HCB
        go_wp2
        go_ret
        exact ⟨ret_bool E.out, G.out⟩
      · by_cases h1 : y < x
        · have E : Hid (ratesB caps f = false) := HNO.out (by rw [HCB.out]; simp; omega)
          clear HN HNO HCB
          go_wp2
          go_ret
          exact ⟨ret_bool E.out, G.out⟩
        · have E : Hid ((List.range (k + 1)).all (rateIn caps f) = true) := by rw [Hid, HN.out, HA.out, HCB.out]; simp; omega
          clear HN HNO HCB
          go_wp2
          go_roundw
          case rel => exact ⟨k + 1, by omega, by go_num, G.out, E.out⟩
          case measure => simp [intOf]; omega
    · obtain rfl : k = m := by omega
      have E : Hid (ratesB caps f = true) := ratesB_all (by rw [HLX.out, HLY.out]) (by rw [HLY.out]; exact HA.out)
      clear hg hall
      go_wp2
      go_ret
      exact ⟨ret_bool E.out, G.out⟩

def OwnRel (w : World) (V : Int) (A : Option Addr) (n c : Nat) (L : List Lk) (o i : Value) (wr : World) : Prop :=
  ∃ k : Nat, k ≤ n ∧ i = .int .i64 (k : Nat) ∧ w.grownBy wr none ∧ Own wr w.heap.size 24 [.int .i64 V, .slice A n c] ∧ Mine wr (w.heap.size + 1) o k ((ownC L).take k)

theorem own_ok {w : World} {B : Nat} {A : Option Addr} {n : Nat} {L : List Lk} (h : Lks w B A n L) : okI (ownC L) := fun i => by
  rw [own_get]
  exact (h.ok i).2.2

set_option maxHeartbeats 1000000 in
theorem areCaps_any (V : Int) (A : Option Addr) (n c : Nat) (L : List Lk) (X : Option Addr) (m d : Nat) (caps : List Int) (w : World) {B B' : Nat} (h : Lks w B A n L) (hx : Row w B' X m caps) (hB' : B' ≤ w.heap.size) (h8 : n * 8 ≤ 140737488351232) :
    Calls Try.prog 35 #[.agg #[.int .i64 V, .slice A n c], .slice X m d] w (Says w (.bool (capsB L caps))) := by
  have hn := h.small
  have HL := Lib.hid h.len
  have HR := Lib.hid h
  have HX := Lib.hid hx
  have HOK := Lib.hid (own_ok h)
  clear h hx
  have HS : Hid (OwnRel w V A n c L (.slice none 0 0) (.int .i64 0) (w.alloc (.cells #[.int .i64 V, .slice A n c] 24))) := ⟨0, Nat.zero_le _, rfl, grow0 _ _, Own.new w 24 [.int .i64 V, .slice A n c], Mine.nil _ _⟩
  go_enter Try.func35, Try.ntmps35
  go_wp2
  go_loopw [5, 11] (fun o i wr => OwnRel w V A n c L o i wr) (fun _ i _ => n - (intOf i).toNat)
  case atStart => exact HS.out
  case round =>
    clear HS
    obtain ⟨k, hk, rfl, hg, ob, hmine⟩ := hrel
    have G := Lib.hid hg
    have hsz := ob.lt
    by_cases hlt : k < n
    · obtain ⟨b, off, hA, hb, hcell⟩ := HR.out.cells (by omega)
      subst hA
      obtain ⟨d0, d1, d2⟩ := hcell k hlt
      have d0 := kept hg d0
      have d1 := kept hg d1
      have d2 := kept hg d2
      have HNX := Lib.hid (own_next (L := L) (k := k) (by rw [HL.out]; exact hlt))
      have hbd := (HR.out.ok k).2.2
      obtain ⟨c0, c1⟩ := ob.two
      have O2 := Lib.hid ob
      have HM := Lib.hid hmine
      clear hcell hg ob hmine
      generalize at3 L k = l at *
      obtain ⟨p, t, cp⟩ := l
      simp only at d0 d1 d2 hbd
      have HBD := Lib.hid hbd
      clear hbd
      have HM1 := Lib.hid ((HM.out.kept (grow0 _ (.cells #[.int .i64 p, .int .i64 t, .int .i64 cp] 57))).kept (grow0 _ (.cells #[.int .i64 cp] 3)))
      have HROW := Lib.hid (Row.newAt (w := wr.alloc (.cells #[.int .i64 p, .int .i64 t, .int .i64 cp] 57)) (g := wr.heap.size + 1) (n := 1) (vs := #[.int .i64 cp]) [cp] (by simp) rfl rfl (by simp) (by simp; exact HBD.out))
      go_wp2_with (first | (at_builtin; refine wpList_app _ rfl _ _ rfl (w.heap.size + 1) _ _ _ rfl HM1.out _ 1 1 [cp] rfl HROW.out (by simp) (by omega) (by simp; omega) ?_))
      intro v1 w3 hm1 hg3 _
      have G3 := Lib.hid (grown_none (grown_alloc (grown_alloc G.out (.cells #[.int .i64 p, .int .i64 t, .int .i64 cp] 57)) (.cells #[.int .i64 cp] 3)) hg3 (fun g hg => by have := HM.out.own_ge g hg; omega))
      have O3 := Lib.hid (Own.kept' ((O2.out.alloc (.cells #[.int .i64 p, .int .i64 t, .int .i64 cp] 57)).alloc (.cells #[.int .i64 cp] 3)) hg3 HM.out.apart)
      have HM3 := Lib.hid hm1
      clear hm1 hg3
      go_wp2
      go_roundw
      case rel => exact ⟨k + 1, by omega, by go_num, G3.out, O3.out, by rw [HNX.out]; simpa using HM3.out⟩
      case measure => simp [intOf]; omega
    · obtain rfl : k = n := by omega
      rw [List.take_of_length_le (by rw [own_len, HL.out]; exact Nat.le_refl _)] at hmine
      obtain ⟨Av, cv, rfl, _, hrv⟩ := hmine.row HOK.out
      have HRV := Lib.hid hrv
      clear hmine hg ob hrv
      go_wp2_with fail
      refine (Rates_any Av k cv (ownC L) X m d caps _ HRV.out (HX.out.grown hB' G.out)).mono ?_
      rintro e w2 ⟨he, g2⟩
      rw [own_caps] at he
      subst he
      have G := Lib.hid (grown_trans G.out g2)
      clear g2
      go_wp2
      go_ret
      exact ⟨rfl, G.out⟩

set_option maxRecDepth 20000 in
set_option maxHeartbeats 2000000 in
theorem RCaps_any (V : Int) (A : Option Addr) (n c : Nat) (L : List Lk) (X : Option Addr) (m d : Nat) (caps : List Int) (w : World) {B B' : Nat} (h : Lks w B A n L) (hB : B ≤ w.heap.size) (hx : Row w B' X m caps) :
    Calls Try.prog 9 #[.agg #[.int .i64 V, .slice A n c], .slice X m d] w (Says w (.bool (mayG V L && capsB L caps))) := by
  have hn := h.small
  have hm := hx.small
  have HL := Lib.hid h.len
  have HLX := Lib.hid hx.len
  have HR := Lib.hid h
  have HX := Lib.hid hx
  have HR1 := Lib.hid (h.grown hB (grow0 w (.cells #[.int .i64 V, .slice A n c] 24)))
  clear h hx
  go_enter Try.func9, Try.ntmps9
  go_wp2_with fail
  refine (RMay_any V A n c L _ HR1.out).mono ?_
  rintro e w1 ⟨rfl, g1⟩
  obtain ⟨g, o2⟩ := box1 [.int .i64 V, .slice A n c] g1
  obtain ⟨c0, c1⟩ := o2.two
  have G := Lib.hid g
  have O2 := Lib.hid o2
  clear g g1 o2 HR1
  cases hmay : mayG V L
  · have HMAY := Lib.hid hmay
    go_wp2
    go_ret
    exact ⟨ret_bool (by rw [HMAY.out]; rfl), G.out⟩
  have HMAY := Lib.hid hmay
  by_cases hmn : m = n
  case neg =>
    have E := Lib.hid (capsB_len (L := L) (caps := caps) (by rw [HL.out, HLX.out]; exact hmn))
    have hne : ((m : Int) != (n : Int)) = true := by simp; omega
    go_wp2
    go_ret
    exact ⟨ret_bool (by rw [HMAY.out, E.out]; rfl), G.out⟩
  subst hmn
  have hne : ((m : Int) != (m : Int)) = false := by simp
  have HS : Hid (CapRel w V A m c m L caps (.int .i64 0) w1) := ⟨0, Nat.zero_le _, rfl, G.out, O2.out, rfl⟩
  clear G O2
  go_wp2
  go_loopw [5] (fun i wr => CapRel w V A m c m L caps i wr) (fun i _ => m - (intOf i).toNat)
  case atStart => exact HS.out
  case round =>
    clear HS hne c0 c1 hmay
    obtain ⟨k, hk, rfl, hg, ob, hall⟩ := hrel
    have G := Lib.hid hg
    have HA := Lib.hid hall
    obtain ⟨c0, c1⟩ := ob.two
    have O := Lib.hid ob
    by_cases hlt : k < m
    · obtain ⟨b, off, hA, hb, hcell⟩ := HX.out.at_ (by omega)
      subst hA
      have d0 := kept hg (hcell k hlt)
      obtain ⟨b2, off2, hA2, hb2, hcell2⟩ := HR.out.cells (by omega)
      subst hA2
      obtain ⟨_, _, e2⟩ := hcell2 k hlt
      have e2 := kept hg e2
      have HN := Lib.hid (range_next k (capB L caps))
      have HNO := Lib.hid (capsB_stop (L := L) (caps := caps) (k := k) (by rw [HLX.out]; exact hlt))
      have HCB : Hid (capB L caps k = (decide (0 ≤ caps[k]?.getD 0) && decide (caps[k]?.getD 0 ≤ (at3 L k).2.2))) := rfl
      clear hcell hcell2 hg ob hall
      generalize caps[k]?.getD 0 = x at *
      generalize (at3 L k).2.2 = y at *
      by_cases h0 : x < 0
      · have E : Hid (capsB L caps = false) := HNO.out (by rw [HCB.out]; simp; omega)
        have q1 : decide (x < 0) = true := by simp [h0]
        clear HN HNO HCB
        go_wp2_with fail
        go_quiet (fail)
        go_wp2
        go_ret
        exact ⟨ret_bool (by rw [HMAY.out, E.out]; rfl), grown_drewN G.out _⟩
      · have q1 : decide (x < 0) = false := by simp; omega
        by_cases h1 : y < x
        · have E : Hid (capsB L caps = false) := HNO.out (by rw [HCB.out]; simp; omega)
          have q2 : decide (y < x) = true := by simp [h1]
          clear HN HNO HCB
          go_wp2_with fail
          go_quiet (fail)
          go_wp2
          go_ret
          exact ⟨ret_bool (by rw [HMAY.out, E.out]; rfl), grown_drewN G.out _⟩
        · have E : Hid ((List.range (k + 1)).all (capB L caps) = true) := by rw [Hid, HN.out, HA.out, HCB.out]; simp; omega
          have q2 : decide (y < x) = false := by simp; omega
          clear HN HNO HCB
          go_wp2_with fail
          go_quiet (fail)
          go_wp2
          go_roundw
          case rel => exact ⟨k + 1, by omega, by go_num, grown_drewN G.out _, O.out.drewN _, E.out⟩
          case measure => simp [intOf]; omega
    · obtain rfl : k = m := by omega
      have E : Hid (capsB L caps = true) := capsB_all (by rw [HL.out, HLX.out]) (by rw [HLX.out]; exact HA.out)
      clear hg hall ob
      go_wp2
      go_ret
      exact ⟨ret_bool (by rw [HMAY.out, E.out]; rfl), G.out⟩

set_option maxRecDepth 20000 in
set_option maxHeartbeats 2000000 in
theorem RWithin_any (X : Option Addr) (n d : Nat) (caps : List Int) (Y : Option Addr) (m d' : Nat) (f : List Int) (w : World) {B B' : Nat} (hx : Row w B X n caps) (hy : Row w B' Y m f) :
    Calls Try.prog 32 #[.slice X n d, .slice Y m d'] w (Says w (.bool (ratesB caps f))) := by
  have hn := hx.small
  have hm := hy.small
  have HLX := Lib.hid hx.len
  have HLY := Lib.hid hy.len
  have HX := Lib.hid hx
  have HY := Lib.hid hy
  clear hx hy
  by_cases hmn : m = n
  case neg =>
    have E := Lib.hid (ratesB_len (caps := caps) (f := f) (by rw [HLX.out, HLY.out]; exact hmn))
    have hne : ((m : Int) != (n : Int)) = true := by simp; omega
    go_enter Try.func32, Try.ntmps32
    go_wp2
    go_ret
    exact ⟨ret_bool E.out, World.grownBy.refl w none⟩
  subst hmn
  have hne : ((m : Int) != (m : Int)) = false := by simp
  have HS : Hid (RatRel w m caps f (.int .i64 0) w) := ⟨0, Nat.zero_le _, rfl, World.grownBy.refl w none, rfl⟩
  go_enter Try.func32, Try.ntmps32
  go_wp2
  go_loopw [5] (fun i wr => RatRel w m caps f i wr) (fun i _ => m - (intOf i).toNat)
  case atStart => exact HS.out
  case round =>
    clear HS hne
    obtain ⟨k, hk, rfl, hg, hall⟩ := hrel
    have G := Lib.hid hg
    have HA := Lib.hid hall
    by_cases hlt : k < m
    · obtain ⟨b, off, hA, hb, hcell⟩ := HX.out.at_ (by omega)
      subst hA
      have d0 := kept hg (hcell k hlt)
      obtain ⟨b2, off2, hA2, hb2, hcell2⟩ := HY.out.at_ (by omega)
      subst hA2
      have e0 := kept hg (hcell2 k hlt)
      have HN := Lib.hid (range_next k (rateIn caps f))
      have HNO := Lib.hid (ratesB_stop (caps := caps) (f := f) (k := k) (by rw [HLY.out]; exact hlt))
      have HCB : Hid (rateIn caps f k = (decide (0 ≤ f[k]?.getD 0) && decide (f[k]?.getD 0 ≤ caps[k]?.getD 0))) := rfl
      clear hcell hcell2 hg hall
      generalize f[k]?.getD 0 = x at *
      generalize caps[k]?.getD 0 = y at *
      by_cases h0 : x < 0
      · have E : Hid (ratesB caps f = false) := HNO.out (by rw [HCB.out]; simp; omega)
        have q1 : decide (x < 0) = true := by simp [h0]
        clear HN HNO HCB
        go_wp2_with fail
        go_quiet (fail)
        go_wp2
        go_ret
        exact ⟨ret_bool E.out, grown_drewN G.out _⟩
      · have q1 : decide (x < 0) = false := by simp; omega
        by_cases h1 : y < x
        · have E : Hid (ratesB caps f = false) := HNO.out (by rw [HCB.out]; simp; omega)
          have q2 : decide (y < x) = true := by simp [h1]
          clear HN HNO HCB
          go_wp2_with fail
          go_quiet (fail)
          go_wp2
          go_ret
          exact ⟨ret_bool E.out, grown_drewN G.out _⟩
        · have E : Hid ((List.range (k + 1)).all (rateIn caps f) = true) := by rw [Hid, HN.out, HA.out, HCB.out]; simp; omega
          have q2 : decide (y < x) = false := by simp; omega
          clear HN HNO HCB
          go_wp2_with fail
          go_quiet (fail)
          go_wp2
          go_roundw
          case rel => exact ⟨k + 1, by omega, by go_num, grown_drewN G.out _, E.out⟩
          case measure => simp [intOf]; omega
    · obtain rfl : k = m := by omega
      have E : Hid (ratesB caps f = true) := ratesB_all (by rw [HLX.out, HLY.out]) (by rw [HLY.out]; exact HA.out)
      clear hg hall
      go_wp2
      go_ret
      exact ⟨ret_bool E.out, G.out⟩

end Go.Proofs.Ytlpohlcmjnlbhaa

set_option maxRecDepth 20000
namespace Go.Proofs.Ytlpohlcmjnlbhaa
open Go.RowKit

def GnRel (w : World) (V : Int) (A : Option Addr) (n c : Nat) (L : List Lk) (f : List Int) (v : Int) (a i : Value) (wr : World) : Prop :=
  ∃ k : Nat, k ≤ n ∧ a = .int .i64 (gk L f v k) ∧ i = .int .i64 (k : Nat) ∧ w.grownBy wr none ∧ Own wr w.heap.size 24 [.int .i64 V, .slice A n c]

set_option maxHeartbeats 1000000 in
theorem gain_any (V : Int) (A : Option Addr) (n c : Nat) (L : List Lk) (Y : Option Addr) (m e0 : Nat) (f : List Int) (v : Int) (w : World) {B B' : Nat} (h : Lks w B A n L) (hy : Row w B' Y m f) (hmay : mayG V L = true) (hcap : capsB L f = true) :
    Calls Try.prog 74 #[.agg #[.int .i64 V, .slice A n c], .slice Y m e0, .int .i64 v] w (Says w (.int .i64 (gainOf L f v))) := by
  have hn := h.small
  have HL := Lib.hid h.len
  have HR := Lib.hid h
  have HY := Lib.hid hy
  have hmn : n = m := by have := (capsB_parts hcap).1; have := h.len; have := hy.len; omega
  subst hmn
  have HB := Lib.hid (fun (k : Nat) (hk : k < n) => gain_room v hmay hcap (k := k) (by rw [HL.out]; exact hk))
  have HJ := Lib.hid (fun (k : Nat) (hk : k < n) => may_joins hmay (i := k) (by rw [HL.out]; exact hk))
  clear h hy hmay hcap
  have HS : Hid (GnRel w V A n c L f v (.int .i64 0) (.int .i64 0) (w.alloc (.cells #[.int .i64 V, .slice A n c] 24))) := ⟨0, Nat.zero_le _, rfl, rfl, grow0 _ _, Own.new w 24 [.int .i64 V, .slice A n c]⟩
  go_enter Try.func74, Try.ntmps74
  go_wp2
  go_loopw [7, 13] (fun a i wr => GnRel w V A n c L f v a i wr) (fun _ i _ => n - (intOf i).toNat)
  case atStart => exact HS.out
  case round =>
    clear HS
    obtain ⟨k, hk, rfl, rfl, hg, ob⟩ := hrel
    have G := Lib.hid hg
    obtain ⟨c0, c1⟩ := ob.two
    have O := Lib.hid ob
    by_cases hlt : k < n
    · obtain ⟨b, off, hA, hb, hcell⟩ := HR.out.cells (by omega)
      subst hA
      obtain ⟨d0, d1, d2⟩ := hcell k hlt
      have d0 := kept hg d0
      have d1 := kept hg d1
      have d2 := kept hg d2
      obtain ⟨b2, off2, hA2, hb2, hcell2⟩ := HY.out.at_ (by omega)
      subst hA2
      have e0 := kept hg (hcell2 k hlt)
      have hbd := HB.out k hlt
      have HNE := Lib.hid (HJ.out k hlt).2.2.2.2
      have HO := Lib.hid (gk_out (L := L) (f := f) (v := v) (k := k))
      have HI := Lib.hid (gk_in (L := L) (f := f) (v := v) (k := k))
      have HN := Lib.hid (gk_none (L := L) (f := f) (v := v) (k := k))
      clear hcell hcell2 hg ob
      generalize hgk : gk L f v k = a at *
      generalize hgk1 : gk L f v (k + 1) = a1 at *
      generalize f[k]?.getD 0 = x at *
      generalize at3 L k = l at *
      obtain ⟨p, t, cp⟩ := l
      simp only at d0 d1 d2
      have hw : IntKind.i64.wrap (a + x) = a + x := IntWalk.i64_in _ (by omega)
      have hw2 : IntKind.i64.wrap (a - x) = a - x := IntWalk.i64_in _ (by omega)
      have HG1 := Lib.hid hgk1
      have e1 := kept (grow0 wr (.cells #[.int .i64 p, .int .i64 t, .int .i64 cp] 57)) e0
      clear hgk hgk1 hbd
      by_cases hp : p = v
      · have hnt : ¬ t = v := fun e => HNE.out (by rw [hp, e])
        have E := Lib.hid (HO.out hp hnt)
        clear HO HI HN HNE
        subst hp
        have q1 : (p == p) = true := by simp
        have q2 : (t == p) = false := by simp [hnt]
        clear hnt
        go_wp2
        go_roundw
        case rel => exact ⟨k + 1, by omega, by rw [HG1.out, E.out], by go_num, grown_alloc G.out _, O.out.alloc _⟩
        case measure => simp [intOf]; omega
      · by_cases ht : t = v
        · have E := Lib.hid (HI.out hp ht)
          clear HO HI HN HNE
          subst ht
          have q1 : (p == t) = false := by simp [hp]
          have q2 : (t == t) = true := by simp
          clear hp
          go_wp2
          go_roundw
          case rel => exact ⟨k + 1, by omega, by rw [HG1.out, E.out], by go_num, grown_alloc G.out _, O.out.alloc _⟩
          case measure => simp [intOf]; omega
        · have E := Lib.hid (HN.out hp ht)
          have q1 : (p == v) = false := by simp [hp]
          have q2 : (t == v) = false := by simp [ht]
          clear HO HI HN HNE hp ht
          go_wp2
          go_roundw
          case rel => exact ⟨k + 1, by omega, by rw [HG1.out, E.out], by go_num, grown_alloc G.out _, O.out.alloc _⟩
          case measure => simp [intOf]; omega
    · obtain rfl : k = n := by omega
      have E : Hid (gainOf L f v = gk L f v k) := by rw [Hid, gainOf, HL.out]
      clear hg ob
      generalize gk L f v k = a at *
      go_wp2
      go_ret
      exact ⟨ret_int E.out.symm, G.out⟩

theorem forward_yes (a : Int) (hm : a.tmod 2 = 0) (w : World) : Calls Try.prog 96 #[.int .i64 a] w (Says w (.bool true)) := by
  go_enter Try.func96, Try.ntmps96
  go_wp2
  go_ret
  exact ⟨rfl, World.grownBy.refl w none⟩

theorem forward_no (a : Int) (hm : a.tmod 2 = 1) (w : World) : Calls Try.prog 96 #[.int .i64 a] w (Says w (.bool false)) := by
  go_enter Try.func96, Try.ntmps96
  go_wp2
  go_ret
  exact ⟨rfl, World.grownBy.refl w none⟩

theorem room_even {caps f : List Int} {a : Int} {i : Nat} (hi : (a / 2).toNat = i) (h : a % 2 = 0) : roomI caps f a = caps[i]?.getD 0 - f[i]?.getD 0 := by simp [roomI, hi, h]
theorem room_odd {caps f : List Int} {a : Int} {i : Nat} (hi : (a / 2).toNat = i) (h : a % 2 = 1) : roomI caps f a = f[i]?.getD 0 := by simp [roomI, hi, h]

set_option maxHeartbeats 1000000 in
theorem room_any (X : Option Addr) (n d : Nat) (caps : List Int) (Y : Option Addr) (e0 : Nat) (f : List Int) (a : Int) (w : World) {B B' : Nat} (hx : Row w B X n caps) (hy : Row w B' Y n f) (ha : isV (2 * (n : Int)) a = true) (hr : ratesB caps f = true) :
    Calls Try.prog 92 #[.slice X n d, .slice Y n e0, .int .i64 a] w (Says w (.int .i64 (roomI caps f a))) := by
  have hn := hx.small
  obtain ⟨i, hi, hd, ht, hc⟩ := arc_cases ha
  obtain ⟨b, off, hA, hb, hcell⟩ := hx.at_ (by omega)
  subst hA
  obtain ⟨b2, off2, hA2, hb2, hcell2⟩ := hy.at_ (by omega)
  subst hA2
  have HC := Lib.hid (hcell i hi)
  have HE := Lib.hid (hcell2 i hi)
  have hbd := rates_at hr (i := i) (by rw [hx.len]; exact hi)
  have hok := hx.ok i
  have hw1 : IntKind.i64.wrap (a.tdiv 2) = (i : Int) := by rw [ht]; exact IntWalk.i64_in _ (by omega)
  clear hcell hcell2 hx hy ha hr
  rcases hc with ⟨hm, hm2, -⟩ | ⟨hm, hm2, -⟩
  · have E := Lib.hid (room_even (caps := caps) (f := f) hd hm)
    generalize caps[i]?.getD 0 = x at *
    generalize f[i]?.getD 0 = y at *
    have hw2 : IntKind.i64.wrap (x - y) = x - y := IntWalk.i64_in _ (by omega)
    clear hd hm hbd hok
    have HT := Lib.hid ht
    go_enter Try.func92, Try.ntmps92
    go_wp2_with fail
    refine (forward_yes a hm2 _).mono ?_
    rintro e w1 ⟨rfl, g1⟩
    have c0 := kept g1 HC.out
    have c1 := kept g1 HE.out
    have G := Lib.hid g1
    clear g1
    go_wp2_with fail
    go_quiet (fail)
    go_wp2
    go_ret
    exact ⟨ret_int E.out.symm, grown_drewN G.out _⟩
  · have E := Lib.hid (room_odd (caps := caps) (f := f) hd hm)
    generalize caps[i]?.getD 0 = x at *
    generalize f[i]?.getD 0 = y at *
    clear hd hm hbd hok
    have HT := Lib.hid ht
    go_enter Try.func92, Try.ntmps92
    go_wp2_with fail
    refine (forward_no a hm2 _).mono ?_
    rintro e w1 ⟨rfl, g1⟩
    have c1 := kept g1 HE.out
    have G := Lib.hid g1
    clear g1
    go_wp2
    go_ret
    exact ⟨ret_int E.out.symm, G.out⟩

end Go.Proofs.Ytlpohlcmjnlbhaa

set_option maxRecDepth 20000
namespace Go.Proofs.Ytlpohlcmjnlbhaa
open Go.RowKit

theorem may_8 {V : Int} {L : List Lk} {n : Nat} (h : mayG V L = true) (hl : L.length = n) : n * 8 ≤ 140737488351232 ∧ n ≤ 16 := by
  have := (may_small h).2.2
  omega

set_option maxHeartbeats 1000000 in
theorem fits_any (V : Int) (A : Option Addr) (n c : Nat) (L : List Lk) (X : Option Addr) (p d : Nat) (caps : List Int) (Y : Option Addr) (q e0 : Nat) (f : List Int) (w : World) {B B' B'' : Nat} (h : Lks w B A n L) (hB : B ≤ w.heap.size) (hx : Row w B' X p caps) (hB' : B' ≤ w.heap.size) (hy : Row w B'' Y q f) (hB'' : B'' ≤ w.heap.size) :
    Calls Try.prog 73 #[.agg #[.int .i64 V, .slice A n c], .slice X p d, .slice Y q e0] w (Says w (.bool (fitsF V L caps f))) := by
  have HL := Lib.hid h.len
  have HR := Lib.hid h
  have HX := Lib.hid hx
  have HY := Lib.hid hy
  have HR1 := Lib.hid (h.grown hB (grow0 w (.cells #[.int .i64 V, .slice A n c] 24)))
  have HE : Hid (fitsF V L caps f = (mayG V L && capsB L caps && ratesB caps f)) := rfl
  clear h hx hy
  go_enter Try.func73, Try.ntmps73
  go_wp2_with fail
  refine (GMay_any V A n c L _ HR1.out (by simp; omega)).mono ?_
  rintro e w1 ⟨rfl, g1⟩
  obtain ⟨g, o2⟩ := box1 [.int .i64 V, .slice A n c] g1
  obtain ⟨c0, c1⟩ := o2.two
  have G := Lib.hid g
  clear g g1 o2 HR1
  cases hmay : mayG V L
  · have E : Hid (fitsF V L caps f = false) := by rw [Hid, HE.out, hmay]; rfl
    clear HE hmay
    go_wp2
    go_ret
    exact ⟨ret_bool E.out, G.out⟩
  rw [hmay, Bool.true_and] at HE
  have h8 := (may_8 hmay HL.out).1
  have H8 := Lib.hid h8
  clear hmay h8
  go_wp2_with fail
  refine (areCaps_any V A n c L X p d caps _ (HR.out.grown hB G.out) (HX.out.grown hB' G.out) (by have := G.out.size; omega) H8.out).mono ?_
  rintro e w2 ⟨rfl, g2⟩
  have G := Lib.hid (grown_trans G.out g2)
  clear g2 c0 c1
  cases hcap : capsB L caps
  · have E : Hid (fitsF V L caps f = false) := by rw [Hid, HE.out, hcap]; rfl
    clear HE hcap
    go_wp2
    go_ret
    exact ⟨ret_bool E.out, G.out⟩
  rw [hcap, Bool.true_and] at HE
  clear hcap
  go_wp2_with fail
  refine (Rates_any X p d caps Y q e0 f _ (HX.out.grown hB' G.out) (HY.out.grown hB'' G.out)).mono ?_
  rintro e w3 ⟨rfl, g3⟩
  have G := Lib.hid (grown_trans G.out g3)
  clear g3
  go_wp2
  go_ret
  exact ⟨ret_bool HE.out, G.out⟩

def valV (V : Int) (L : List Lk) (f : List Int) (s : Int) : Value := .tuple #[.int .i64 (valX V L f s), .int .i64 (valE V L f s)]
def roomV (V : Int) (L : List Lk) (caps f : List Int) (a : Int) : Value := .tuple #[.int .i64 (roomX V L caps f a), .int .i64 (roomE V L caps f a)]

set_option maxHeartbeats 1000000 in
theorem SRoom_any (V a : Int) (A : Option Addr) (n c : Nat) (L : List Lk) (X : Option Addr) (p d : Nat) (caps : List Int) (Y : Option Addr) (q e0 : Nat) (f : List Int) (w : World) {B B' B'' : Nat} (h : Lks w B A n L) (hB : B ≤ w.heap.size) (hx : Row w B' X p caps) (hB' : B' ≤ w.heap.size) (hy : Row w B'' Y q f) (hB'' : B'' ≤ w.heap.size) :
    Calls Try.prog 84 #[.agg #[.int .i64 V, .slice A n c], .slice X p d, .slice Y q e0, .int .i64 a] w (Says w (roomV V L caps f a)) := by
  have HL := Lib.hid h.len
  have HLX := Lib.hid hx.len
  have HLY := Lib.hid hy.len
  have HX := Lib.hid hx
  have HY := Lib.hid hy
  have HR1 := Lib.hid (h.grown hB (grow0 w (.cells #[.int .i64 V, .slice A n c] 24)))
  have HX1 := Lib.hid (hx.grown hB' (grow0 w (.cells #[.int .i64 V, .slice A n c] 24)))
  have HY1 := Lib.hid (hy.grown hB'' (grow0 w (.cells #[.int .i64 V, .slice A n c] 24)))
  have HE : Hid (roomB V L caps f a = (fitsF V L caps f && isV (2 * (n : Int)) a)) := by rw [Hid, roomB, h.len]
  clear h hx hy
  go_enter Try.func84, Try.ntmps84
  go_wp2_with fail
  refine (fits_any V A n c L X p d caps Y q e0 f _ HR1.out (by simp; omega) HX1.out (by simp; omega) HY1.out (by simp; omega)).mono ?_
  rintro e w1 ⟨rfl, g1⟩
  obtain ⟨g, o2⟩ := box1 [.int .i64 V, .slice A n c] g1
  obtain ⟨c0, c1⟩ := o2.two
  have G := Lib.hid g
  clear g g1 o2 HR1 HX1 HY1
  cases hf : fitsF V L caps f
  · have E := Lib.hid (room_no (V := V) (L := L) (caps := caps) (f := f) (a := a) (by rw [HE.out, hf]; rfl))
    clear HE hf
    go_wp2
    go_ret2
    exact ⟨ret_two E.out.1 E.out.2, G.out⟩
  rw [hf, Bool.true_and] at HE
  obtain ⟨f1, f2, f3, f4⟩ := fits_parts hf
  have hpn : p = n := by have := (capsB_parts f2).1; have := HL.out; have := HLX.out; omega
  have hqn : q = n := by have := (capsB_parts f4).1; have := HL.out; have := HLY.out; omega
  subst hpn hqn
  have H16 := Lib.hid (may_8 f1 HL.out).2
  have HRT := Lib.hid f3
  clear hf f1 f2 f3 f4
  go_wp2_with fail
  refine (Arc1_any V a A q c _ rfl (by have := H16.out; omega)).mono ?_
  rintro e w2 ⟨rfl, g2⟩
  have G := Lib.hid (grown_trans G.out g2)
  clear g2 c0 c1
  cases hs : isV (2 * (q : Int)) a
  · have E := Lib.hid (room_no (V := V) (L := L) (caps := caps) (f := f) (a := a) (by rw [HE.out, hs]))
    clear HE hs
    go_wp2
    go_ret2
    exact ⟨ret_two E.out.1 E.out.2, G.out⟩
  have E := Lib.hid (room_yes (V := V) (L := L) (caps := caps) (f := f) (a := a) (by rw [HE.out, hs]))
  have HA := Lib.hid hs
  clear HE hs
  go_wp2_with fail
  refine (room_any X q d caps Y e0 f a _ (HX.out.grown hB' G.out) (HY.out.grown hB'' G.out) HA.out HRT.out).mono ?_
  rintro e w3 ⟨rfl, g3⟩
  have G := Lib.hid (grown_trans G.out g3)
  clear g3
  go_wp2
  go_ret2
  exact ⟨ret_two E.out.1 E.out.2, G.out⟩

end Go.Proofs.Ytlpohlcmjnlbhaa

set_option maxRecDepth 20000
namespace Go.Proofs.Ytlpohlcmjnlbhaa
open Go.RowKit

def FlRel (w : World) (V : Int) (A : Option Addr) (n c : Nat) (L : List Lk) (f : List Int) (s t : Int) (N : Nat) (i : Value) (wr : World) : Prop :=
  ∃ k : Nat, k ≤ N ∧ i = .int .i64 (k : Nat) ∧ w.grownBy wr none ∧ Own wr w.heap.size 24 [.int .i64 V, .slice A n c] ∧ (List.range k).all (restB L f s t) = true

theorem rest_src {L : List Lk} {f : List Int} {s t : Int} {k : Nat} (h : (k : Int) = s) : restB L f s t k = true := by simp [restB, h]
theorem rest_dst {L : List Lk} {f : List Int} {s t : Int} {k : Nat} (h : (k : Int) = t) : restB L f s t k = true := by simp [restB, h]
theorem rest_gain {L : List Lk} {f : List Int} {s t : Int} {k : Nat} (h : gainOf L f k = 0) : restB L f s t k = true := by simp [restB, h]
theorem rest_no {L : List Lk} {f : List Int} {s t : Int} {k : Nat} (h : ¬ (k : Int) = s) (h2 : ¬ (k : Int) = t) (h3 : ¬ gainOf L f k = 0) : restB L f s t k = false := by simp [restB, h, h2, h3]
theorem rest_more {L : List Lk} {f : List Int} {s t : Int} {k : Nat} (h : (List.range k).all (restB L f s t) = true) (e : restB L f s t k = true) : (List.range (k + 1)).all (restB L f s t) = true := by rw [range_next, h, e]; rfl

set_option maxHeartbeats 2000000 in
theorem FMay_any (V s t : Int) (A : Option Addr) (n c : Nat) (L : List Lk) (X : Option Addr) (p d : Nat) (caps : List Int) (Y : Option Addr) (q e0 : Nat) (f : List Int) (w : World) {B B' B'' : Nat} (h : Lks w B A n L) (hB : B ≤ w.heap.size) (hx : Row w B' X p caps) (hB' : B' ≤ w.heap.size) (hy : Row w B'' Y q f) (hB'' : B'' ≤ w.heap.size) :
    Calls Try.prog 45 #[.agg #[.int .i64 V, .slice A n c], .slice X p d, .slice Y q e0, .int .i64 s, .int .i64 t] w (Says w (.bool (flowB V L caps f s t))) := by
  have HL := Lib.hid h.len
  have HR := Lib.hid h
  have HY := Lib.hid hy
  have HR1 := Lib.hid (h.grown hB (grow0 w (.cells #[.int .i64 V, .slice A n c] 24)))
  have HX1 := Lib.hid (hx.grown hB' (grow0 w (.cells #[.int .i64 V, .slice A n c] 24)))
  have HY1 := Lib.hid (hy.grown hB'' (grow0 w (.cells #[.int .i64 V, .slice A n c] 24)))
  have HE : Hid (flowB V L caps f s t = (fitsF V L caps f && (isV V s && isV V t) && !(s == t) && decide (0 ≤ gainOf L f s) && (List.range V.toNat).all (restB L f s t))) := rfl
  clear h hx hy
  go_enter Try.func45, Try.ntmps45
  go_wp2_with fail
  refine (fits_any V A n c L X p d caps Y q e0 f _ HR1.out (by simp; omega) HX1.out (by simp; omega) HY1.out (by simp; omega)).mono ?_
  rintro e w1 ⟨rfl, g1⟩
  obtain ⟨g, o2⟩ := box1 [.int .i64 V, .slice A n c] g1
  obtain ⟨c0, c1⟩ := o2.two
  have G := Lib.hid g
  have O2 := Lib.hid o2
  clear g g1 o2 HR1 HX1 HY1
  cases hf : fitsF V L caps f
  · have E : Hid (flowB V L caps f s t = false) := by rw [Hid, HE.out, hf]; rfl
    clear HE hf
    go_wp2
    go_ret
    exact ⟨ret_bool E.out, G.out⟩
  rw [hf, Bool.true_and] at HE
  obtain ⟨f1, f2, f3, f4⟩ := fits_parts hf
  have hV := may_small f1
  have HMAY := Lib.hid f1
  have HCAP := Lib.hid f4
  clear hf f1 f2 f3 f4
  go_wp2_with fail
  refine (Vert2_any V s t A n c _ rfl).mono ?_
  rintro e w2 ⟨rfl, g2⟩
  have G := Lib.hid (grown_trans G.out g2)
  have O2 := Lib.hid (O2.out.kept g2)
  clear g2 c0 c1
  obtain ⟨c0, c1⟩ := O2.out.two
  cases hst : (isV V s && isV V t)
  · have E : Hid (flowB V L caps f s t = false) := by rw [Hid, HE.out, hst]; rfl
    clear HE hst
    go_wp2
    go_ret
    exact ⟨ret_bool E.out, G.out⟩
  rw [hst, Bool.true_and] at HE
  clear hst
  by_cases he : s = t
  · have E : Hid (flowB V L caps f s t = false) := by rw [Hid, HE.out, he]; simp
    clear HE
    subst he
    have q1 : (s == s) = true := by simp
    go_wp2
    go_ret
    exact ⟨ret_bool E.out, G.out⟩
  have q1 : (s == t) = false := by simp [he]
  rw [q1, Bool.not_false, Bool.true_and] at HE
  obtain ⟨N, rfl⟩ : ∃ N : Nat, V = (N : Int) := ⟨V.toNat, by omega⟩
  have HE2 : Hid (flowB (N : Int) L caps f s t = (decide (0 ≤ gainOf L f s) && (List.range N).all (restB L f s t))) := by rw [Hid, HE.out]; rfl
  have hN : N ≤ 8 := by omega
  have HS : Hid (FlRel w N A n c L f s t N (.int .i64 0) w2) := ⟨0, Nat.zero_le _, rfl, G.out, O2.out, rfl⟩
  clear HE G O2 hV
  go_wp2
  go_loopw [32] (fun i wr => FlRel w N A n c L f s t N i wr) (fun i _ => N - (intOf i).toNat)
  case atStart => exact HS.out
  case round =>
    clear HS c0 c1
    obtain ⟨k, hk, rfl, hg, ob, hall⟩ := hrel
    have G := Lib.hid hg
    have HA := Lib.hid hall
    obtain ⟨c0, c1⟩ := ob.two
    have O := Lib.hid ob
    clear hg ob hall
    by_cases hlt : k < N
    · by_cases hs : (k : Int) = s
      · have E := Lib.hid (rest_more HA.out (rest_src (L := L) (f := f) (t := t) hs))
        clear HA he
        have q2 : ((k : Int) != s) = false := by simp [hs]
        clear hs
        go_wp2
        go_roundw
        case rel => exact ⟨k + 1, by omega, by go_num, G.out, O.out, E.out⟩
        case measure => simp [intOf]; omega
      have q2 : ((k : Int) != s) = true := by simp [hs]
      by_cases ht : (k : Int) = t
      · have E := Lib.hid (rest_more HA.out (rest_dst (L := L) (f := f) (s := s) ht))
        clear HA he hs
        have q3 : ((k : Int) != t) = false := by simp [ht]
        clear ht
        go_wp2
        go_roundw
        case rel => exact ⟨k + 1, by omega, by go_num, G.out, O.out, E.out⟩
        case measure => simp [intOf]; omega
      have q3 : ((k : Int) != t) = true := by simp [ht]
      have HNS := Lib.hid hs
      have HNT := Lib.hid ht
      clear hs ht
      go_wp2_with fail
      refine (gain_any N A n c L Y q e0 f k _ (HR.out.grown hB G.out) (HY.out.grown hB'' G.out) HMAY.out HCAP.out).mono ?_
      rintro e w4 ⟨rfl, g4⟩
      have G := Lib.hid (grown_trans G.out g4)
      have O := Lib.hid (O.out.kept g4)
      clear g4 c0 c1
      by_cases hz : gainOf L f k = 0
      · have E := Lib.hid (rest_more HA.out (rest_gain (s := s) (t := t) hz))
        rw [hz]
        clear hz HA
        go_wp2
        go_roundw
        case rel => exact ⟨k + 1, by omega, by go_num, G.out, O.out, E.out⟩
        case measure => simp [intOf]; omega
      · have E : Hid (flowB N L caps f s t = false) := by
          rw [Hid, HE2.out, range_stop hlt (rest_no HNS.out HNT.out hz)]; simp
        have q4 : (gainOf L f k != 0) = true := by simp [hz]
        clear hz HE2 HA
        generalize gainOf L f k = x at *
        go_wp2
        go_ret
        exact ⟨ret_bool E.out, G.out⟩
    · obtain rfl : k = N := by omega
      have E : Hid (flowB k L caps f s t = decide (0 ≤ gainOf L f s)) := by rw [Hid, HE2.out, HA.out, Bool.and_true]
      clear HE2 HA
      go_wp2_with fail
      refine (gain_any k A n c L Y q e0 f s _ (HR.out.grown hB G.out) (HY.out.grown hB'' G.out) HMAY.out HCAP.out).mono ?_
      rintro e w4 ⟨rfl, g4⟩
      have G := Lib.hid (grown_trans G.out g4)
      clear g4 c0 c1
      by_cases hz : 0 ≤ gainOf L f s
      · have E2 : Hid (flowB k L caps f s t = true) := by rw [Hid, E.out]; simp [hz]
        clear E
        generalize gainOf L f s = x at *
        go_wp2
        go_ret
        exact ⟨ret_bool E2.out, G.out⟩
      · generalize gainOf L f s = x at *
        go_wp2
        go_ret
        exact ⟨ret_bool E.out, G.out⟩

end Go.Proofs.Ytlpohlcmjnlbhaa

set_option maxRecDepth 20000
namespace Go.Proofs.Ytlpohlcmjnlbhaa
open Go.RowKit

def ClonePost (w : World) (n : Nat) (xs : List Int) (e : Ending) (w' : World) : Prop := ∃ v, e = .returned v ∧ Mine w' w.heap.size v n xs ∧ w.grownBy w' none

set_option maxRecDepth 20000 in
theorem Clone_any (A : Option Addr) (n c : Nat) (xs : List Int) (w : World) {B : Nat} (h : Row w B A n xs) (hB : B ≤ w.heap.size) (hr : n * 8 ≤ 140737488355328) :
    Calls Try.prog 76 #[.slice A n c] w (ClonePost w n xs) := by
  cases A with
  | none =>
    have hm : n = 0 := by
      rcases Nat.eq_zero_or_pos n with h0 | h0
      · exact h0
      · obtain ⟨b, off, h, _⟩ := h.at_ h0
        cases h
    subst hm
    have hx : xs = [] := List.eq_nil_of_length_eq_zero h.len
    subst hx
    clear h
    have hq : (binOp .eql 25 (.slice none 0 c) (.slice none 0 0)).run Try.prog w = .ok (.bool true) w := Lib.run_eql_slice_nil w 25 3 none 0 c 0 0 Try.underlying25
    go_enter Try.func76, Try.ntmps76
    go_wp2
    go_ret
    exact ⟨_, rfl, Mine.nil _ _, World.grownBy.refl w none⟩
  | some ad =>
    have HM := Lib.hid (Mine.lit (w := w) (base := w.heap.size) (g := w.heap.size) (vs := #[]) [] 0 rfl rfl rfl (Nat.le_refl _) (by simp))
    have HR := Lib.hid (h.grown hB (grow0 w (.cells #[] 3)))
    have hq : (binOp .eql 25 (.slice (some ad) n c) (.slice none 0 0)).run Try.prog w = .ok (.bool false) w := Lib.run_eql_slice_nil w 25 3 (some ad) n c 0 0 Try.underlying25
    clear h
    go_enter Try.func76, Try.ntmps76
    go_wp2_with (first | (at_builtin; refine wpList_app _ rfl _ _ rfl w.heap.size _ _ _ rfl HM.out _ n c xs rfl HR.out (by simp) (by omega) (by simp) ?_))
    intro v1 w3 hm1 hg3 _
    have G3 := Lib.hid (grown_none (grow0 w (.cells #[] 3)) hg3 (fun g hg => HM.out.own_ge g hg))
    have HM3 := Lib.hid hm1
    clear hm1 hg3
    go_wp2
    go_ret
    exact ⟨_, rfl, by simpa using HM3.out, G3.out⟩

theorem rateF_no0 {b : Int} (h : b < 0) : rateF b = false := by simp [rateF]; omega
theorem rateF_no1 {b : Int} (h : 4611686018427387904 < b) : rateF b = false := by simp [rateF]; omega
theorem rateF_yes {b : Int} (h : ¬ b < 0) (k : ¬ 4611686018427387904 < b) : rateF b = true := by simp [rateF]; omega

theorem RRateF_any (b : Int) (w : World) : Calls Try.prog 53 #[.int .i64 b] w (Says w (.bool (rateF b))) := by
  by_cases h0 : b < 0
  · have E := Lib.hid (rateF_no0 h0)
    go_enter Try.func53, Try.ntmps53
    go_wp2
    go_ret
    exact ⟨ret_bool E.out, World.grownBy.refl w none⟩
  · by_cases h1 : 4611686018427387904 < b
    · have E : Hid (rateF b = decide (b ≤ 4611686018427387904)) := by rw [Hid, rateF_no1 h1]; simp; omega
      go_enter Try.func53, Try.ntmps53
      go_wp2
      go_ret
      exact ⟨ret_bool E.out, World.grownBy.refl w none⟩
    · have E := Lib.hid (rateF_yes h0 h1)
      go_enter Try.func53, Try.ntmps53
      go_wp2
      go_ret
      exact ⟨ret_bool E.out, World.grownBy.refl w none⟩

def MvRel (w1 : World) (b : Int) (n m : Nat) (caps f rs : List Int) (Av : Option Addr) (cv : Nat) (i : Value) (wr : World) : Prop :=
  ∃ (k : Nat) (g : List Int), k ≤ m ∧ i = .int .i64 (k : Nat) ∧ w1.grownBy wr none ∧ Mine wr w1.heap.size (.slice Av n cv) n g ∧ ratesB caps g = true ∧ movK caps b g (rs.drop k) = movK caps b f rs

theorem form_fits {V : Int} {L : List Lk} {caps f rs : List Int} {b : Int} (h : fitsF V L caps f = false) : formM V L caps f b rs = false := by simp [formM, h]
theorem form_rate {V : Int} {L : List Lk} {caps f rs : List Int} {b : Int} (h : rateF b = false) : formM V L caps f b rs = false := by simp [formM, h]
theorem form_many {V : Int} {L : List Lk} {caps f rs : List Int} {b : Int} (h : ¬ rs.length ≤ 64) : formM V L caps f b rs = false := by simp [formM, h]
theorem form_arcs {V : Int} {L : List Lk} {caps f rs : List Int} {b : Int} (h : allV (2 * (L.length : Int)) rs = false) : formM V L caps f b rs = false := by simp [formM, h]
theorem form_move {V : Int} {L : List Lk} {caps f rs : List Int} {b : Int} (h : fitsF V L caps f = true) (h1 : rateF b = true) (h2 : rs.length ≤ 64) (h3 : allV (2 * (L.length : Int)) rs = true) : formM V L caps f b rs = true := by simp [formM, h, h1, h2, h3]

theorem new_even {f : List Int} {b a : Int} {i : Nat} (hi : (a / 2).toNat = i) (h : a % 2 = 0) : f.set (a / 2).toNat (newI f b a) = f.set i (f[i]?.getD 0 + b) := by simp [newI, hi, h]
theorem new_odd {f : List Int} {b a : Int} {i : Nat} (hi : (a / 2).toNat = i) (h : a % 2 = 1) : f.set (a / 2).toNat (newI f b a) = f.set i (f[i]?.getD 0 - b) := by simp [newI, hi, h]

theorem rates_ok2 {caps f : List Int} (h : ratesB caps f = true) (ho : okI caps) : okI f := by
  intro i
  by_cases hi : i < f.length
  · have h1 := rates_at h (i := i) (by have := (ratesB_parts h).1; omega)
    have := ho i
    omega
  · rw [List.getElem?_eq_none (by omega)]
    simp

end Go.Proofs.Ytlpohlcmjnlbhaa
