/-
  Paths or a cut: the program's Route, walked.
-/
import Derived.Test.YtlpohlcmjnlbhaaRouteA
import Derived.Test.YtlpohlcmjnlbhaaMostA
import Derived.Test.YtlpohlcmjnlbhaaReachP
import Derived.Test.YtlpohlcmjnlbhaaStrandP
set_option maxRecDepth 20000
namespace Go.Proofs.Ytlpohlcmjnlbhaa
open Go.RowKit

theorem OwnP.wide {w : World} {base b : Nat} {v : Value} {n : Nat} {ps : List Pth} (h : OwnP w base v n ps) (hb : b ≤ base) : OwnP w b v n ps := by
  obtain ⟨hl, hs, hm, hp, ha⟩ := h
  exact ⟨hl, hs, hm.wide hb, fun j hj => ⟨(hp j hj).1, (hp j hj).2.1.wide hb, (hp j hj).2.2⟩, ha⟩

theorem routeB_psh (V : Int) (L : List Lk) (caps : List Int) (s t R : Int) : routeB V L caps s t R = (pshB V L caps s t R && !decide (R = 0)) := by
  rw [routeB, pshB]
  by_cases h : R = 0
  · subst h
    simp
  · have e : decide (1 ≤ R) = decide (0 ≤ R) := decide_eq_decide.2 (by omega)
    have e2 : decide (R = 0) = false := decide_eq_false h
    rw [e, e2]
    simp

/-- Vertices that can be reached, where less goes than is wanted, prove it. -/
theorem reach_prov {vn : Nat} {ls : List Lk} {caps b M : List Int} {s t want k : Int} (hc : capsB ls caps = true) (h : PshIs vn ls caps s t want b k) (hM : IsLv vn (Leads ls caps b (2 * ls.length)) s M) (hk : k < want) :
    provB (vn : Nat) ls caps s t want (reachL M) = true := by
  obtain ⟨h1, h2, h3, _⟩ := flow_parts h.flow
  have hm := (fits_parts h1).1
  have hlt : lvAt M t < 0 := by
    rcases h.shut with e | e
    · omega
    · exact e M hM
  have hl := hM.len
  have ms : s ∈ reachL M := (reach_mem h2.1 (by rw [hl]; exact h2.2)).2 (by rw [hM.src]; decide)
  have mt : t ∉ reachL M := fun hx => by have := (reach_mem h3.1 (by rw [hl]; exact h3.2)).1 hx; omega
  have hv : vertsB (vn : Nat) (reachL M) = true := by rw [reachL, hl]; exact verts_pick _ _
  have hlv : leavB (vn : Nat) ls (reachL M) = true := by rw [leavB, hm, hv]; rfl
  have hcut : cutB (vn : Nat) ls s t (reachL M) = true := by
    have e1 : decide (s ∈ reachL M) = true := decide_eq_true ms
    have e2 : decide (t ∈ reachL M) = false := decide_eq_false mt
    rw [cutB, hlv, e1, e2, isV_yes h3.1 h3.2]; rfl
  have hwb : worthB (vn : Nat) ls caps (reachL M) = true := by rw [worthB, hlv, hc]; rfl
  have hw : wk ls caps (reachL M) ls.length = k := by
    rw [wk_mem ls caps _ hm _ (Nat.le_refl _), ← h.val, flow_reach h.flow hM hlt]
    refine cutW_congr hm fun v hv => ?_
    have := reach_mem (M := M) (x := (v : Int)) (by omega) (by rw [hl]; omega)
    exact decide_eq_decide.2 this
  have hx : worthX (vn : Nat) ls caps (reachL M) = k := by rw [worthX, if_pos hwb, hw]
  have e : decide (k < want) = true := decide_eq_true hk
  rw [provB, hm, hc, hcut, hx, e]
  rfl

theorem rates_self {f c : List Int} (h : ratesB c f = true) (hl : f.length = c.length) : ratesB f f = true :=
  ratesB_mk rfl fun i hi => ⟨(rates_at h (by omega)).1, Int.le_refl _⟩

theorem flow_self {V : Nat} {L : List Lk} {caps f : List Int} {s t : Int} (h : flowB (V : Nat) L caps f s t = true) : flowB (V : Nat) L f f s t = true := by
  obtain ⟨f1, f2, f3, f4⟩ := fits_parts (flow_parts h).1
  have hs := rates_self f3 (ratesB_parts f3).1
  simp only [flowB, fitsF, Bool.and_eq_true] at h ⊢
  exact ⟨⟨⟨⟨⟨⟨f1, f4⟩, hs⟩, h.1.1.1.2⟩, h.1.1.2⟩, h.1.2⟩, h.2⟩

/-- Paths out of a flow that is all that is wanted. -/
theorem split_route {vn : Nat} {ls : List Lk} {caps f : List Int} {s t R z : Int} {ps : List Pth} (hc : capsB ls caps = true) (h : PshIs vn ls caps s t R f R) (hR : 0 < R) (hs : SplitIs (vn : Nat) ls f s t ps z) :
    bmay (vn : Nat) ls s t R ps = true ∧ fitsV (vn : Nat) ls caps ps = true := by
  have hf := flow_self h.flow
  obtain ⟨_, hq⟩ := split_flow hf hs
  have hb := (splitF_may hf hq).2 (by rw [h.val]; exact hR)
  rw [h.val] at hb
  refine ⟨hb, ?_⟩
  obtain ⟨f1, f2, f3, f4⟩ := fits_parts (flow_parts h.flow).1
  have hl := flow_len h.flow
  have e1 : decide (loadsE (vn : Nat) ls ps = 0) = true := decide_eq_true hq.err
  rw [fitsV, hc, e1, hq.loads]
  simp only [Bool.true_and]
  rw [underB, List.all_eq_true]
  intro i hi
  have hi2 := List.mem_range.1 hi
  rw [loadsQ_len] at hi2
  have hcl := (capsB_parts hc).1
  have a := (rates_at hq.within (i := i) (by omega)).2
  have b := (rates_at f3 (i := i) (by omega)).2
  exact decide_eq_true (by omega)

set_option maxHeartbeats 4000000 in
theorem Route_any (V s t R : Int) (A : Option Addr) (n c : Nat) (ls : List Lk) (X : Option Addr) (m d : Nat) (caps : List Int) (w : World) {B B' : Nat} (h : Lks w B A n ls) (hB : B ≤ w.heap.size) (hx : Row w B' X m caps) (hB' : B' ≤ w.heap.size) :
    Calls Try.prog 8 #[.agg #[.int .i64 V, .slice A n c], .slice X m d, .int .i64 s, .int .i64 t, .int .i64 R] w (RoutePost w V ls caps s t R) := by
  have HR := Lib.hid h
  have HX := Lib.hid hx
  have HG0 := Lib.hid (grow0 w (.cells #[.int .i64 V, .slice A n c] 24))
  clear h hx
  go_enter Try.func8, Try.ntmps8
  go_wp2_with fail
  refine (Push_any V s t R A n c ls X m d caps _ (HR.out.grown hB HG0.out) (by simp; omega) (HX.out.grown hB' HG0.out) (by simp; omega)).mono ?_
  rintro e w1 ⟨f, k, z, hb, v1, rfl, h1, g⟩
  obtain ⟨g1, ob⟩ := box1 [.int .i64 V, .slice A n c] g
  have G := Lib.hid g1
  have OB := Lib.hid ob
  have s1 := g1.size
  obtain ⟨p0, p1⟩ := OB.out.two
  obtain ⟨okf, _, _⟩ := push_okI hb
  obtain ⟨Af, cf, rfl, _, _, rf⟩ := h1.rowN okf
  have RF := Lib.hid rf
  clear g ob g1 HG0 h1 rf okf
  unfold blkV
  rcases hb with ⟨hp, rfl, hP⟩ | ⟨hp, rfl, rfl, rfl⟩
  case inr =>
    have HN : Hid (routeB V ls caps s t R = false) := by rw [Hid, routeB_psh, hp]; rfl
    clear hp
    go_wp2
    go_ret3
    exact ⟨[], [], 1600, .inr ⟨HN.out, rfl, rfl, rfl⟩, _, _, rfl, OwnP.nil _ _, Mine.nil _ _, G.out⟩
  obtain ⟨hm, hc, hs, ht, hst, hw0, hw1⟩ := pshB_parts hp
  obtain ⟨vn, rfl⟩ : ∃ vn : Nat, V = (vn : Nat) := ⟨V.toNat, by have := may_small hm; omega⟩
  rw [Int.toNat_natCast] at hP
  by_cases h0 : R = 0
  · subst h0
    have HN : Hid (routeB (vn : Nat) ls caps s t 0 = false) := by rw [Hid, routeB_psh, hp]; rfl
    clear hp hP hm hc
    go_wp2
    go_ret3
    exact ⟨[], [], 1600, .inr ⟨HN.out, rfl, rfl, rfl⟩, _, _, rfl, OwnP.nil _ _, Mine.nil _ _, G.out⟩
  have HB : Hid (routeB (vn : Nat) ls caps s t R = true) := by
    have e : decide (R = 0) = false := decide_eq_false h0
    rw [Hid, routeB_psh, hp, e]; rfl
  have hk := hP.high
  by_cases hlt : k < R
  · obtain ⟨M, hM⟩ := lev_there (caps := caps) (f := f) hm rfl (V := vn) (s := s) ⟨hs.1, hs.2⟩
    have HV : Hid (provB (vn : Nat) ls caps s t R (reachL M) = true) := reach_prov hc hP hM hlt
    have hlv : lvB (vn : Nat) ls caps f s = true := by
      rw [lvB, (flow_parts hP.flow).1, Bool.true_and]
      exact isV_yes hs.1 hs.2
    have HL := Lib.hid (lev_yes hlv rfl hM)
    clear hp hP hM hlv hm hc
    go_wp2_with fail
    refine (Reach_any (vn : Nat) s A n c ls X m d caps _ _ _ f _ (HR.out.grown hB G.out) (by omega) (HX.out.grown hB' G.out) (by omega) RF.out (Nat.le_refl _) M 0 HL.out).mono ?_
    rintro e w2 ⟨v2, rfl, h2, g2⟩
    have M2 := Lib.hid (h2.wide s1)
    have G := Lib.hid (grown_trans G.out g2)
    clear h2 g2
    go_wp2
    go_ret3
    exact ⟨[], reachL M, 0, .inl ⟨HB.out, rfl, .inr ⟨rfl, HV.out⟩⟩, _, _, rfl, OwnP.nil _ _, M2.out, G.out⟩
  · obtain rfl : k = R := by omega
    have HS : Hid (∀ ps z, SplitIs (vn : Nat) ls f s t ps z → bmay (vn : Nat) ls s t k ps = true ∧ fitsV (vn : Nat) ls caps ps = true) := fun ps z hs => split_route hc hP (by omega) hs
    clear hp hP hm hc
    go_wp2_with fail
    refine (Split_any (vn : Nat) s t A n c ls _ _ _ f _ (HR.out.grown hB G.out) (by omega) RF.out (Nat.le_refl _)).mono ?_
    rintro e w2 ⟨ps, z, hz, v2, rfl, h2, g2⟩
    obtain ⟨b1, b2⟩ := HS.out ps z hz
    have G := Lib.hid (grown_trans G.out g2)
    have HF := Lib.hid (And.intro b1 b2)
    have M2 := Lib.hid h2
    clear h2 g2 b1 b2 hz HS
    go_wp2
    go_ret3
    refine ⟨ps, [], 0, .inl ⟨HB.out, rfl, .inl ⟨HF.out.1, HF.out.2, rfl⟩⟩, _, _, rfl, ?_, Mine.nil _ _, G.out⟩
    exact M2.out.wide s1

end Go.Proofs.Ytlpohlcmjnlbhaa
