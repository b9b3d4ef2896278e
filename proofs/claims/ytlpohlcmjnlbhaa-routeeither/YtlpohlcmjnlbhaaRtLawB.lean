/-
  The laws RouteEither and RouteLess, walked.
-/
import Derived.Test.YtlpohlcmjnlbhaaRouteG
import Derived.Test.YtlpohlcmjnlbhaaJK
import Derived.Test.YtlpohlcmjnlbhaaJI
set_option maxRecDepth 20000
namespace Go.Proofs.Ytlpohlcmjnlbhaa
open Go.RowKit

/-- By the program's own looks: paths that fit, or vertices that prove it, never both. -/
theorem route_either {V : Int} {L : List Lk} {caps : List Int} {s t R : Int} {ps : List Pth} {vs : List Int} (h : RouteIs V L caps s t R ps vs 0) : fitsE V L caps ps = 0 ∧ provE V L caps = 0 ∧ ((bmay V L s t R ps = true ∧ fitsV V L caps ps = true ∧ provB V L caps s t R vs = false) ∨ (bmay V L s t R ps = false ∧ provB V L caps s t R vs = true)) := by
  rcases h with ⟨hr, _, h⟩ | ⟨_, e, _⟩
  · obtain ⟨hm, hc, _⟩ := routeB_parts hr
    have e1 : provE V L caps = 0 := by rw [provE, hm, hc]; rfl
    rcases h with ⟨hb, hf, rfl⟩ | ⟨rfl, hp⟩
    · obtain ⟨_, f2, _⟩ := fits_rates hf
      exact ⟨by rw [fitsE, if_pos hc, f2], e1, .inl ⟨hb, hf, prov_none⟩⟩
    · have hl : loadsE V L [] = 0 := by
        have hform : formB V L [] = true := formB_yes hm (by simp) rfl
        have hfine : fineL L.length (pairsOf []) = true := fine_nil _
        exact (loads_goes hform hfine).1
      exact ⟨by rw [fitsE, if_pos hc, hl], e1, .inr ⟨bmay_len0 rfl, hp⟩⟩
  · cases e

set_option maxHeartbeats 4000000 in
theorem RouteEither_walk (V : Int) (A : Option Addr) (n c : Nat) (ls : List Lk) (X : Option Addr) (m d : Nat) (caps : List Int) (s t R : Int) (w : World) (h : InG w A n c ls) (hX : In w X m d caps) :
    Calls Try.prog 4 #[.agg #[.int .i64 V, .slice A n c], .slice X m d, .int .i64 s, .int .i64 t, .int .i64 R] w (LawPost w) := by
  obtain ⟨hs, hnc, hc, hnil⟩ := h
  obtain ⟨hx, hpd, hd, hnilx⟩ := hX
  have HR := Lib.hid hs
  have HL := Lib.hid hs.len
  have HX := Lib.hid hx
  have HG0 := Lib.hid (grow0 w (.cells #[.int .i64 V, .slice A n c] 24))
  clear hs hnil hx hnilx
  go_enter Try.func4, Try.ntmps4
  go_wp2_with fail
  refine (Route_any V s t R A n c ls X m d caps _ (HR.out.grown (Nat.le_refl _) HG0.out) (by simp) (HX.out.grown (Nat.le_refl _) HG0.out) (by simp)).mono ?_
  rintro e w1 ⟨ps, vs, z, hb, u1, v1, rfl, h1, hv1, k⟩
  obtain ⟨g1, ob⟩ := box1 [.int .i64 V, .slice A n c] k
  obtain ⟨⟨Aa, ca, rfl, ra⟩, _, okv⟩ := route_pths hb h1
  obtain ⟨Av, cv, rfl, _, _, rv⟩ := hv1.rowN okv
  have HB := Lib.hid hb
  have RA := Lib.hid ra
  have RV := Lib.hid rv
  have G := Lib.hid g1
  have OB := Lib.hid ob
  clear k g1 ob hb h1 hv1 ra rv HG0 okv
  obtain ⟨p0, p1⟩ := OB.out.two
  unfold rouV
  go_wp2_with fail
  refine (num_says _ _).mono ?_
  rintro e w2 ⟨rfl, k⟩
  have G := Lib.hid (grown_trans G.out k)
  have OB := Lib.hid (OB.out.kept k)
  have RA := Lib.hid ((RA.out.grown (Nat.le_refl _) k).wide k.size)
  have RV := Lib.hid ((RV.out.grown (Nat.le_refl _) k).wide k.size)
  clear k p0 p1
  obtain ⟨p0, p1⟩ := OB.out.two
  have HZ : Hid (z = 0 ∨ z = 1600) := by
    rcases HB.out with ⟨_, e, _⟩ | ⟨_, e, _⟩
    · exact .inl e
    · exact .inr e
  rcases HZ.out with rfl | rfl
  case inr =>
    clear HB
    go_wp2
    go_ret
    exact ⟨rfl, below_of G.out⟩
  have h16 : n ≤ 16 := by
    rcases HB.out with ⟨hr, _⟩ | ⟨_, e, _⟩
    · have := may_small (routeB_parts hr).1
      have := HL.out
      omega
    · cases e
  obtain ⟨e1, e2, hor⟩ := route_either HB.out
  have HOR := Lib.hid hor
  have FV : Hid (fitV V ls caps ps = .tuple #[.bool (fitsV V ls caps ps), .int .i64 0]) := by rw [Hid, fitV, e1]
  have PV : Hid (prvV V ls caps s t R vs = .tuple #[.bool (provB V ls caps s t R vs), .int .i64 0]) := by rw [Hid, prvV, e2]
  clear hor e1 e2 HB HZ
  generalize ps.length = pl at *
  generalize vs.length = vl at *
  go_wp2_with fail
  refine (Fits_any V A n c ls X m d caps Aa pl ca ps _ (HR.out.grown (Nat.le_refl _) G.out) G.out.size (HX.out.grown (Nat.le_refl _) G.out) G.out.size RA.out (Nat.le_refl _) (by omega)).mono ?_
  rintro e w3 ⟨he, k⟩
  rw [FV.out] at he
  subst he
  have G := Lib.hid (grown_trans G.out k)
  have OB := Lib.hid (OB.out.kept k)
  have RA := Lib.hid ((RA.out.grown (Nat.le_refl _) k).wide k.size)
  have RV := Lib.hid ((RV.out.grown (Nat.le_refl _) k).wide k.size)
  clear k p0 p1
  obtain ⟨p0, p1⟩ := OB.out.two
  go_wp2_with fail
  refine (Proves_any V s t R A n c ls X m d caps Av vl cv vs _ (HR.out.grown (Nat.le_refl _) G.out) G.out.size (HX.out.grown (Nat.le_refl _) G.out) G.out.size RV.out (Nat.le_refl _)).mono ?_
  rintro e w4 ⟨he, k⟩
  rw [PV.out] at he
  subst he
  have G := Lib.hid (grown_trans G.out k)
  have OB := Lib.hid (OB.out.kept k)
  have RA := Lib.hid ((RA.out.grown (Nat.le_refl _) k).wide k.size)
  clear k p0 p1 RV
  obtain ⟨p0, p1⟩ := OB.out.two
  go_wp2_with fail
  refine (BMay_any V s t R A n c ls Aa pl ca ps _ (HR.out.grown (Nat.le_refl _) G.out) G.out.size RA.out (Nat.le_refl _)).mono ?_
  rintro e w5 ⟨rfl, k⟩
  have G := Lib.hid (grown_trans G.out k)
  clear k p0 p1 RA OB FV PV
  generalize bmay V ls s t R ps = b1 at *
  generalize fitsV V ls caps ps = b2 at *
  generalize provB V ls caps s t R vs = b3 at *
  go_wp2_with fail
  refine (awake16_any _).mono ?_
  rintro e w6 ⟨rfl, k⟩
  have G := Lib.hid (grown_trans G.out k)
  clear k
  go_wp2_with fail
  refine (num_says _ _).mono ?_
  rintro e w7 ⟨rfl, k⟩
  have G := Lib.hid (grown_trans G.out k)
  clear k
  go_wp2_with fail
  refine (num_says _ _).mono ?_
  rintro e w8 ⟨rfl, k⟩
  have G := Lib.hid (grown_trans G.out k)
  clear k
  rcases HOR.out with ⟨rfl, rfl, rfl⟩ | ⟨rfl, rfl⟩
  · go_wp2
    go_ret
    exact ⟨rfl, below_of G.out⟩
  · go_wp2
    go_ret
    exact ⟨rfl, below_of G.out⟩

set_option maxHeartbeats 4000000 in
theorem RouteLess_walk (V : Int) (A : Option Addr) (n c : Nat) (ls : List Lk) (X : Option Addr) (m d : Nat) (caps : List Int) (s t a b : Int) (w : World) (h : InG w A n c ls) (hX : In w X m d caps) :
    Calls Try.prog 5 #[.agg #[.int .i64 V, .slice A n c], .slice X m d, .int .i64 s, .int .i64 t, .int .i64 a, .int .i64 b] w (LawPost w) := by
  obtain ⟨hs, hnc, hc, hnil⟩ := h
  obtain ⟨hx, hpd, hd, hnilx⟩ := hX
  have HR := Lib.hid hs
  have HX := Lib.hid hx
  have HG0 := Lib.hid (grow0 w (.cells #[.int .i64 V, .slice A n c] 24))
  clear hs hnil hx hnilx
  by_cases hab : b < a
  · go_enter Try.func5, Try.ntmps5
    go_wp2
    go_ret
    exact ⟨rfl, below_of HG0.out⟩
  go_enter Try.func5, Try.ntmps5
  go_wp2_with fail
  refine (Route_any V s t a A n c ls X m d caps _ (HR.out.grown (Nat.le_refl _) HG0.out) (by simp) (HX.out.grown (Nat.le_refl _) HG0.out) (by simp)).mono ?_
  rintro e w1 ⟨ps, vs, z, hb, u1, v1, rfl, h1, _, k⟩
  obtain ⟨g1, ob⟩ := box1 [.int .i64 V, .slice A n c] k
  obtain ⟨Aa, ca, rfl⟩ := h1.sl
  have HB := Lib.hid hb
  have G := Lib.hid g1
  have OB := Lib.hid ob
  clear k g1 ob hb h1 HG0
  obtain ⟨p0, p1⟩ := OB.out.two
  unfold rouV
  go_wp2_with fail
  refine (Route_any V s t b A n c ls X m d caps _ (HR.out.grown (Nat.le_refl _) G.out) G.out.size (HX.out.grown (Nat.le_refl _) G.out) G.out.size).mono ?_
  rintro e w2 ⟨qs, us, z2, hb, u2, v2, rfl, h2, _, k⟩
  obtain ⟨Ab, cb, rfl⟩ := h2.sl
  have HB2 := Lib.hid hb
  have G := Lib.hid (grown_trans G.out k)
  clear k hb h2 p0 p1 OB
  unfold rouV
  have HZ : Hid (z = 0 ∨ z = 1600) := by
    rcases HB.out with ⟨_, e, _⟩ | ⟨_, e, _⟩
    · exact .inl e
    · exact .inr e
  have HZ2 : Hid (z2 = 0 ∨ z2 = 1600) := by
    rcases HB2.out with ⟨_, e, _⟩ | ⟨_, e, _⟩
    · exact .inl e
    · exact .inr e
  go_wp2_with fail
  refine (num_says _ _).mono ?_
  rintro e w3 ⟨rfl, k⟩
  have G := Lib.hid (grown_trans G.out k)
  clear k
  rcases HZ.out with rfl | rfl
  case inr =>
    clear HB HB2
    go_wp2
    go_ret
    exact ⟨rfl, below_of G.out⟩
  go_wp2_with fail
  refine (num_says _ _).mono ?_
  rintro e w4 ⟨rfl, k⟩
  have G := Lib.hid (grown_trans G.out k)
  clear k
  rcases HZ2.out with rfl | rfl
  case inr =>
    clear HB HB2
    go_wp2
    go_ret
    exact ⟨rfl, below_of G.out⟩
  have hor := route_less (by omega) HB.out HB2.out
  clear HB HB2
  generalize ps.length = pl at *
  generalize qs.length = ql at *
  go_wp2_with fail
  refine (awake16_any _).mono ?_
  rintro e w5 ⟨rfl, k⟩
  have G := Lib.hid (grown_trans G.out k)
  clear k
  by_cases hq : ql = 0
  · subst hq
    clear hor
    go_wp2
    go_ret
    exact ⟨rfl, below_of G.out⟩
  · have hp : 0 < pl := by omega
    have q1 : ((ql : Int) == 0) = false := by simp [hq]
    clear hor
    go_wp2
    go_ret
    exact ⟨rfl, below_of G.out⟩

end Go.Proofs.Ytlpohlcmjnlbhaa
