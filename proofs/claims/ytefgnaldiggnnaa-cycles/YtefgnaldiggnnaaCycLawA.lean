/-
  The law Cycles, walked.
-/
import Derived.Test.YtefgnaldiggnnaaCycG
set_option maxRecDepth 20000
namespace Go.Proofs.Ytefgnaldiggnnaa
open Go.RowKit

theorem turns_okI {L : List Lk} {f ls : List Int} {n : Nat} (h : TurnsIs L f ls) (hl : L.length = n) (hn : n ≤ 16) : okI ls := by
  intro i
  by_cases hi : i < ls.length
  · obtain ⟨a, b, _⟩ := h.has i hi
    omega
  · rw [List.getElem?_eq_none (by omega)]
    simp

set_option maxHeartbeats 4000000 in
theorem Cycles_walk (V : Int) (A : Option Addr) (n c : Nat) (ls : List Lk) (X : Option Addr) (m d : Nat) (f : List Int) (w : World) (h : InG w A n c ls) (hX : In w X m d f) :
    Calls Try.prog 3 #[.agg #[.int .i64 V, .slice A n c], .slice X m d] w (LawPost w) := by
  obtain ⟨hs, hnc, hc, hnil⟩ := h
  obtain ⟨hx, hpd, hd, hnilx⟩ := hX
  have HR := Lib.hid hs
  have HL := Lib.hid hs.len
  have HX := Lib.hid hx
  have HLX := Lib.hid hx.len
  have HNIX := Lib.hid hnilx
  have HX1 := Lib.hid (hx.grown (Nat.le_refl _) (grow0 w (.cells #[.int .i64 V, .slice A n c] 24)))
  clear hs hnil hx hnilx
  go_enter Try.func3, Try.ntmps3
  go_wp2_with fail
  refine (LendInts_any X m d f _ HX1.out (by simp) HNIX.out (by omega)).mono ?_
  rintro e w1 ⟨gl, cl, rfl, hcl, hrow, bel⟩
  obtain ⟨g1, ob⟩ := box1 [.int .i64 V, .slice A n c] (grown_of_below bel)
  have RX := Lib.hid hrow
  have G := Lib.hid g1
  have OB := Lib.hid ob
  have HCL := Lib.hid hcl
  clear bel g1 ob hrow HX1 hcl
  obtain ⟨p0, p1⟩ := OB.out.two
  go_wp2_with fail
  refine (Find_any V A n c ls (some ⟨gl, 0, none⟩) m cl f _ (HR.out.grown (Nat.le_refl _) G.out) G.out.size (RX.out.unmark HLX.out) (Nat.le_refl _)).mono ?_
  rintro e w2 ⟨ks, is, z, hb, v2, rfl, h2, k⟩
  have HB := Lib.hid hb
  have M2 := Lib.hid h2
  have hba := h2.own_ge
  have hlg := G.out.size
  have s2 := k.size
  have G := Lib.hid (grown_trans G.out k)
  have OB := Lib.hid (OB.out.kept k)
  have RX := Lib.hid (RX.out.grown (Nat.le_refl _) k)
  clear k p0 p1 hb h2
  obtain ⟨p0, p1⟩ := OB.out.two
  go_wp2_with fail
  refine (RFine14_any V A n c ls X m d f _ (HR.out.grown (Nat.le_refl _) G.out) G.out.size (HX.out.grown (Nat.le_refl _) G.out) G.out.size).mono ?_
  rintro e w3 ⟨rfl, k⟩
  have s3 := k.size
  have G := Lib.hid (grown_trans G.out k)
  have OB := Lib.hid (OB.out.kept k)
  have RX := Lib.hid (RX.out.grown s2 k)
  have M2 := Lib.hid (M2.out.kept k)
  clear k p0 p1
  obtain ⟨p0, p1⟩ := OB.out.two
  rcases HB.out with ⟨hf, rfl, ht⟩ | ⟨hf, rfl, rfl, rfl⟩
  case inr =>
    rw [hf]
    obtain ⟨Ab, cb, rfl, _⟩ := M2.out.sl
    clear hf HB
    go_wp2_with fail
    refine (awake14_any _).mono ?_
    rintro e w4 ⟨rfl, k⟩
    have G := Lib.hid (grown_trans G.out k)
    clear k
    go_wp2_with fail
    refine (num_says _ _).mono ?_
    rintro e w5 ⟨rfl, k⟩
    have G := Lib.hid (grown_trans G.out k)
    clear k
    go_wp2
    go_ret
    exact ⟨rfl, below_of G.out⟩
  rw [hf]
  rw [Bool.and_eq_true] at hf
  obtain ⟨hm, hcb⟩ := hf
  have h16 := may_small hm
  rw [HL.out] at h16
  obtain ⟨vn, rfl⟩ : ∃ vn : Nat, V = (vn : Nat) := ⟨V.toNat, by omega⟩
  have hmn : m = n := by have := (capsB_parts hcb).1; have := HL.out; have := HLX.out; omega
  subst hmn
  have HMAY := Lib.hid hm
  clear hm hcb HB
  go_wp2_with fail
  refine (num_says _ _).mono ?_
  rintro e w4 ⟨rfl, k⟩
  have s4 := k.size
  have G := Lib.hid (grown_trans G.out k)
  have OB := Lib.hid (OB.out.kept k)
  have RX := Lib.hid (RX.out.grown (by omega) k)
  have M2 := Lib.hid (M2.out.kept k)
  clear k p0 p1
  obtain ⟨p0, p1⟩ := OB.out.two
  have HT := Lib.hid ht
  clear ht
  go_wp2_with fail
  refine (RCyclic_any vn A m c ls X m d f _ (HR.out.grown (Nat.le_refl _) G.out) G.out.size (HX.out.grown (Nat.le_refl _) G.out) HMAY.out rfl).mono ?_
  rintro e w5 ⟨zc, rfl, hz, k⟩
  have s5 := k.size
  have G := Lib.hid (grown_trans G.out k)
  have OB := Lib.hid (OB.out.kept k)
  have RX := Lib.hid (RX.out.grown (by omega) k)
  have M2 := Lib.hid (M2.out.kept k)
  clear k p0 p1
  obtain ⟨p0, p1⟩ := OB.out.two
  rcases HT.out with ⟨rfl, ht⟩ | ⟨rfl, rfl, ht⟩
  · obtain rfl : zc = true := hz.2 (turns_cyc ht)
    have OKK := Lib.hid (turns_okI ht HL.out (by omega))
    have TI := Lib.hid ht
    obtain ⟨Ab, cb, rfl, _, _, rK⟩ := M2.out.rowN OKK.out
    have RK := Lib.hid rK
    have hk2 := ht.two
    obtain ⟨kl, hkl⟩ : ∃ kl, ks.length = kl := ⟨_, rfl⟩
    rw [hkl] at hk2 RK M2 hba
    rw [hkl]
    clear hz ht rK HT hkl
    go_wp2_with fail
    refine (RTurns_any vn A m c ls X d f Ab kl cb ks _ (HR.out.grown (Nat.le_refl _) G.out) (HX.out.grown (Nat.le_refl _) G.out) RK.out HMAY.out TI.out).mono ?_
    rintro e w6 ⟨rfl, k⟩
    have s6 := k.size
    have G := Lib.hid (grown_trans G.out k)
    have RX := Lib.hid (RX.out.grown (by omega) k)
    have M2 := Lib.hid (M2.out.kept k)
    clear k p0 p1 OB
    go_wp2_with fail
    refine (SpoilInts_any (.slice Ab kl cb) kl ks _ M2.out).mono ?_
    rintro e w7 ⟨rfl, k⟩
    have s7 := k.size
    have G := Lib.hid (grown_none G.out k (fun g hg => by have := hba g hg; omega))
    have RX := Lib.hid (RX.out.grown' (by omega) k hba)
    clear k RK M2
    go_wp2_with fail
    refine (awake14_any _).mono ?_
    rintro e w8 ⟨rfl, k⟩
    have G := Lib.hid (grown_trans G.out k)
    have RX := Lib.hid (RX.out.grown (by omega) k)
    clear k
    go_wp2_with fail
    refine (KeptInts_any gl m cl f X d _ RX.out HLX.out HCL.out (HX.out.grown (Nat.le_refl _) G.out)).mono ?_
    rintro e w9 ⟨rfl, j, rfl⟩
    go_wp2
    go_ret
    exact ⟨rfl, below_of (grown_drewN G.out _)⟩
  · obtain rfl : zc = false := by
      cases zc
      · rfl
      · exact absurd (hz.1 rfl) ht
    obtain ⟨Ab, cb, rfl, _⟩ := M2.out.sl
    clear hz ht HT
    go_wp2_with fail
    refine (SpoilInts_any (.slice Ab 0 cb) 0 [] _ M2.out).mono ?_
    rintro e w7 ⟨rfl, k⟩
    have s7 := k.size
    have G := Lib.hid (grown_none G.out k (fun g hg => by have := hba g hg; omega))
    have RX := Lib.hid (RX.out.grown' (by omega) k hba)
    clear k M2
    go_wp2_with fail
    refine (awake14_any _).mono ?_
    rintro e w8 ⟨rfl, k⟩
    have G := Lib.hid (grown_trans G.out k)
    have RX := Lib.hid (RX.out.grown (by omega) k)
    clear k
    go_wp2_with fail
    refine (KeptInts_any gl m cl f X d _ RX.out HLX.out HCL.out (HX.out.grown (Nat.le_refl _) G.out)).mono ?_
    rintro e w9 ⟨rfl, j, rfl⟩
    go_wp2
    go_ret
    exact ⟨rfl, below_of (grown_drewN G.out _)⟩

end Go.Proofs.Ytefgnaldiggnnaa
