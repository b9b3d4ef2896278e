/-
  The law Pushes, walked: a flow, as great as is wanted, or as the least cut lets it be.
-/
import Derived.Test.YtngaabbdeefdeaaJB
import Derived.Test.YtngaabbdeefdeaaBlkB
namespace Go.Proofs.Ytngaabbdeefdeaa
open Go.RowKit

def fineB (V : Int) (ls : List Lk) (caps : List Int) (s t : Int) : Bool := mayG V ls && capsB ls caps && (isV V s && isV V t) && !(s == t)

theorem psh_fine (V : Int) (ls : List Lk) (caps : List Int) (s t want : Int) : pshB V ls caps s t want = (fineB V ls caps s t && decide (0 ≤ want) && decide (want ≤ 4611686018427387904)) := rfl

set_option maxHeartbeats 1000000 in
theorem RFine_any (V s t : Int) (A : Option Addr) (n c : Nat) (ls : List Lk) (X : Option Addr) (m d : Nat) (caps : List Int) (w : World) {B B' : Nat} (h : Lks w B A n ls) (hB : B ≤ w.heap.size) (hx : Row w B' X m caps) (hB' : B' ≤ w.heap.size) :
    Calls Try.prog 11 #[.agg #[.int .i64 V, .slice A n c], .slice X m d, .int .i64 s, .int .i64 t] w (Says w (.bool (fineB V ls caps s t))) := by
  have HG0 := Lib.hid (grow0 w (.cells #[.int .i64 V, .slice A n c] 24))
  have HR1 := Lib.hid (h.grown hB HG0.out)
  have HX1 := Lib.hid (hx.grown hB' HG0.out)
  have HE : Hid (fineB V ls caps s t = (mayG V ls && capsB ls caps && (isV V s && isV V t) && !(s == t))) := rfl
  clear h hx
  go_enter Try.func11, Try.ntmps11
  go_wp2_with fail
  refine (RCaps_any V A n c ls X m d caps _ HR1.out (by simp; omega) HX1.out).mono ?_
  rintro e w1 ⟨rfl, g1⟩
  obtain ⟨g, o2⟩ := box1 [.int .i64 V, .slice A n c] g1
  have G := Lib.hid g
  have OB := Lib.hid o2
  clear g g1 o2 HG0 HR1 HX1
  obtain ⟨p0, p1⟩ := OB.out.two
  cases hf : (mayG V ls && capsB ls caps)
  · have E : Hid (fineB V ls caps s t = false) := by rw [Hid, HE.out, hf]; rfl
    clear HE hf
    go_wp2
    go_ret
    exact ⟨ret_bool E.out, G.out⟩
  rw [hf] at HE
  clear hf
  go_wp2_with fail
  refine (RVertex_any V s A n c _).mono ?_
  rintro e w2 ⟨rfl, k⟩
  have G := Lib.hid (grown_trans G.out k)
  have OB := Lib.hid (OB.out.kept k)
  clear k p0 p1
  obtain ⟨p0, p1⟩ := OB.out.two
  cases h1 : isV V s
  · have E : Hid (fineB V ls caps s t = false) := by rw [Hid, HE.out, h1]; rfl
    clear HE h1
    go_wp2
    go_ret
    exact ⟨ret_bool E.out, G.out⟩
  rw [h1] at HE
  clear h1
  go_wp2_with fail
  refine (RVertex_any V t A n c _).mono ?_
  rintro e w3 ⟨rfl, k⟩
  have G := Lib.hid (grown_trans G.out k)
  clear k p0 p1 OB
  cases h1 : isV V t
  · have E : Hid (fineB V ls caps s t = false) := by rw [Hid, HE.out, h1]; rfl
    clear HE h1
    go_wp2
    go_ret
    exact ⟨ret_bool E.out, G.out⟩
  rw [h1] at HE
  clear h1
  by_cases he : s = t
  · have q1 : (s == t) = true := by simp [he]
    have q2 : (s != t) = false := by simp [he]
    have E : Hid (fineB V ls caps s t = false) := by rw [Hid, HE.out, q1]; rfl
    clear HE he
    go_wp2
    go_ret
    exact ⟨ret_bool E.out, G.out⟩
  · have q1 : (s == t) = false := by simp [he]
    have q2 : (s != t) = true := by simp [he]
    have E : Hid (fineB V ls caps s t = true) := by rw [Hid, HE.out, q1]; rfl
    clear HE he
    go_wp2
    go_ret
    exact ⟨ret_bool E.out, G.out⟩

set_option maxRecDepth 20000 in
set_option maxHeartbeats 4000000 in
theorem Pushes_walk (V : Int) (A : Option Addr) (n c : Nat) (ls : List Lk) (X : Option Addr) (m d : Nat) (caps : List Int) (s t want : Int) (w : World) (h : InG w A n c ls) (hX : In w X m d caps) :
    Calls Try.prog 3 #[.agg #[.int .i64 V, .slice A n c], .slice X m d, .int .i64 s, .int .i64 t, .int .i64 want] w (LawPost w) := by
  obtain ⟨hs, hnc, hc, hnil⟩ := h
  obtain ⟨hx, hpd, hd, hnilx⟩ := hX
  have HR := Lib.hid hs
  have HL := Lib.hid hs.len
  have HX := Lib.hid hx
  have HLX := Lib.hid hx.len
  have HNIX := Lib.hid hnilx
  have HX1 := Lib.hid (hx.grown (Nat.le_refl _) (grow0 w (.cells #[.int .i64 V, .slice A n c] 24)))
  clear hs hnil hx hnilx
  go_enter Try.func3, Try.ntmps3
  go_wp2_with fail
  refine (LendInts_any X m d caps _ HX1.out (by simp) HNIX.out (by omega)).mono ?_
  rintro e w1 ⟨gl, cl, rfl, hcl, hrow, bel⟩
  obtain ⟨g1, ob⟩ := box1 [.int .i64 V, .slice A n c] (grown_of_below bel)
  have RX := Lib.hid hrow
  have G := Lib.hid g1
  have OB := Lib.hid ob
  have HCL := Lib.hid hcl
  clear bel g1 ob hrow HX1 hcl
  obtain ⟨p0, p1⟩ := OB.out.two
  go_wp2_with fail
  refine (Push_any V s t want A n c ls (some ⟨gl, 0, none⟩) m cl caps _ (HR.out.grown (Nat.le_refl _) G.out) G.out.size (RX.out.unmark HLX.out) (Nat.le_refl _)).mono ?_
  rintro e w2 ⟨b, kk, z, hb, v2, rfl, h2, k⟩
  have HB := Lib.hid hb
  have M2 := Lib.hid h2
  have s2 := k.size
  have G := Lib.hid (grown_trans G.out k)
  have OB := Lib.hid (OB.out.kept k)
  have RX := Lib.hid ((RX.out.grown (Nat.le_refl _) k).wide s2)
  clear k p0 p1 hb h2 s2
  obtain ⟨p0, p1⟩ := OB.out.two
  unfold blkV
  go_wp2_with fail
  refine (RFine_any V s t A n c ls X m d caps _ (HR.out.grown (Nat.le_refl _) G.out) G.out.size (HX.out.grown (Nat.le_refl _) G.out) G.out.size).mono ?_
  rintro e w3 ⟨rfl, k⟩
  have s3 := k.size
  have G := Lib.hid (grown_trans G.out k)
  have OB := Lib.hid (OB.out.kept k)
  have RX := Lib.hid ((RX.out.grown (Nat.le_refl _) k).wide s3)
  have M2 := Lib.hid (M2.out.kept k)
  clear k p0 p1
  obtain ⟨p0, p1⟩ := OB.out.two
  have AW := Lib.hid (fun wx => awake12_any wx)
  have NS := Lib.hid (fun x wx => num_says x wx)
  rcases HB.out with ⟨hp, rfl, hk⟩ | ⟨hp, rfl, rfl, rfl⟩
  case inr =>
    obtain ⟨Ab, cb, rfl, _⟩ := M2.out.sl
    rw [psh_fine] at hp
    have HP := Lib.hid hp
    clear hp HB RX
    cases hf : fineB V ls caps s t
    · clear hf HP
      go_wp2_with fail
      refine (AW.out _).mono ?_
      rintro e w4 ⟨rfl, k⟩
      have G := Lib.hid (grown_trans G.out k)
      clear k
      go_wp2_with fail
      refine (NS.out _ _).mono ?_
      rintro e w5 ⟨rfl, k⟩
      have G := Lib.hid (grown_trans G.out k)
      clear k
      go_wp2
      go_ret
      exact ⟨rfl, below_of G.out⟩
    by_cases m0 : want < 0
    · clear hf HP
      go_wp2_with fail
      refine (AW.out _).mono ?_
      rintro e w4 ⟨rfl, k⟩
      have G := Lib.hid (grown_trans G.out k)
      clear k
      go_wp2_with fail
      refine (NS.out _ _).mono ?_
      rintro e w5 ⟨rfl, k⟩
      have G := Lib.hid (grown_trans G.out k)
      clear k
      go_wp2
      go_ret
      exact ⟨rfl, below_of G.out⟩
    by_cases m1 : 4611686018427387904 < want
    · clear hf HP
      go_wp2_with fail
      refine (AW.out _).mono ?_
      rintro e w4 ⟨rfl, k⟩
      have G := Lib.hid (grown_trans G.out k)
      clear k
      go_wp2_with fail
      refine (NS.out _ _).mono ?_
      rintro e w5 ⟨rfl, k⟩
      have G := Lib.hid (grown_trans G.out k)
      clear k
      go_wp2
      go_ret
      exact ⟨rfl, below_of G.out⟩
    exfalso
    have hp := HP.out
    have a1 : decide (0 ≤ want) = true := by simp; omega
    have a2 : decide (want ≤ 4611686018427387904) = true := by simp; omega
    rw [hf, a1, a2] at hp
    cases hp
  have hfi : fineB V ls caps s t = true := by
    rw [psh_fine] at hp
    cases q : fineB V ls caps s t
    · rw [q] at hp; cases hp
    · rfl
  obtain ⟨hm, hcb, hs1, ht1, hne, m0, m1⟩ := pshB_parts hp
  rw [hfi]
  have h8 := may_small hm
  obtain ⟨vn, rfl⟩ : ∃ vn : Nat, V = (vn : Nat) := ⟨V.toNat, by omega⟩
  obtain ⟨sn, rfl⟩ : ∃ sn : Nat, s = (sn : Nat) := ⟨s.toNat, by omega⟩
  obtain ⟨tn, rfl⟩ : ∃ tn : Nat, t = (tn : Nat) := ⟨t.toNat, by omega⟩
  rw [Int.toNat_natCast] at hk
  have hsn : sn < vn := by omega
  have htn : tn < vn := by omega
  have HMAY := Lib.hid hm
  have HCAP := Lib.hid hcb
  have HK := Lib.hid hk
  have HLE : Hid (kk = if want < leastN (okC sn tn) (wtC ls caps) (2 ^ vn) then want else leastN (okC sn tn) (wtC ls caps) (2 ^ vn)) := psh_least hk
  have OKB := Lib.hid (flow_okI hk.flow)
  have hbl := flow_len hk.flow
  have hbn : b.length = n := by rw [hbl, HL.out]
  obtain ⟨Ab, cb, rfl, _, _, rB⟩ := M2.out.rowN OKB.out
  rw [hbn] at rB ⊢
  have RB := Lib.hid rB
  have hk01 := psh_low hk
  clear hfi hm hcb hs1 ht1 hne hk hbl hbn rB M2 HB hp h8
  go_wp2_with fail
  refine (RLeast_any vn sn tn A n c ls X m d caps _ (HR.out.grown (Nat.le_refl _) G.out) G.out.size (HX.out.grown (Nat.le_refl _) G.out) G.out.size HMAY.out HCAP.out hsn htn).mono ?_
  rintro e w4 ⟨rfl, k⟩
  have s4 := k.size
  have G := Lib.hid (grown_trans G.out k)
  have OB := Lib.hid (OB.out.kept k)
  have RX := Lib.hid ((RX.out.grown (Nat.le_refl _) k).wide s4)
  have RB := Lib.hid ((RB.out.grown (Nat.le_refl _) k).wide s4)
  clear k p0 p1
  obtain ⟨p0, p1⟩ := OB.out.two
  generalize leastN (okC sn tn) (wtC ls caps) (2 ^ vn) = L0 at *
  have CF : Hid (∀ (wx : World), w.grownBy wx none → Row wx wx.heap.size Ab n b → Calls Try.prog 15 #[.agg #[.int .i64 (vn : Nat), .slice A n c], .slice X m d, .slice Ab n cb, .int .i64 (sn : Nat), .int .i64 (tn : Nat)] wx (Says wx (.bool true))) := fun wx g r => by
    have q := RFlow_any (vn : Nat) (sn : Nat) (tn : Nat) A n c ls X m d caps Ab n cb b wx (HR.out.grown (Nat.le_refl _) g) g.size (HX.out.grown (Nat.le_refl _) g) g.size r (Nat.le_refl _)
    rw [HK.out.flow] at q
    exact q
  have CG : Hid (∀ (wx : World), w.grownBy wx none → Row wx wx.heap.size Ab n b → Calls Try.prog 16 #[.agg #[.int .i64 (vn : Nat), .slice A n c], .slice Ab n cb, .int .i64 (sn : Nat)] wx (Says wx (.int .i64 kk))) := fun wx g r => by
    have q := RGain_any (vn : Nat) A n c ls Ab n cb b (sn : Nat) wx (HR.out.grown (Nat.le_refl _) g) r HMAY.out (fits_parts (flow_parts HK.out.flow).1).2.2.2
    rw [HK.out.val] at q
    exact q
  have CK : Hid (∀ (wx : World), w.grownBy wx none → Row wx wx.heap.size (some ⟨gl, 0, none⟩) (m + 2) (caps ++ [-7777, -8888]) → Calls Try.prog 17 #[.slice (some ⟨gl, 0, none⟩) m cl, .slice X m d] wx (Says wx (.bool true))) := fun wx g r => same_says (KeptInts_any gl m cl caps X d wx r HLX.out HCL.out (HX.out.grown (Nat.le_refl _) g))
  have q2 : (kk == kk) = true := by simp
  by_cases hlt : want < L0
  · have q1 : (kk == want) = true := by rw [HLE.out, if_pos hlt]; simp
    clear HLE
    go_wp2_with fail
    refine (AW.out _).mono ?_
    rintro e w5 ⟨rfl, k⟩
    have s5 := k.size
    have G := Lib.hid (grown_trans G.out k)
    have OB := Lib.hid (OB.out.kept k)
    have RX := Lib.hid ((RX.out.grown (Nat.le_refl _) k).wide s5)
    have RB := Lib.hid ((RB.out.grown (Nat.le_refl _) k).wide s5)
    clear k p0 p1
    obtain ⟨p0, p1⟩ := OB.out.two
    go_wp2_with fail
    refine (NS.out _ _).mono ?_
    rintro e w6 ⟨rfl, k⟩
    have s6 := k.size
    have G := Lib.hid (grown_trans G.out k)
    have OB := Lib.hid (OB.out.kept k)
    have RX := Lib.hid ((RX.out.grown (Nat.le_refl _) k).wide s6)
    have RB := Lib.hid ((RB.out.grown (Nat.le_refl _) k).wide s6)
    clear k p0 p1
    obtain ⟨p0, p1⟩ := OB.out.two
    go_wp2_with fail
    refine (CF.out _ G.out RB.out).mono ?_
    rintro e w7 ⟨rfl, k⟩
    have s7 := k.size
    have G := Lib.hid (grown_trans G.out k)
    have OB := Lib.hid (OB.out.kept k)
    have RX := Lib.hid ((RX.out.grown (Nat.le_refl _) k).wide s7)
    have RB := Lib.hid ((RB.out.grown (Nat.le_refl _) k).wide s7)
    clear k p0 p1
    obtain ⟨p0, p1⟩ := OB.out.two
    go_wp2_with fail
    refine (CG.out _ G.out RB.out).mono ?_
    rintro e w8 ⟨rfl, k⟩
    have s8 := k.size
    have G := Lib.hid (grown_trans G.out k)
    have RX := Lib.hid ((RX.out.grown (Nat.le_refl _) k).wide s8)
    clear k p0 p1 OB
    go_wp2_with fail
    refine (CK.out _ G.out RX.out).mono ?_
    rintro e w9 ⟨rfl, k⟩
    have G := Lib.hid (grown_trans G.out k)
    clear k
    go_wp2
    go_ret
    exact ⟨rfl, below_of G.out⟩
  · have q1 : (kk == L0) = true := by rw [HLE.out, if_neg hlt]; simp
    clear HLE
    go_wp2_with fail
    refine (AW.out _).mono ?_
    rintro e w5 ⟨rfl, k⟩
    have s5 := k.size
    have G := Lib.hid (grown_trans G.out k)
    have OB := Lib.hid (OB.out.kept k)
    have RX := Lib.hid ((RX.out.grown (Nat.le_refl _) k).wide s5)
    have RB := Lib.hid ((RB.out.grown (Nat.le_refl _) k).wide s5)
    clear k p0 p1
    obtain ⟨p0, p1⟩ := OB.out.two
    go_wp2_with fail
    refine (NS.out _ _).mono ?_
    rintro e w6 ⟨rfl, k⟩
    have s6 := k.size
    have G := Lib.hid (grown_trans G.out k)
    have OB := Lib.hid (OB.out.kept k)
    have RX := Lib.hid ((RX.out.grown (Nat.le_refl _) k).wide s6)
    have RB := Lib.hid ((RB.out.grown (Nat.le_refl _) k).wide s6)
    clear k p0 p1
    obtain ⟨p0, p1⟩ := OB.out.two
    go_wp2_with fail
    refine (CF.out _ G.out RB.out).mono ?_
    rintro e w7 ⟨rfl, k⟩
    have s7 := k.size
    have G := Lib.hid (grown_trans G.out k)
    have OB := Lib.hid (OB.out.kept k)
    have RX := Lib.hid ((RX.out.grown (Nat.le_refl _) k).wide s7)
    have RB := Lib.hid ((RB.out.grown (Nat.le_refl _) k).wide s7)
    clear k p0 p1
    obtain ⟨p0, p1⟩ := OB.out.two
    go_wp2_with fail
    refine (CG.out _ G.out RB.out).mono ?_
    rintro e w8 ⟨rfl, k⟩
    have s8 := k.size
    have G := Lib.hid (grown_trans G.out k)
    have RX := Lib.hid ((RX.out.grown (Nat.le_refl _) k).wide s8)
    clear k p0 p1 OB
    go_wp2_with fail
    refine (CK.out _ G.out RX.out).mono ?_
    rintro e w9 ⟨rfl, k⟩
    have G := Lib.hid (grown_trans G.out k)
    clear k
    go_wp2
    go_ret
    exact ⟨rfl, below_of G.out⟩

end Go.Proofs.Ytngaabbdeefdeaa
