/-
  slices.Index, slices.Contains, the reference's links and twice. path.Walk. The reference's Walk. path.May, and the reference's PathMay. path.Simple. The reference's Simple. small and awake of layer 6. The law PathSimples, walked.
-/
import Derived.Test.YtlpohlcmjnlbhaaJC
import Derived.Test.YtlpohlcmjnlbhaaJA

set_option maxRecDepth 20000
namespace Go.Proofs.Ytlpohlcmjnlbhaa
open Go.RowKit

def IdxRel (w : World) (n : Nat) (x : Int) (xs : List Int) (i : Value) (wr : World) : Prop :=
  ∃ k : Nat, k ≤ n ∧ i = .int .i64 (k : Nat) ∧ w.grownBy wr none ∧ ∀ j, j < k → ¬ xs[j]?.getD 0 = x

theorem Index_any (x : Int) (A : Option Addr) (n c : Nat) (xs : List Int) (w : World) {B : Nat} (h : Row w B A n xs) :
    Calls Try.prog 81 #[.slice A n c, .int .i64 x] w (Says w (.int .i64 (idxV x xs))) := by
  have hn := h.small
  have HL := Lib.hid h.len
  have HR := Lib.hid h
  clear h
  have HS : Hid (IdxRel w n x xs (.int .i64 0) w) := ⟨0, Nat.zero_le _, rfl, World.grownBy.refl w none, by omega⟩
  go_enter Try.func81, Try.ntmps81
  go_wp2
  go_loopw [8] (fun i wr => IdxRel w n x xs i wr) (fun i _ => n - (intOf i).toNat)
  case atStart => exact HS.out
  case round =>
    clear HS
    obtain ⟨k, hk, rfl, hg, hno⟩ := hrel
    have G := Lib.hid hg
    have HNO := Lib.hid hno
    by_cases hlt : k < n
    · obtain ⟨b, off, hA, hb, hcell⟩ := HR.out.at_ (by omega)
      subst hA
      have d0 := kept hg (hcell k hlt)
      clear hcell hg hno
      by_cases he : xs[k]?.getD 0 = x
      · have E := Lib.hid (idxV_some (by rw [HL.out]; exact hlt) he HNO.out)
        rw [he] at d0
        clear he
        have hxx : (x == x) = true := by simp
        go_wp2
        go_ret
        exact ⟨ret_int E.out.symm, G.out⟩
      · have HN := Lib.hid he
        have hxx : (x == xs[k]?.getD 0) = false := by simp; exact fun e => he e.symm
        have HNO2 : Hid (∀ j, j < k + 1 → ¬ xs[j]?.getD 0 = x) := fun j hj => by
          rcases Nat.lt_or_ge j k with a | a
          · exact HNO.out j a
          · obtain rfl : j = k := by omega
            exact HN.out
        clear he HN HNO
        generalize xs[k]?.getD 0 = y at *
        go_wp2
        go_roundw
        case rel => exact ⟨k + 1, by omega, by go_num, G.out, HNO2.out⟩
        case measure => simp [intOf]; omega
    · obtain rfl : k = n := by omega
      have E := Lib.hid (idxV_none (x := x) (xs := xs) (by rw [HL.out]; exact HNO.out))
      clear hg hno
      go_wp2
      go_ret
      exact ⟨ret_int E.out.symm, G.out⟩

theorem Contains_any (x : Int) (A : Option Addr) (n c : Nat) (xs : List Int) (w : World) {B : Nat} (h : Row w B A n xs) :
    Calls Try.prog 63 #[.slice A n c, .int .i64 x] w (Says w (.bool (decide (x ∈ xs)))) := by
  have HR := Lib.hid h
  clear h
  go_enter Try.func63, Try.ntmps63
  go_wp2_with fail
  refine (Index_any x A n c xs _ HR.out).mono ?_
  rintro e w1 ⟨rfl, g1⟩
  have E := Lib.hid (idxV_ge x xs)
  generalize idxV x xs = y at *
  go_wp2
  go_ret
  exact ⟨ret_bool E.out.symm, g1⟩

def AreRel (w : World) (V : Int) (A : Option Addr) (n c m : Nat) (xs : List Int) (i : Value) (wr : World) : Prop :=
  ∃ k : Nat, k ≤ m ∧ i = .int .i64 (k : Nat) ∧ w.grownBy wr none ∧ Own wr w.heap.size 24 [.int .i64 V, .slice A n c] ∧ allL n (xs.take k) = true

theorem allV_links (n : Nat) (xs : List Int) : allV (n : Int) xs = allL n xs := rfl

def linksR (n : Nat) (xs : List Int) : Bool := decide (xs.length ≤ 64) && allL n xs

theorem links_any (V : Int) (A : Option Addr) (n c : Nat) (X : Option Addr) (m d : Nat) (xs : List Int) (w : World) {B : Nat} (h : Row w B X m xs) :
    Calls Try.prog 54 #[.agg #[.int .i64 V, .slice A n c], .slice X m d] w (Says w (.bool (linksR n xs))) := by
  have hm := h.small
  have HL := Lib.hid h.len
  have HR := Lib.hid h
  clear h
  by_cases hmm : m ≤ 64
  · have HQ : Hid (linksR n xs = allL n xs) := by rw [Hid, linksR, HL.out]; simp [hmm]
    have HS : Hid (AreRel w V A n c m xs (.int .i64 0) (w.alloc (.cells #[.int .i64 V, .slice A n c] 24))) := ⟨0, Nat.zero_le _, rfl, grow0 _ _, Own.new w 24 [.int .i64 V, .slice A n c], rfl⟩
    go_enter Try.func54, Try.ntmps54
    go_wp2
    go_loopw [5] (fun i wr => AreRel w V A n c m xs i wr) (fun i _ => m - (intOf i).toNat)
    case atStart => exact HS.out
    case round =>
      clear HS
      obtain ⟨k, hk, rfl, hg, ob, hall⟩ := hrel
      have G := Lib.hid hg
      have HA := Lib.hid hall
      obtain ⟨c0, c1⟩ := ob.two
      have O := Lib.hid ob
      by_cases hlt : k < m
      · obtain ⟨b, off, hA, hb, hcell⟩ := HR.out.at_ (by omega)
        subst hA
        have d0 := kept hg (hcell k hlt)
        have HN := Lib.hid (allL_step (n := n) (xs := xs) (k := k) (by rw [HL.out]; exact hlt))
        have HX := Lib.hid (allL_no (n := n) (xs := xs) (k := k) (by rw [HL.out]; exact hlt))
        have hbd := HR.out.ok k
        clear hcell hg hall ob
        generalize xs[k]?.getD 0 = y at *
        by_cases h0 : y < 0
        · have E : Hid (linksR n xs = false) := HQ.out.trans (HX.out (by simp [linkB]; omega))
          clear HN HX HQ
          go_wp2_with fail
          go_quiet (fail)
          go_wp2
          go_ret
          exact ⟨ret_bool E.out, grown_drewN G.out _⟩
        · by_cases h1 : y < (n : Int)
          · have E : Hid (allL n (xs.take (k + 1)) = true) := by rw [Hid, HN.out, HA.out]; simp [linkB]; omega
            clear HN HX
            go_wp2_with fail
            go_quiet (fail)
            go_wp2
            go_roundw
            case rel => exact ⟨k + 1, by omega, by go_num, grown_drewN G.out _, O.out.drewN _, E.out⟩
            case measure => simp [intOf]; omega
          · have E : Hid (linksR n xs = false) := HQ.out.trans (HX.out (by simp [linkB]; omega))
            clear HN HX HQ
            go_wp2_with fail
            go_quiet (fail)
            go_wp2
            go_ret
            exact ⟨ret_bool E.out, grown_drewN G.out _⟩
      · obtain rfl : k = m := by omega
        have E : Hid (linksR n xs = true) := by
          have := HA.out
          rw [List.take_of_length_le (by rw [HL.out]; exact Nat.le_refl _)] at this
          exact HQ.out.trans this
        clear hg hall ob HQ
        go_wp2
        go_ret
        exact ⟨ret_bool E.out, G.out⟩
  · have E : Hid (linksR n xs = false) := by rw [Hid, linksR, HL.out]; simp [hmm]
    go_enter Try.func54, Try.ntmps54
    go_wp2
    go_ret
    exact ⟨ret_bool E.out, grow0 _ _⟩

def TwiceRel (w : World) (n : Nat) (xs : List Int) (i : Value) (wr : World) : Prop :=
  ∃ k : Nat, k ≤ n ∧ i = .int .i64 (k : Nat) ∧ w.grownBy wr none ∧ noDup (xs.take k) = true

def TwiceIn (w : World) (k : Nat) (x : Int) (xs : List Int) (i : Value) (wr : World) : Prop :=
  ∃ j : Nat, j ≤ k ∧ i = .int .i64 (j : Nat) ∧ w.grownBy wr none ∧ ∀ t, t < j → ¬ xs[t]?.getD 0 = x

theorem nodup_next {xs : List Int} {k : Nat} (hk : k < xs.length) (h : noDup (xs.take k) = true) (n : ∀ t, t < k → ¬ xs[t]?.getD 0 = xs[k]?.getD 0) : noDup (xs.take (k + 1)) = true := by
  rw [nodup_step hk, h]
  have : ¬ xs[k]?.getD 0 ∈ xs.take k := not_mem_of fun j hj => by
    rw [List.length_take] at hj
    rw [List.getElem?_take_of_lt (by omega)]
    exact n j (by omega)
  simp [this]

theorem twice_any (A : Option Addr) (n c : Nat) (xs : List Int) (w : World) {B : Nat} (h : Row w B A n xs) :
    Calls Try.prog 56 #[.slice A n c] w (Says w (.bool (!noDup xs))) := by
  have hn := h.small
  have HL := Lib.hid h.len
  have HR := Lib.hid h
  clear h
  have HS : Hid (TwiceRel w n xs (.int .i64 0) w) := ⟨0, Nat.zero_le _, rfl, World.grownBy.refl w none, rfl⟩
  go_enter Try.func56, Try.ntmps56
  go_wp2
  go_loopw [3] (fun i wr => TwiceRel w n xs i wr) (fun i _ => n - (intOf i).toNat)
  case atStart => exact HS.out
  case round =>
    clear HS
    obtain ⟨k, hk, rfl, hg, hno⟩ := hrel
    have G := Lib.hid hg
    have HNO := Lib.hid hno
    by_cases hlt : k < n
    · obtain ⟨b, off, hA, hb, hcell⟩ := HR.out.at_ (by omega)
      subst hA
      have HC := Lib.hid hcell
      have HN := Lib.hid (nodup_next (xs := xs) (k := k) (by rw [HL.out]; exact hlt) hno)
      have HX : Hid (∀ t, t < k → xs[t]?.getD 0 = xs[k]?.getD 0 → noDup xs = false) := fun t ht e => nodup_stop (k := k) (by rw [HL.out]; exact hlt) (e ▸ mem_take_of ht (by rw [HL.out]; omega))
      have HC0 := Lib.hid (hcell k hlt)
      have HS : Hid (TwiceIn w k (xs[k]?.getD 0) xs (.int .i64 0) wr) := ⟨0, Nat.zero_le _, rfl, hg, by omega⟩
      clear hcell hg hno HNO
      generalize xs[k]?.getD 0 = y at *
      go_wp2
      go_loopw [4] (fun i wr => TwiceIn w k y xs i wr) (fun i _ => k - (intOf i).toNat)
      case atStart => exact HS.out
      case round =>
        clear HS G
        obtain ⟨j, hj, rfl, hg, hnj⟩ := hrel
        have d0 := kept hg HC0.out
        have G := Lib.hid hg
        have HNJ := Lib.hid hnj
        by_cases hlj : j < k
        · have d1 := kept hg (HC.out j (by omega))
          clear hg hnj
          by_cases he : xs[j]?.getD 0 = y
          · have E := Lib.hid (HX.out j hlj he)
            have hyy : (y == y) = true := by simp
            rw [he] at d1
            clear he HN HX HC HC0
            go_wp2_with fail
            go_quiet (fail)
            go_wp2
            go_ret
            exact ⟨ret_bool (by rw [E.out]; rfl), grown_drewN G.out _⟩
          · have HNO2 : Hid (∀ t, t < j + 1 → ¬ xs[t]?.getD 0 = y) := fun t ht => by
              rcases Nat.lt_or_ge t j with a | a
              · exact HNJ.out t a
              · obtain rfl : t = j := by omega
                exact he
            have hyy : (y == xs[j]?.getD 0) = false := by simp; exact fun e => he e.symm
            clear he HNJ
            generalize xs[j]?.getD 0 = z at *
            go_wp2_with fail
            go_quiet (fail)
            go_wp2
            go_roundw
            case rel => exact ⟨j + 1, by omega, by go_num, grown_drewN G.out _, HNO2.out⟩
            case measure => simp [intOf]; omega
        · obtain rfl : j = k := by omega
          have E := Lib.hid (HN.out HNJ.out)
          clear hg hnj d0
          go_wp2
          go_roundw
          case rel => exact ⟨j + 1, by omega, by go_num, G.out, E.out⟩
          case measure => simp [intOf]; omega
    · obtain rfl : k = n := by omega
      have E : Hid (noDup xs = true) := by
        have := HNO.out
        rwa [List.take_of_length_le (by rw [HL.out]; exact Nat.le_refl _)] at this
      clear hg hno
      go_wp2
      go_ret
      exact ⟨ret_bool (by rw [E.out]; rfl), G.out⟩

end Go.Proofs.Ytlpohlcmjnlbhaa

set_option maxRecDepth 20000
namespace Go.Proofs.Ytlpohlcmjnlbhaa
open Go.RowKit

theorem form_may {V : Int} {L : List Lk} {s : Int} {xs : List Int} (h : mayG V L = false) : formW V L s xs = false := by simp [formW, h]
theorem form_src {V : Int} {L : List Lk} {s : Int} {xs : List Int} (h : isV V s = false) : formW V L s xs = false := by simp [formW, h]
theorem form_len {V : Int} {L : List Lk} {s : Int} {xs : List Int} (h : ¬ xs.length ≤ 64) : formW V L s xs = false := by simp [formW, h]
theorem form_all {V : Int} {L : List Lk} {s : Int} {xs : List Int} (h : allL L.length xs = false) : formW V L s xs = false := by simp [formW, h]
theorem form_links {V : Int} {L : List Lk} {s : Int} {xs : List Int} (h : linksR L.length xs = false) : formW V L s xs = false := by
  rw [formW, Bool.and_assoc]
  rw [linksR] at h
  rw [h, Bool.and_false]
theorem form_yes {V : Int} {L : List Lk} {s : Int} {xs : List Int} (h : mayG V L = true) (h1 : isV V s = true) (h2 : xs.length ≤ 64) (h3 : allL L.length xs = true) : formW V L s xs = true := by simp [formW, h, h1, h2, h3]

def WalkRel (w : World) (V : Int) (A : Option Addr) (n c : Nat) (L : List Lk) (s : Int) (m : Nat) (xs : List Int) (o i : Value) (wr : World) : Prop :=
  ∃ k : Nat, k ≤ m ∧ i = .int .i64 (k : Nat) ∧ w.grownBy wr none ∧ Own wr w.heap.size 24 [.int .i64 V, .slice A n c] ∧ Mine wr (w.heap.size + 1) o (k + 1) (vsOf L s (xs.take k)) ∧ chain L s (xs.take k) = true

theorem vs_ok {w : World} {B : Nat} {A : Option Addr} {n : Nat} {L : List Lk} (h : Lks w B A n L) {s : Int} (hs : bd64 s) (xs : List Int) : okI (vsOf L s xs) := by
  intro i
  refine get_in (fun x hx => ?_) (by omega) i
  rcases List.mem_cons.1 hx with rfl | hx
  · exact hs
  · obtain ⟨y, hy, rfl⟩ := List.mem_map.1 hx
    exact (h.ok y.toNat).2.1

theorem isV_split {V s : Int} : isV V s = true ↔ 0 ≤ s ∧ s < V := by simp [isV]

set_option maxHeartbeats 1000000 in
theorem Walk_any (V s : Int) (A : Option Addr) (n c : Nat) (L : List Lk) (X : Option Addr) (m d : Nat) (xs : List Int) (w : World) {B B' : Nat} (h : Lks w B A n L) (hB : B ≤ w.heap.size) (hx : Row w B' X m xs) (hB' : B' ≤ w.heap.size) :
    Calls Try.prog 65 #[.agg #[.int .i64 V, .slice A n c], .int .i64 s, .slice X m d] w (SelPost w (walkV V L s xs) (walkE V L s xs)) := by
  have hn := h.small
  have hm := hx.small
  have HL := Lib.hid h.len
  have HLX := Lib.hid hx.len
  have HR := Lib.hid h
  have HX := Lib.hid hx
  have HR1 := Lib.hid (h.grown hB (grow0 w (.cells #[.int .i64 V, .slice A n c] 24)))
  clear h hx
  go_enter Try.func65, Try.ntmps65
  go_wp2_with fail
  refine (GMay_any V A n c L _ HR1.out (by simp; omega)).mono ?_
  rintro e w1 ⟨rfl, g1⟩
  obtain ⟨g, o2⟩ := box1 [.int .i64 V, .slice A n c] g1
  obtain ⟨c0, c1⟩ := o2.two
  have G := Lib.hid g
  have O2 := Lib.hid o2
  clear g g1 o2 HR1
  cases hmay : mayG V L
  · have E := Lib.hid (walk_form (form_may (s := s) (xs := xs) hmay))
    go_wp2
    go_ret2
    exact ⟨.slice none 0 0, ret_sel E.out.1, by rw [E.out.2.1]; exact Mine.nil _ _, G.out⟩
  · go_wp2_with fail
    refine (Vert1_any V s A n c _ rfl).mono ?_
    rintro e w9 ⟨rfl, g9⟩
    have O2 := Lib.hid (O2.out.kept g9)
    have G := Lib.hid (grown_trans G.out g9)
    clear g9 c0 c1
    obtain ⟨c0, c1⟩ := O2.out.two
    cases hs : isV V s
    · have E := Lib.hid (walk_form (form_src (V := V) (L := L) (s := s) (xs := xs) hs))
      clear hs
      go_wp2
      go_ret2
      exact ⟨.slice none 0 0, ret_sel E.out.1, by rw [E.out.2.1]; exact Mine.nil _ _, G.out⟩
    · have HSV := Lib.hid hs
      clear hs
      by_cases h2 : m ≤ 64
      · go_wp2_with fail
        refine (Links_any V A n c X m d xs _ (HX.out.grown hB' G.out).raw).mono ?_
        rintro e w2 ⟨he, g2⟩
        rw [allV_links] at he
        subst he
        have O2 := Lib.hid (O2.out.kept g2)
        have G := Lib.hid (grown_trans G.out g2)
        clear g2 c0 c1
        cases ha : allL n xs
        · have E := Lib.hid (walk_form (form_all (V := V) (L := L) (s := s) (xs := xs) (by rw [HL.out]; exact ha)))
          go_wp2
          go_ret2
          exact ⟨.slice none 0 0, ret_sel E.out.1, by rw [E.out.2.1]; exact Mine.nil _ _, G.out⟩
        · have HF : Hid (formW V L s xs = true) := form_yes hmay HSV.out (by rw [HLX.out]; exact h2) (by rw [HL.out]; exact ha)
          have HALL : Hid (allL n xs = true) := ha
          have hsb : bd64 s := by have := may_small hmay; have := isV_split.1 HSV.out; unfold bd64; omega
          have HOK := Lib.hid (vs_ok HR.out hsb)
          have HS : Hid (WalkRel w V A n c L s m xs (.slice (some ⟨w2.heap.size, 0, none⟩) 1 1) (.int .i64 0) (w2.alloc (.cells #[.int .i64 s] 3))) :=
            ⟨0, Nat.zero_le _, rfl, grown_alloc G.out _, O2.out.alloc _, Mine.lit [s] 1 rfl rfl rfl (by have := O2.out.lt; omega) (by simp), rfl⟩
          clear ha hmay O2 G
          go_wp2
          go_loopw [8, 36] (fun o i wr => WalkRel w V A n c L s m xs o i wr) (fun _ i _ => m - (intOf i).toNat)
          case atStart => exact HS.out
          case round =>
            clear HS
            obtain ⟨k, hk, rfl, hg, ob, hmine, hch⟩ := hrel
            have G := Lib.hid hg
            have hsz := ob.lt
            obtain ⟨c0, c1⟩ := ob.two
            have O := Lib.hid ob
            have HM := Lib.hid hmine
            have HC := Lib.hid hch
            by_cases hlt : k < m
            · obtain ⟨b, off, hA, hb, hcell⟩ := HX.out.at_ (by omega)
              subst hA
              have d0 := kept hg (hcell k hlt)
              obtain ⟨j, hj, hjx⟩ := allL_get HALL.out (i := k) (by rw [HLX.out]; exact hlt)
              rw [hjx] at d0
              obtain ⟨b2, off2, hA2, hb2, hcell2⟩ := HR.out.cells (by omega)
              subst hA2
              obtain ⟨e0, e1, e2⟩ := hcell2 j hj
              have e0 := kept hg e0
              have e1 := kept hg e1
              have HNX := Lib.hid (vsOf_next L s (xs := xs) (k := k) (by rw [HLX.out]; exact hlt))
              have HCS := Lib.hid (chain_step (L := L) (s := s) (xs := xs) (k := k) (by rw [HLX.out]; exact hlt) hch)
              have HCX := Lib.hid (chain_stop (L := L) (s := s) (xs := xs) (k := k) (by rw [HLX.out]; exact hlt))
              obtain ⟨gv, cv, rfl, hcv, hgv, hrv⟩ := hmine.shape (by omega) (HOK.out _)
              have f0 := hrv.cellAt (i := k) (by omega)
              rw [Nat.zero_add] at f0
              have et : tow L (xs[k]?.getD 0) = (at3 L j).2.1 := by rw [hjx]; simp [tow]
              have ef : frm L (xs[k]?.getD 0) = (at3 L j).1 := by rw [hjx]; simp [frm]
              have HNX := Lib.hid (HNX.out.trans (by rw [et]))
              have HCS := Lib.hid HCS.out
              rw [ef] at HCS HCX
              have hbt := (HR.out.ok j).2.1
              clear hcell hcell2 hg ob hmine hch e2 et ef hjx hrv
              generalize (vsOf L s (xs.take k))[k]?.getD 0 = cur at *
              generalize (at3 L j).1 = fr at *
              generalize (at3 L j).2.1 = tv at *
              by_cases he : fr = cur
              · have HC1 := Lib.hid (HCS.out he)
                subst he
                have hne : (fr != fr) = false := by simp
                clear HCS HCX
                go_wp2_with fail
                go_quiet (fail)
                go_wp2_with (first | (at_builtin; refine wpList_app _ rfl _ _ rfl (w.heap.size + 1) _ _ _ rfl ((HM.out.drewN _).kept (grow0 _ _)) _ 1 1 [tv] rfl (Row.newAt [tv] rfl rfl rfl (by simp) (by simp; exact hbt)) (by simp) (by omega) (by simp; omega) ?_))
                intro v1 w3 hm1 hg3 _
                have G3 := Lib.hid (grown_none (grown_alloc (grown_drewN G.out _) _) hg3 (fun g hg => by have := HM.out.own_ge g hg; omega))
                have O3 := Lib.hid (Own.kept' ((O.out.drewN _).alloc _) hg3 HM.out.apart)
                have HM3 := Lib.hid hm1
                clear hm1 hg3
                go_wp2
                go_roundw
                case rel => exact ⟨k + 1, by omega, by go_num, G3.out, O3.out, by rw [HNX.out]; exact HM3.out, HC1.out⟩
                case measure => simp [intOf]; omega
              · have E := Lib.hid (walk_broken HF.out (HCX.out he))
                have hne : (fr != cur) = true := by simp [he]
                clear HCS HCX
                go_wp2_with fail
                go_quiet (fail)
                go_wp2
                go_ret2
                exact ⟨.slice none 0 0, ret_sel E.out.1, by rw [E.out.2.1]; exact Mine.nil _ _, grown_drewN G.out _⟩
            · obtain rfl : k = m := by omega
              have ex : xs.take k = xs := List.take_of_length_le (by rw [HLX.out]; exact Nat.le_refl _)
              rw [ex] at HC HM
              have E := Lib.hid (walk_goes HF.out HC.out)
              clear hmine hg ob ex hch
              go_wp2
              go_ret2
              exact ⟨_, ret_sel E.out.1, by rw [E.out.2.1, vsOf_len, HLX.out]; exact HM.out.wide (by omega), G.out⟩
      · have E := Lib.hid (walk_form (form_len (V := V) (L := L) (s := s) (xs := xs) (by rw [HLX.out]; exact h2)))
        go_wp2
        go_ret2
        exact ⟨.slice none 0 0, ret_sel E.out.1, by rw [E.out.2.1]; exact Mine.nil _ _, G.out⟩

end Go.Proofs.Ytlpohlcmjnlbhaa

set_option maxRecDepth 20000
namespace Go.Proofs.Ytlpohlcmjnlbhaa
open Go.RowKit

set_option maxHeartbeats 1000000 in
theorem RWalk_any (V s : Int) (A : Option Addr) (n c : Nat) (L : List Lk) (X : Option Addr) (m d : Nat) (xs : List Int) (w : World) {B B' : Nat} (h : Lks w B A n L) (hB : B ≤ w.heap.size) (hx : Row w B' X m xs) (hB' : B' ≤ w.heap.size) :
    Calls Try.prog 55 #[.agg #[.int .i64 V, .slice A n c], .int .i64 s, .slice X m d] w (SelPost w (walkV V L s xs) (walkE V L s xs)) := by
  have hn := h.small
  have hm := hx.small
  have HL := Lib.hid h.len
  have HLX := Lib.hid hx.len
  have HR := Lib.hid h
  have HX := Lib.hid hx
  have HR1 := Lib.hid (h.grown hB (grow0 w (.cells #[.int .i64 V, .slice A n c] 24)))
  clear h hx
  go_enter Try.func55, Try.ntmps55
  go_wp2_with fail
  refine (RMay_any V A n c L _ HR1.out).mono ?_
  rintro e w1 ⟨rfl, g1⟩
  obtain ⟨g, o2⟩ := box1 [.int .i64 V, .slice A n c] g1
  obtain ⟨c0, c1⟩ := o2.two
  have G := Lib.hid g
  have O2 := Lib.hid o2
  clear g g1 o2 HR1
  cases hmay : mayG V L
  · have E := Lib.hid (walk_form (form_may (s := s) (xs := xs) hmay))
    go_wp2
    go_ret2
    exact ⟨.slice none 0 0, ret_sel E.out.1, by rw [E.out.2.1]; exact Mine.nil _ _, G.out⟩
  · go_wp2_with fail
    refine (RVertex_any V s A n c _).mono ?_
    rintro e w2 ⟨rfl, g2⟩
    have O2 := Lib.hid (O2.out.kept g2)
    have G := Lib.hid (grown_trans G.out g2)
    clear g2 c0 c1
    obtain ⟨c0, c1⟩ := O2.out.two
    cases hv : isV V s
    · have E := Lib.hid (walk_form (form_src (V := V) (L := L) (s := s) (xs := xs) hv))
      go_wp2
      go_ret2
      exact ⟨.slice none 0 0, ret_sel E.out.1, by rw [E.out.2.1]; exact Mine.nil _ _, G.out⟩
    · go_wp2_with fail
      refine (links_any V A n c X m d xs _ (HX.out.grown hB' G.out)).mono ?_
      rintro e w3 ⟨rfl, g3⟩
      have O2 := Lib.hid (O2.out.kept g3)
      have G := Lib.hid (grown_trans G.out g3)
      clear g3 c0 c1
      cases ha : linksR n xs
      · have E := Lib.hid (walk_form (form_links (V := V) (L := L) (s := s) (xs := xs) (by rw [HL.out]; exact ha)))
        go_wp2
        go_ret2
        exact ⟨.slice none 0 0, ret_sel E.out.1, by rw [E.out.2.1]; exact Mine.nil _ _, G.out⟩
      · have ha' : m ≤ 64 ∧ allL n xs = true := by
          rw [linksR, HLX.out] at ha
          simpa using ha
        obtain ⟨h2, ha2⟩ := ha'
        have HF : Hid (formW V L s xs = true) := form_yes hmay hv (by rw [HLX.out]; exact h2) (by rw [HL.out]; exact ha2)
        have HALL : Hid (allL n xs = true) := ha2
        have hsb : bd64 s := by have := may_small hmay; have := isV_split.1 hv; unfold bd64; omega
        have HOK := Lib.hid (vs_ok HR.out hsb)
        have HS : Hid (WalkRel w V A n c L s m xs (.slice (some ⟨w3.heap.size, 0, none⟩) 1 1) (.int .i64 0) (w3.alloc (.cells #[.int .i64 s] 3))) :=
          ⟨0, Nat.zero_le _, rfl, grown_alloc G.out _, O2.out.alloc _, Mine.lit [s] 1 rfl rfl rfl (by have := O2.out.lt; omega) (by simp), rfl⟩
        clear ha ha2 hmay hv O2 G
        go_wp2
        go_loopw [8, 9] (fun o i wr => WalkRel w V A n c L s m xs o i wr) (fun _ i _ => m - (intOf i).toNat)
        case atStart => exact HS.out
        case round =>
          clear HS
          obtain ⟨k, hk, rfl, hg, ob, hmine, hch⟩ := hrel
          have G := Lib.hid hg
          have hsz := ob.lt
          obtain ⟨c0, c1⟩ := ob.two
          have O := Lib.hid ob
          have HM := Lib.hid hmine
          have HC := Lib.hid hch
          by_cases hlt : k < m
          · obtain ⟨b, off, hA, hb, hcell⟩ := HX.out.at_ (by omega)
            subst hA
            have d0 := kept hg (hcell k hlt)
            obtain ⟨j, hj, hjx⟩ := allL_get HALL.out (i := k) (by rw [HLX.out]; exact hlt)
            rw [hjx] at d0
            obtain ⟨b2, off2, hA2, hb2, hcell2⟩ := HR.out.cells (by omega)
            subst hA2
            obtain ⟨e0, e1, e2⟩ := hcell2 j hj
            have e0 := kept hg e0
            have e1 := kept hg e1
            have HNX := Lib.hid (vsOf_next L s (xs := xs) (k := k) (by rw [HLX.out]; exact hlt))
            have HCS := Lib.hid (chain_step (L := L) (s := s) (xs := xs) (k := k) (by rw [HLX.out]; exact hlt) hch)
            have HCX := Lib.hid (chain_stop (L := L) (s := s) (xs := xs) (k := k) (by rw [HLX.out]; exact hlt))
            obtain ⟨gv, cv, rfl, hcv, hgv, hrv⟩ := hmine.shape (by omega) (HOK.out _)
            have f0 := hrv.cellAt (i := k) (by omega)
            rw [Nat.zero_add] at f0
            have et : tow L (xs[k]?.getD 0) = (at3 L j).2.1 := by rw [hjx]; simp [tow]
            have ef : frm L (xs[k]?.getD 0) = (at3 L j).1 := by rw [hjx]; simp [frm]
            have HNX := Lib.hid (HNX.out.trans (by rw [et]))
            have HCS := Lib.hid HCS.out
            rw [ef] at HCS HCX
            have hbt := (HR.out.ok j).2.1
            clear hcell hcell2 hg ob hmine hch e2 et ef hjx hrv
            generalize (vsOf L s (xs.take k))[k]?.getD 0 = cur at *
            generalize (at3 L j).1 = fr at *
            generalize (at3 L j).2.1 = tv at *
            by_cases he : fr = cur
            · have HC1 := Lib.hid (HCS.out he)
              subst he
              have hne : (fr != fr) = false := by simp
              clear HCS HCX
              go_wp2_with fail
              go_quiet (fail)
              go_upto_region 9 with fail
              go_region_law (first
                | (refine step_app4 rfl _ _ rfl (w.heap.size + 1) _ (k + 1) (vsOf L s (xs.take k)) rfl ((HM.out.drewN _).kept (grow0 _ _)) _ 1 1 [tv] rfl (Row.newAt [tv] rfl rfl rfl (by simp) (by simp; exact hbt)) (by simp) (by omega) (by simp; omega) ?_; intro v1 w5 hm1 hg3 _; have G3 := Lib.hid (grown_none (grown_alloc (grown_drewN G.out _) _) hg3 (fun g hg => by have := HM.out.own_ge g hg; omega)); have O3 := Lib.hid (Own.kept' ((O.out.drewN _).alloc _) hg3 HM.out.apart); have HM3 := Lib.hid hm1; clear hm1 hg3))
              all_goals go_wp2
              all_goals go_roundw
              all_goals first | (simp [intOf]; omega) | exact ⟨k + 1, by omega, by go_num, G3.out, O3.out, by rw [HNX.out]; exact HM3.out, HC1.out⟩
            · have E := Lib.hid (walk_broken HF.out (HCX.out he))
              have hne : (fr != cur) = true := by simp [he]
              clear HCS HCX
              go_wp2_with fail
              go_quiet (fail)
              go_wp2
              go_ret2
              exact ⟨.slice none 0 0, ret_sel E.out.1, by rw [E.out.2.1]; exact Mine.nil _ _, grown_drewN G.out _⟩
          · obtain rfl : k = m := by omega
            have ex : xs.take k = xs := List.take_of_length_le (by rw [HLX.out]; exact Nat.le_refl _)
            rw [ex] at HC HM
            have E := Lib.hid (walk_goes HF.out HC.out)
            clear hmine hg ob ex hch
            go_wp2
            go_ret2
            exact ⟨_, ret_sel E.out.1, by rw [E.out.2.1, vsOf_len, HLX.out]; exact HM.out.wide (by omega), G.out⟩

end Go.Proofs.Ytlpohlcmjnlbhaa

set_option maxRecDepth 20000
namespace Go.Proofs.Ytlpohlcmjnlbhaa
open Go.RowKit

theorem mayP_no {V : Int} {L : List Lk} {s d : Int} {xs : List Int} (h : goesW V L s xs = false) : mayP V L s d xs = false := by simp [mayP, h]
theorem mayP_nil {V : Int} {L : List Lk} {s d : Int} {xs : List Int} (h : xs.length = 0) : mayP V L s d xs = false := by
  have : xs = [] := List.eq_nil_of_length_eq_zero h
  simp [mayP, this]
theorem mayP_end {V : Int} {L : List Lk} {s d : Int} {xs : List Int} (h : ¬ (vsOf L s xs)[xs.length]?.getD 0 = d) : mayP V L s d xs = false := by
  have : ((vsOf L s xs)[xs.length]?.getD 0 == d) = false := by simpa using h
  rw [mayP, this]; simp
theorem mayP_yes {V : Int} {L : List Lk} {s d : Int} {xs : List Int} (h : goesW V L s xs = true) (h1 : ¬ xs.length = 0) (h2 : (vsOf L s xs)[xs.length]?.getD 0 = d) : mayP V L s d xs = noDup (vsOf L s xs) := by
  have h3 : xs.isEmpty = false := by cases xs <;> simp at h1 ⊢
  simp [mayP, h, h3, h2]

theorem walkE_ne {V : Int} {L : List Lk} {s : Int} {xs : List Int} (h : goesW V L s xs = false) : ¬ walkE V L s xs = 0 := by
  rcases (walk_no h).1 with e | e <;> rw [e] <;> decide

set_option maxHeartbeats 1000000 in
theorem PMay_any (V s t : Int) (A : Option Addr) (n c : Nat) (L : List Lk) (X : Option Addr) (m d : Nat) (xs : List Int) (w : World) {B B' : Nat} (h : Lks w B A n L) (hB : B ≤ w.heap.size) (hx : Row w B' X m xs) (hB' : B' ≤ w.heap.size) :
    Calls Try.prog 40 #[.agg #[.int .i64 V, .slice A n c], .int .i64 s, .int .i64 t, .slice X m d] w (Says w (.bool (mayP V L s t xs))) := by
  have hm := hx.small
  have HLX := Lib.hid hx.len
  have HX1 := Lib.hid (hx.grown hB' (grow0 w (.cells #[.int .i64 V, .slice A n c] 24)))
  have HR1 := Lib.hid (h.grown hB (grow0 w (.cells #[.int .i64 V, .slice A n c] 24)))
  clear h hx
  go_enter Try.func40, Try.ntmps40
  go_wp2_with fail
  refine (Walk_any V s A n c L X m d xs _ HR1.out (by simp; omega) HX1.out (by simp; omega)).mono ?_
  rintro e w1 ⟨v, rfl, hv, g1⟩
  have G := Lib.hid (grown_trans (grow0 _ _) g1)
  clear g1 HR1 HX1
  cases hgo : goesW V L s xs
  · have E := Lib.hid (mayP_no (d := t) hgo)
    have hne : (walkE V L s xs != 0) = true := by simp [walkE_ne hgo]
    clear hgo hv
    generalize walkE V L s xs = z at *
    go_wp2
    go_ret
    exact ⟨ret_bool E.out, G.out⟩
  · have hok := walk_ok hgo
    have h64 := (goes_parts hgo).2.2.1
    rw [HLX.out] at h64
    rw [hok.1]
    rw [hok.2.1, vsOf_len, HLX.out] at hv
    obtain ⟨gv, cv, rfl, hcv, hgv, hrv⟩ := hv.shape (by omega) (by rw [← hok.2.1]; exact walkV_ok V L s xs)
    have HRV := Lib.hid hrv
    have HLV : Hid ((vsOf L s xs).length = m + 1) := by rw [Hid, vsOf_len, HLX.out]
    by_cases h0 : m = 0
    · subst h0
      have E := Lib.hid (mayP_nil (V := V) (L := L) (s := s) (d := t) HLX.out)
      clear hgo hok hv hrv
      go_wp2
      go_ret
      exact ⟨ret_bool E.out, G.out⟩
    · have f0 := hrv.cellAt (i := m) (by omega)
      rw [Nat.zero_add] at f0
      have E0 := Lib.hid (mayP_yes (d := t) hgo (by rw [HLX.out]; exact h0))
      have E1 := Lib.hid (mayP_end (V := V) (L := L) (s := s) (d := t) (xs := xs))
      rw [HLX.out] at E0 E1
      have hm0 : ((m : Int) == 0) = false := by simp; omega
      clear hgo hok hv hrv
      generalize vsOf L s xs = vs at *
      by_cases he : vs[m]?.getD 0 = t
      · have E := Lib.hid (E0.out he)
        clear E0 E1
        rw [he] at f0
        have hne : (t != t) = false := by simp
        have HS : Hid (TwiceRel w1 (m + 1) vs (.int .i64 0) w1) := ⟨0, Nat.zero_le _, rfl, World.grownBy.refl w1 none, rfl⟩
        go_wp2
        go_loopw [38] (fun i wr => TwiceRel w1 (m + 1) vs i wr) (fun i _ => m + 1 - (intOf i).toNat)
        case atStart => exact HS.out
        case round =>
          clear HS f0
          obtain ⟨k, hk, rfl, hg, hno⟩ := hrel
          have G1 := Lib.hid hg
          by_cases hlt : k < m + 1
          · have d0 := kept hg (HRV.out.cellAt (i := k) hlt)
            rw [Nat.zero_add] at d0
            have HN := Lib.hid (nodup_step (xs := vs) (k := k) (by rw [HLV.out]; exact hlt))
            have HNS := Lib.hid (nodup_stop (xs := vs) (k := k) (by rw [HLV.out]; exact hlt))
            have HNO := Lib.hid hno
            have HRK := Lib.hid ((HRV.out.grown (Nat.le_refl _) hg).head (k := k) (by omega))
            clear hg hno
            generalize vs[k]?.getD 0 = y at *
            go_wp2_with fail
            refine (Contains_any y _ k _ _ _ HRK.out).mono ?_
            rintro e w2 ⟨rfl, g2⟩
            have G1 := Lib.hid (grown_trans G1.out g2)
            clear g2 HRK d0
            by_cases hq : y ∈ vs.take k
            · have EE := Lib.hid (E.out.trans (HNS.out hq))
              have hd : decide (y ∈ vs.take k) = true := by simp [hq]
              clear hq HN HNS
              rw [hd]
              clear hd
              go_wp2
              go_ret
              exact ⟨ret_bool EE.out, grown_trans G.out G1.out⟩
            · have hd : decide (y ∈ vs.take k) = false := by simp [hq]
              have HN2 : Hid (noDup (vs.take (k + 1)) = true) := by rw [Hid, HN.out, HNO.out, hd]; rfl
              clear hq HN HNS
              rw [hd]
              clear hd
              go_wp2
              go_roundw
              case rel => exact ⟨k + 1, by omega, by go_num, G1.out, HN2.out⟩
              case measure => simp [intOf]; omega
          · obtain rfl : k = m + 1 := by omega
            have EE : Hid (mayP V L s t xs = true) := by
              rw [Hid, E.out]
              rwa [List.take_of_length_le (by rw [HLV.out]; exact Nat.le_refl _)] at hno
            clear hg hno
            go_wp2
            go_ret
            exact ⟨ret_bool EE.out, grown_trans G.out G1.out⟩
      · have E := Lib.hid (E1.out he)
        have hne : (vs[m]?.getD 0 != t) = true := by simp [he]
        clear E0 E1 he
        generalize vs[m]?.getD 0 = y at *
        go_wp2
        go_ret
        exact ⟨ret_bool E.out, G.out⟩

set_option maxHeartbeats 1000000 in
theorem RPMay_any (V s t : Int) (A : Option Addr) (n c : Nat) (L : List Lk) (X : Option Addr) (m d : Nat) (xs : List Int) (w : World) {B B' : Nat} (h : Lks w B A n L) (hB : B ≤ w.heap.size) (hx : Row w B' X m xs) (hB' : B' ≤ w.heap.size) :
    Calls Try.prog 33 #[.agg #[.int .i64 V, .slice A n c], .int .i64 s, .int .i64 t, .slice X m d] w (Says w (.bool (mayP V L s t xs))) := by
  have hm := hx.small
  have HLX := Lib.hid hx.len
  have HX1 := Lib.hid (hx.grown hB' (grow0 w (.cells #[.int .i64 V, .slice A n c] 24)))
  have HR1 := Lib.hid (h.grown hB (grow0 w (.cells #[.int .i64 V, .slice A n c] 24)))
  clear h hx
  go_enter Try.func33, Try.ntmps33
  go_wp2_with fail
  refine (RWalk_any V s A n c L X m d xs _ HR1.out (by simp; omega) HX1.out (by simp; omega)).mono ?_
  rintro e w1 ⟨v, rfl, hv, g1⟩
  have G := Lib.hid (grown_trans (grow0 _ _) g1)
  clear g1 HR1 HX1
  cases hgo : goesW V L s xs
  · have E := Lib.hid (mayP_no (d := t) hgo)
    have hne : (walkE V L s xs == 0) = false := by simp [walkE_ne hgo]
    clear hgo hv
    generalize walkE V L s xs = z at *
    go_wp2
    go_ret
    exact ⟨ret_bool E.out, G.out⟩
  · have hok := walk_ok hgo
    have h64 := (goes_parts hgo).2.2.1
    rw [HLX.out] at h64
    rw [hok.1]
    rw [hok.2.1, vsOf_len, HLX.out] at hv
    obtain ⟨gv, cv, rfl, hcv, hgv, hrv⟩ := hv.shape (by omega) (by rw [← hok.2.1]; exact walkV_ok V L s xs)
    have HRV := Lib.hid hrv
    by_cases h0 : m = 0
    · subst h0
      have E := Lib.hid (mayP_nil (V := V) (L := L) (s := s) (d := t) HLX.out)
      clear hgo hok hv hrv
      go_wp2
      go_ret
      exact ⟨ret_bool E.out, G.out⟩
    · have f0 := hrv.cellAt (i := m) (by omega)
      rw [Nat.zero_add] at f0
      have E0 := Lib.hid (mayP_yes (d := t) hgo (by rw [HLX.out]; exact h0))
      have E1 := Lib.hid (mayP_end (V := V) (L := L) (s := s) (d := t) (xs := xs))
      rw [HLX.out] at E0 E1
      have hm0 : (0 : Int) < (m : Int) := by omega
      clear hgo hok hv hrv
      generalize vsOf L s xs = vs at *
      by_cases he : vs[m]?.getD 0 = t
      · have E := Lib.hid (E0.out he)
        clear E0 E1
        rw [he] at f0
        have hne : (t == t) = true := by simp
        go_wp2_with fail
        refine (twice_any _ (m + 1) cv vs _ HRV.out).mono ?_
        rintro e w2 ⟨rfl, g2⟩
        have G := Lib.hid (grown_trans G.out g2)
        clear g2
        generalize noDup vs = q at *
        go_wp2
        go_ret
        refine ⟨ret_bool ?_, G.out⟩
        rw [E.out]
      · have E := Lib.hid (E1.out he)
        have hne : (vs[m]?.getD 0 == t) = false := by simp [he]
        clear E0 E1 he
        generalize vs[m]?.getD 0 = y at *
        go_wp2
        go_ret
        exact ⟨ret_bool E.out, G.out⟩

end Go.Proofs.Ytlpohlcmjnlbhaa

set_option maxRecDepth 20000
namespace Go.Proofs.Ytlpohlcmjnlbhaa
open Go.RowKit

def SimRel (w : World) (V : Int) (A : Option Addr) (n c : Nat) (L : List Lk) (s : Int) (m : Nat) (xs : List Int) (o p i : Value) (wr : World) : Prop :=
  ∃ k : Nat, k ≤ m ∧ i = .int .i64 (k : Nat) ∧ w.grownBy wr none ∧ Own wr w.heap.size 24 [.int .i64 V, .slice A n c] ∧ Duo wr (w.heap.size + 1) o p (simK L s (xs.take k)) (vsOf L s (simK L s (xs.take k)))

theorem Mine.two {w : World} {base : Nat} {v : Value} {n : Nat} {xs : List Int} (h : Mine w base v n xs) : (v = .slice none 0 0 ∧ n = 0) ∨ ∃ g c, v = .slice (some ⟨g, 0, none⟩) n c ∧ n ≤ c ∧ base ≤ g ∧ c ≤ 9223372036854775807 := by
  rcases h.2 with h | ⟨g, cap, cur, rfl, hb, _, hnc, hm, _⟩
  · exact .inl h
  · exact .inr ⟨g, cap, rfl, hnc, hb, by unfold maxLen at hm; omega⟩

theorem Duo.cut {w : World} {base : Nat} {A A' : Option Addr} {c c' i : Nat} {n n' : Nat} {s o s' o' : List Int} (t : Duo w base (.slice A n c) (.slice A' n' c') s o) (hn : n = s.length) (hn' : n' = o.length) (e : s' = s.take i) (e' : o' = o.take (i + 1)) (hi : i ≤ s.length) (hi' : i + 1 ≤ o.length) :
    Duo w base (.slice A i c) (.slice A' (i + 1) c') s' o' := by
  subst e e' hn hn'
  refine ⟨?_, ?_, apart_cut t.so⟩
  · have := t.S.take hi
    rw [List.length_take, Nat.min_eq_left hi]
    exact this
  · have := t.O.take hi'
    rw [List.length_take, Nat.min_eq_left hi']
    exact this

theorem Duo.drewN {w : World} {base : Nat} {x y : Value} {s o : List Int} (t : Duo w base x y s o) (k : Nat) : Duo (w.drewN k) base x y s o := t.kept (grown_drewN (World.grownBy.refl w none) k)

end Go.Proofs.Ytlpohlcmjnlbhaa

set_option maxRecDepth 20000
namespace Go.Proofs.Ytlpohlcmjnlbhaa
open Go.RowKit

def RSimRel (w : World) (L : List Lk) (s : Int) (m : Nat) (xs : List Int) (o p i : Value) (wr : World) : Prop :=
  ∃ k : Nat, k ≤ m ∧ i = .int .i64 (k : Nat) ∧ w.grownBy wr none ∧ Duo wr w.heap.size o p (simK L s (xs.take k)) (vsOf L s (simK L s (xs.take k)))

def RInRel (w : World) (kp vs : List Int) (l tv : Int) (o p j : Value) (wr : World) : Prop :=
  ∃ t : Nat, j = .int .i64 (t : Nat) ∧ w.grownBy wr none ∧
    ((t ≤ vs.length ∧ (∀ u, u < t → ¬ vs[u]?.getD 0 = tv) ∧ Duo wr w.heap.size o p (kp ++ [l]) (vs ++ [tv])) ∨
      (∃ i : Nat, idx tv vs = some i ∧ t = i + 1 ∧ Duo wr w.heap.size o p (kp.take i) (vs.take (i + 1))))

def lenOf : Value → Nat | .slice _ n _ => n | _ => 0

theorem vsOf_get (L : List Lk) (s : Int) {xs : List Int} {k : Nat} (h : k < xs.length) : (vsOf L s xs)[k + 1]?.getD 0 = tow L (xs[k]?.getD 0) := by
  simp [vsOf, List.getElem?_eq_getElem h]

theorem idx_no {x : Int} {xs : List Int} (h : ∀ j, j < xs.length → ¬ xs[j]?.getD 0 = x) : idx x xs = none := idx_none.2 (not_mem_of h)

theorem get_app {xs ys : List Int} {i : Nat} (h : i < xs.length) : (xs ++ ys)[i]?.getD 0 = xs[i]?.getD 0 := by rw [List.getElem?_append_left h]

theorem okI_app {xs : List Int} {x : Int} (h : okI xs) (hx : bd64 x) : okI (xs ++ [x]) := by
  intro i
  rcases Nat.lt_or_ge i xs.length with k | k
  · rw [get_app k]; exact h i
  · rcases Nat.eq_or_lt_of_le k with e | e
    · subst e; unfold bd64 at hx; simpa using hx
    · rw [List.getElem?_eq_none (by simp; omega)]; simp

end Go.Proofs.Ytlpohlcmjnlbhaa

set_option maxRecDepth 20000
namespace Go.Proofs.Ytlpohlcmjnlbhaa
open Go.RowKit

theorem path_small : walkV 3 smallL 0 [0, 1] = [0, 1, 2] ∧ walkE 3 smallL 0 [0, 1] = 0 ∧ walkE 3 smallL 0 [1] = 601 ∧ walkE 3 smallL 0 [3] = 600 ∧ simV 3 smallL 0 [0, 1] = [0, 1] ∧ mayP 3 smallL 0 2 [0, 1] = true ∧ mayP 3 smallL 0 1 [0, 1] = false := by decide

theorem row01 (w : World) : Row (w.alloc (.cells #[.int .i64 0, .int .i64 1] 3)) (w.heap.size + 1) (some ⟨w.heap.size, 0, none⟩) 2 [0, 1] := Row.newAt [0, 1] rfl rfl rfl (by simp) (by simp)
theorem row1 (w : World) : Row (w.alloc (.cells #[.int .i64 1] 3)) (w.heap.size + 1) (some ⟨w.heap.size, 0, none⟩) 1 [1] := Row.newAt [1] rfl rfl rfl (by simp) (by simp)
theorem row3 (w : World) : Row (w.alloc (.cells #[.int .i64 3] 3)) (w.heap.size + 1) (some ⟨w.heap.size, 0, none⟩) 1 [3] := Row.newAt [3] rfl rfl rfl (by simp) (by simp)
theorem row012 (w : World) : Row (w.alloc (.cells #[.int .i64 0, .int .i64 1, .int .i64 2] 3)) (w.heap.size + 1) (some ⟨w.heap.size, 0, none⟩) 3 [0, 1, 2] := Row.newAt [0, 1, 2] rfl rfl rfl (by simp) (by simp)

end Go.Proofs.Ytlpohlcmjnlbhaa

set_option maxRecDepth 20000
namespace Go.Proofs.Ytlpohlcmjnlbhaa
open Go.RowKit

end Go.Proofs.Ytlpohlcmjnlbhaa
