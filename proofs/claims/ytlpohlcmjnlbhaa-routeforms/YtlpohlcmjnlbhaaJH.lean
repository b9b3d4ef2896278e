/-
  level.heads: of each vertex those to which its arcs with room go. level.heads, walked. level.Levels. The reference's Levels.
-/
import Derived.Test.YtlpohlcmjnlbhaaLevelA
import Derived.Test.YtlpohlcmjnlbhaaJB
import Derived.Test.YtlpohlcmjnlbhaaJF
import Derived.Test.YtlpohlcmjnlbhaaJE

set_option maxRecDepth 20000
namespace Go.Proofs.Ytlpohlcmjnlbhaa
open Go.RowKit

def isSl : Value → Bool
  | .slice _ _ _ => true
  | _ => false

/-- A row of numbers lies in no block of slices. -/
theorem Row.off {w : World} {B : Nat} {A : Option Addr} {n : Nat} {xs : List Int} {g i : Nat} {T : TypeId} {vs : List Value} (h : Row w B A n xs) (o : Own w g T vs) (hs : ∀ u ∈ vs, isSl u = true) (u : Value) : Row (w.setCell ⟨g, i, none⟩ u) B A n xs := by
  refine ⟨h.len, h.small, h.ok, fun hn => ?_⟩
  obtain ⟨b, off, hA, hb, hc⟩ := h.at_ hn
  refine ⟨b, off, hA, hb, fun j hj => other_get (fun e => ?_) (hc j hj)⟩
  subst e
  have h0 := hc 0 hn
  rw [o.cell] at h0
  have := hs _ (List.mem_of_getElem? h0)
  simp [isSl] at this

theorem Rows3.off {w : World} {B : Nat} {Ax Ay Az : Option Addr} {s o h : List Int} {g i : Nat} {T : TypeId} {vs : List Value} (t : Rows3 w B Ax Ay Az s o h) (ow : Own w g T vs) (hs : ∀ u ∈ vs, isSl u = true) (u : Value) : Rows3 (w.setCell ⟨g, i, none⟩ u) B Ax Ay Az s o h :=
  ⟨t.S.off ow hs u, t.O.off ow hs u, t.H.off ow hs u⟩

theorem Rows3.wide {w : World} {B B' : Nat} {Ax Ay Az : Option Addr} {s o h : List Int} (t : Rows3 w B Ax Ay Az s o h) (k : B ≤ B') : Rows3 w B' Ax Ay Az s o h := ⟨t.S.wide k, t.O.wide k, t.H.wide k⟩

/-- The first k of these values are the rows of hd. -/
def Nexts (w : World) (B : Nat) (vs : List Value) (hd : Nat → List Int) (k : Nat) : Prop := ∀ v, v < k → ∃ A c, vs[v]? = some (.slice A (hd v).length c) ∧ Row w B A (hd v).length (hd v)

theorem Nexts.grown' {w w' : World} {B : Nat} {vs : List Value} {hd : Nat → List Int} {k : Nat} {row : Option Nat} (t : Nexts w B vs hd k) (hB : B ≤ w.heap.size) (g : w.grownBy w' row) (hr : ∀ g, row = some g → B ≤ g) : Nexts w' B vs hd k := by
  intro v hv
  obtain ⟨A, c, e, r⟩ := t v hv
  exact ⟨A, c, e, r.grown' hB g hr⟩

theorem Nexts.off {w : World} {B : Nat} {vs us : List Value} {hd : Nat → List Int} {k g i : Nat} {T : TypeId} (t : Nexts w B vs hd k) (o : Own w g T us) (hs : ∀ u ∈ us, isSl u = true) (u : Value) : Nexts (w.setCell ⟨g, i, none⟩ u) B vs hd k := by
  intro v hv
  obtain ⟨A, c, e, r⟩ := t v hv
  exact ⟨A, c, e, r.off o hs u⟩

theorem Nexts.next {w : World} {B B' : Nat} {vs : List Value} {hd : Nat → List Int} {k : Nat} {A : Option Addr} {c : Nat} (t : Nexts w B vs hd k) (hB : B ≤ B') (hk : k < vs.length) (r : Row w B' A (hd k).length (hd k)) : Nexts w B' (vs.set k (.slice A (hd k).length c)) hd (k + 1) := by
  intro v hv
  by_cases e : v = k
  · subst e
    exact ⟨A, c, by rw [List.getElem?_set_self hk], r⟩
  · obtain ⟨A', c', e', r'⟩ := t v (by omega)
    exact ⟨A', c', by rw [List.getElem?_set_ne (by omega)]; exact e', r'.wide hB⟩

def HeadsPost (w : World) (vn : Nat) (hd : Nat → List Int) (e : Ending) (w' : World) : Prop :=
  ∃ g vs, e = .returned (.slice (some ⟨g, 0, none⟩) vn vn) ∧ w.heap.size ≤ g ∧ Own w' g 25 vs ∧ vs.length = vn ∧ Nexts w' w'.heap.size vs hd vn ∧ w.grownBy w' none

/-- What the two loops of heads keep. -/
structure HdKeep (w : World) (p q vn : Nat) (A : Option Addr) (n c : Nat) (ls : List Lk) (Ax Ay Az : Option Addr) (ns no nh cx cy cz : Nat) (B : Nat) (wr : World) : Prop where
  g : w.grownBy wr none
  ob : Own wr w.heap.size 24 [.int .i64 (vn : Nat), .slice A n c]
  oa : Own wr q 111 [.slice Ax ns cx, .slice Ay no cy, .slice Az nh cz]
  ra : Rows3 wr B Ax Ay Az (startsA ls n (vn + 1)) (ordA ls n vn) (headsA ls (2 * n))
  pq : w.heap.size < p ∧ p < q ∧ q < B
  sz : B ≤ wr.heap.size

theorem HdKeep.grown {w : World} {p q vn : Nat} {A : Option Addr} {n c : Nat} {ls : List Lk} {Ax Ay Az : Option Addr} {ns no nh cx cy cz B : Nat} {wr w' : World} {row : Option Nat} (h : HdKeep w p q vn A n c ls Ax Ay Az ns no nh cx cy cz B wr) (k : wr.grownBy w' row) (hr : ∀ g, row = some g → B ≤ g) :
    HdKeep w p q vn A n c ls Ax Ay Az ns no nh cx cy cz B w' := by
  have := h.pq
  exact ⟨grown_none h.g k (fun g e => by have := hr g e; omega), h.ob.kept' k (fun e => by have := hr _ e; omega), h.oa.kept' k (fun e => by have := hr _ e; omega), h.ra.grown' h.sz k hr, this, Nat.le_trans h.sz k.size⟩

theorem HdKeep.off {w : World} {p q vn : Nat} {A : Option Addr} {n c : Nat} {ls : List Lk} {Ax Ay Az : Option Addr} {ns no nh cx cy cz B i : Nat} {wr : World} {T : TypeId} {vs : List Value} (h : HdKeep w p q vn A n c ls Ax Ay Az ns no nh cx cy cz B wr) (o : Own wr p T vs) (hs : ∀ u ∈ vs, isSl u = true) (u : Value) :
    HdKeep w p q vn A n c ls Ax Ay Az ns no nh cx cy cz B (wr.setCell ⟨p, i, none⟩ u) := by
  have := h.pq
  exact ⟨grown_new h.g (by omega) u, h.ob.setOther (by omega) u, h.oa.setOther (by omega) u, h.ra.off o hs u, this, by simpa [World.setCell] using h.sz⟩

theorem HdKeep.wide {w : World} {p q vn : Nat} {A : Option Addr} {n c : Nat} {ls : List Lk} {Ax Ay Az : Option Addr} {ns no nh cx cy cz B : Nat} {wr : World} (h : HdKeep w p q vn A n c ls Ax Ay Az ns no nh cx cy cz B wr) : HdKeep w p q vn A n c ls Ax Ay Az ns no nh cx cy cz wr.heap.size wr := by
  have := h.pq
  have := h.sz
  exact ⟨h.g, h.ob, h.oa, h.ra.wide h.sz, by omega, Nat.le_refl _⟩

def HdRel (w : World) (p q vn : Nat) (A : Option Addr) (n c : Nat) (ls : List Lk) (Ax Ay Az : Option Addr) (ns no nh cx cy cz : Nat) (hd : Nat → List Int) (i : Value) (wr : World) : Prop :=
  ∃ (k : Nat) (vs : List Value), k ≤ vn ∧ i = .int .i64 (k : Nat) ∧ HdKeep w p q vn A n c ls Ax Ay Az ns no nh cx cy cz wr.heap.size wr ∧ Own wr p 25 vs ∧ vs.length = vn ∧ (∀ u ∈ vs, isSl u = true) ∧
    Nexts wr wr.heap.size vs hd k ∧ ∀ v, k ≤ v → v < vn → vs[v]? = some (.slice none 0 0)

def HdIn (w : World) (p q vn : Nat) (A : Option Addr) (n c : Nat) (ls : List Lk) (Ax Ay Az : Option Addr) (ns no nh cx cy cz : Nat) (hd : Nat → List Int) (caps f : List Int) (row : List Int) (Ar : Option Addr) (S k : Nat) (vs : List Value) (i : Value) (wr : World) : Prop :=
  ∃ (j : Nat) (Ag : Option Addr) (cg : Nat), j ≤ row.length ∧ i = .int .i64 (j : Nat) ∧ HdKeep w p q vn A n c ls Ax Ay Az ns no nh cx cy cz S wr ∧ Own wr p 25 (vs.set k (.slice Ag (hdR ls caps f (row.take j)).length cg)) ∧
    Nexts wr S vs hd k ∧ Row wr S Ar row.length row ∧ Mine wr S (.slice Ag (hdR ls caps f (row.take j)).length cg) (hdR ls caps f (row.take j)).length (hdR ls caps f (row.take j))

theorem info25 : (Try.prog.info? 25).map (fun i => (i.zero, i.size, i.bytes)) = some (some (.slice none 0 0), 1, 24) := by kernel_rfl

theorem ord_mono (ls : List Lk) (n a : Nat) : ∀ b, a ≤ b → (ordA ls n a).length ≤ (ordA ls n b).length
  | 0, h => by
    obtain rfl : a = 0 := by omega
    exact Nat.le_refl _
  | b + 1, h => by
    by_cases e : a = b + 1
    · rw [e]; exact Nat.le_refl _
    · have := ord_mono ls n a b (by omega)
      rw [ordA, List.length_append]
      omega

theorem ord_at (ls : List Lk) (n : Nat) : ∀ (vn k j : Nat), k < vn → j < (rowA ls (k : Int) (2 * n)).length → (ordA ls n vn)[(ordA ls n k).length + j]?.getD 0 = (rowA ls (k : Int) (2 * n))[j]?.getD 0
  | 0, _, _, h, _ => by omega
  | vn + 1, k, j, h, hj => by
    have hl : (ordA ls n (k + 1)).length = (ordA ls n k).length + (rowA ls (k : Int) (2 * n)).length := by rw [ordA, List.length_append]
    by_cases e : k < vn
    · rw [ordA, List.getElem?_append_left ?_]
      · exact ord_at ls n vn k j e hj
      · have := ord_mono ls n (k + 1) vn (by omega)
        omega
    · obtain rfl : k = vn := by omega
      rw [ordA, List.getElem?_append_right (by omega)]
      congr 2
      omega

def HdMid (wr : World) (k : Nat) (row : List Int) (a b c d : Value) (wx : World) : Prop :=
  ∃ Ar cr, a = .int .i64 (k : Nat) ∧ b = .slice Ar row.length cr ∧ c = .int .i64 (row.length : Nat) ∧ d = .int .i64 0 ∧ Row wr wr.heap.size Ar row.length row ∧ wr.grownBy wx none

theorem row_cut {w : World} {B : Nat} {A A' : Option Addr} {n c : Nat} {xs : List Int} {s r : Nat} {row : List Int} (h : Row w B A n xs) (hs : s + r ≤ n) (hc : n ≤ c) (hr : row.length = r) (he : ∀ j, j < r → xs[s + j]?.getD 0 = row[j]?.getD 0) (hA : ¬ c = s → A' = A.map (·.add s)) : Row w B A' r row := by
  have e : row = (xs.drop s).take r := by
    refine List.ext_getElem ?_ fun i h1 h2 => ?_
    · have := h.len
      simp; omega
    · have := he i (by omega)
      rw [List.getElem?_eq_getElem h1] at this
      rw [List.getElem_take, List.getElem_drop]
      have h3 : s + i < xs.length := by have := h.len; omega
      rw [List.getElem?_eq_getElem h3] at this
      exact this.symm
  rw [e]
  by_cases k : c = s
  · obtain rfl : r = 0 := by omega
    refine ⟨by simp, by omega, fun i => by simp, fun hn => by omega⟩
  · exact (h.tail (k := s) (by omega) (fun _ => hA k)).head (by omega)

theorem SRoom_yes (vn : Nat) (a : Int) (A : Option Addr) (n c : Nat) (L : List Lk) (X : Option Addr) (p d : Nat) (caps : List Int) (Y : Option Addr) (q e0 : Nat) (f : List Int) (w : World) {B B' B'' : Nat} (h : Lks w B A n L) (hB : B ≤ w.heap.size) (hx : Row w B' X p caps) (hB' : B' ≤ w.heap.size) (hy : Row w B'' Y q f) (hB'' : B'' ≤ w.heap.size) (hf : fitsF (vn : Nat) L caps f = true) (ha : 0 ≤ a ∧ a < (2 * n : Nat)) :
    Calls Try.prog 84 #[.agg #[.int .i64 (vn : Nat), .slice A n c], .slice X p d, .slice Y q e0, .int .i64 a] w (Says w (.tuple #[.int .i64 (roomI caps f a), .int .i64 0])) := by
  have hc := SRoom_any (vn : Nat) a A n c L X p d caps Y q e0 f w h hB hx hB' hy hB''
  have hb : roomB (vn : Nat) L caps f a = true := by
    rw [roomB, hf, h.len, Bool.true_and]
    exact isV_yes ha.1 (by omega)
  rw [roomV, (room_yes hb).1, (room_yes hb).2] at hc
  exact hc

theorem set_sl {vs : List Value} {k : Nat} {x : Value} (h : ∀ u ∈ vs, isSl u = true) (hx : isSl x = true) : ∀ u ∈ vs.set k x, isSl u = true := by
  intro u hu
  rcases List.mem_or_eq_of_mem_set hu with e | e
  · exact h u e
  · rw [e]; exact hx

theorem set_self {vs : List Value} {k : Nat} {x : Value} (h : vs[k]? = some x) : vs.set k x = vs := by
  apply List.ext_getElem?
  intro i
  by_cases e : i = k
  · subst e
    rw [List.getElem?_set_self (List.getElem?_eq_some_iff.1 h).1, h]
  · rw [List.getElem?_set_ne (by omega)]

theorem hd_in {vn n : Nat} {ls : List Lk} {caps f : List Int} (hm : mayG (vn : Nat) ls = true) (hl : ls.length = n) (v : Int) : ∀ x ∈ hdOf ls caps f n v, inV vn x := fun x hx => (leads_in hm hl v x (hd_mem.2 hx)).2

theorem hd_ok {vn n : Nat} {ls : List Lk} {caps f : List Int} (hm : mayG (vn : Nat) ls = true) (hl : ls.length = n) (v : Int) : okI (hdOf ls caps f n v) :=
  get_ok fun x hx => by
    have := hd_in hm hl v x hx
    have h8 := may_small hm
    have h1 := this.1
    have h2 := this.2
    omega

end Go.Proofs.Ytlpohlcmjnlbhaa

set_option maxRecDepth 20000
namespace Go.Proofs.Ytlpohlcmjnlbhaa
open Go.RowKit

set_option maxRecDepth 20000 in
set_option maxHeartbeats 4000000 in
theorem heads_any (vn : Nat) (A : Option Addr) (n c : Nat) (ls : List Lk) (X : Option Addr) (m d : Nat) (caps : List Int) (Y : Option Addr) (r e0 : Nat) (f : List Int) (w : World) {B B' B'' : Nat} (h : Lks w B A n ls) (hB : B ≤ w.heap.size) (hx : Row w B' X m caps) (hB' : B' ≤ w.heap.size) (hy : Row w B'' Y r f) (hB'' : B'' ≤ w.heap.size)
    (hf : fitsF (vn : Nat) ls caps f = true) : Calls Try.prog 71 #[.agg #[.int .i64 (vn : Nat), .slice A n c], .slice X m d, .slice Y r e0] w (HeadsPost w vn (fun v => hdOf ls caps f n (v : Int))) := by
  have HF := Lib.hid hf
  have HMAY := Lib.hid (fits_parts hf).1
  have HL := Lib.hid h.len
  have h16 := may_small HMAY.out
  rw [HL.out] at h16
  have HR := Lib.hid h
  have HX := Lib.hid hx
  have HY := Lib.hid hy
  obtain ⟨okS', okO', okH'⟩ := may_ok HMAY.out HL.out
  have okS := Lib.hid okS'
  have okO := Lib.hid okO'
  have okH := Lib.hid okH'
  have hls := starts_len ls n (vn + 1)
  have hlh := heads_len ls (2 * n)
  have hlo := ord_len ls n vn
  have hmul : 2 * n * vn ≤ 2 * 16 * 8 := Nat.mul_le_mul (by omega) (by omega)
  obtain ⟨i0, hi, hz0, hz1, hz2⟩ := info_parts info25
  have HI := Lib.hid hi
  have HZ0 := Lib.hid hz0
  have HZ1 := Lib.hid hz1
  have HZ2 := Lib.hid hz2
  clear hi hz0 hz1 hz2 hf h hx hy okS' okO' okH'
  go_enter Try.func71, Try.ntmps71
  go_upto_region 1 with fail
  have OB := Lib.hid (Own.new w 24 [.int .i64 (vn : Nat), .slice A n c])
  have G := Lib.hid (grow0 w (.cells #[.int .i64 (vn : Nat), .slice A n c] 24))
  have hs0 : (w.alloc (.cells #[.int .i64 (vn : Nat), .slice A n c] 24)).heap.size = w.heap.size + 1 := by simp
  generalize w.alloc (.cells #[.int .i64 (vn : Nat), .slice A n c] 24) = w0 at *
  obtain ⟨p0, p1⟩ := OB.out.two
  go_wp2_with (first | (refine wpList_make_full _ rfl _ _ 95 rfl w0.heap.size 25 i0 (.slice none 0 0) 1 Try.underlying95 HI.out HZ0.out HZ1.out .i64 .i64 (vn : Int) (vn : Int) vn rfl rfl rfl rfl (by rw [HZ2.out]; omega) (by unfold maxLen; omega) (Nat.le_refl _) ?_))
  intro w1 hmk k1
  rw [toList_madeCells_one] at hmk
  have OP : Hid (Own w1 (w.heap.size + 1) 25 (List.replicate vn (.slice none 0 0))) := Own.of_made hmk
  have G := Lib.hid (grown_trans G.out k1)
  have OB := Lib.hid (OB.out.kept k1)
  clear hmk k1 HI HZ0 HZ1 HZ2 p0 p1
  have hs1 := OP.out.lt
  obtain ⟨p0, p1⟩ := OB.out.two
  clear hs0
  go_wp2_with fail
  refine (Build_may vn A n c ls _ (HR.out.grown hB G.out) (by have := G.out.size; omega) HMAY.out).mono ?_
  rintro e w2 ⟨x, y, z, rfl, ta, k⟩
  obtain ⟨Ax, cx, rfl, _, _, rS⟩ := ta.S.rowN okS.out
  obtain ⟨Ay, cy, rfl, hcy, hny, rO⟩ := ta.O.rowN okO.out
  obtain ⟨Az, cz, rfl, _, _, rH⟩ := ta.H.rowN okH.out
  have ra : Rows3 w2 w2.heap.size Ax Ay Az (startsA ls n (vn + 1)) (ordA ls n vn) (headsA ls (2 * n)) := ⟨rS, rO, rH⟩
  obtain ⟨bs, offs, rfl, _, _⟩ := rS.at_ (by omega)
  have HNY := Lib.hid hny
  rw [hls, hlh]
  clear rS rO rH hny ta
  generalize hno : (ordA ls n vn).length = no at *
  have HNO := Lib.hid hno
  clear hno
  have k2 := grow0 w2 (.cells #[.slice (some ⟨bs, offs, none⟩) (vn + 1) cx, .slice Ay no cy, .slice Az (2 * n) cz] 111)
  have HS : Hid (HdRel w (w.heap.size + 1) w2.heap.size vn A n c ls (some ⟨bs, offs, none⟩) Ay Az (vn + 1) no (2 * n) cx cy cz (fun v => hdOf ls caps f n (v : Int)) (.int .i64 0) (w2.alloc (.cells #[.slice (some ⟨bs, offs, none⟩) (vn + 1) cx, .slice Ay no cy, .slice Az (2 * n) cz] 111))) := by
    refine ⟨0, List.replicate vn (.slice none 0 0), Nat.zero_le _, rfl, ⟨grown_trans (grown_trans G.out k) k2, (OB.out.kept k).kept k2, Own.new w2 111 [.slice (some ⟨bs, offs, none⟩) (vn + 1) cx, .slice Ay no cy, .slice Az (2 * n) cz], (ra.grown (Nat.le_refl _) k2).wide (by simp), ⟨by omega, ?_, by simp⟩, Nat.le_refl _⟩, (OP.out.kept k).kept k2, by simp, ?_, fun v hv => by omega, fun v _ hv => ?_⟩
    · have := k.size; omega
    · intro u hu
      rw [List.eq_of_mem_replicate hu]
      rfl
    · rw [List.getElem?_replicate, if_pos hv]
  have OB := Lib.hid ((OB.out.kept k).kept k2)
  clear k k2 ra OP G p0 p1 hs1
  obtain ⟨p0, p1⟩ := OB.out.two
  go_wp2
  go_loopw [25] (fun i wr => HdRel w (w.heap.size + 1) w2.heap.size vn A n c ls (some ⟨bs, offs, none⟩) Ay Az (vn + 1) no (2 * n) cx cy cz (fun v => hdOf ls caps f n (v : Int)) i wr) (fun i _ => vn - (intOf i).toNat)
  case atStart => exact HS.out
  case round =>
    clear HS OB p0 p1
    obtain ⟨k, vs, hk, rfl, keep, op, hvl, hsl, nx, nils⟩ := hrel
    have KEEP := Lib.hid keep
    have OP := Lib.hid op
    have HSL := Lib.hid hsl
    have NX := Lib.hid nx
    have NILS := Lib.hid nils
    have hpq := keep.pq
    clear keep op hsl nx nils
    by_cases hlt : k < vn
    · have hs0 := KEEP.out.ra.S.cellAt (i := k) (by omega)
      have hs1 := KEEP.out.ra.S.cellAt (i := k + 1) (by omega)
      rw [starts_at ls n (vn + 1) k (by omega)] at hs0
      have ho1 : (ordA ls n (k + 1)).length = (ordA ls n k).length + (rowA ls (k : Nat) (2 * n)).length := by rw [ordA, List.length_append]
      rw [starts_at ls n (vn + 1) (k + 1) (by omega), ho1] at hs1
      have hmo := ord_mono ls n (k + 1) vn (by omega)
      rw [ho1, HNO.out] at hmo
      clear ho1
      have HAT := Lib.hid (fun j => ord_at ls n vn k j hlt)
      have hrl := row_len ls (k : Nat) (2 * n)
      have hrm := Lib.hid (row_mem ls (k : Nat) (2 * n))
      have HDK : Hid (hdOf ls caps f n (k : Int) = hdR ls caps f (rowA ls (k : Int) (2 * n))) := rfl
      obtain ⟨a0, a1, a2⟩ := KEEP.out.oa.three
      have ro := KEEP.out.ra.O
      rw [HNO.out] at ro
      have RO := Lib.hid ro
      clear ro
      generalize (ordA ls n k).length = s0 at *
      generalize rowA ls (k : Nat) (2 * n) = row at *
      have CUT : Hid (∀ A' : Option Addr, (¬ cy = s0 → A' = Ay.map (·.add s0)) → Row wr wr.heap.size A' row.length row) := fun A' h1 => row_cut RO.out hmo hcy rfl HAT.out h1
      clear HAT RO
      have hmo1 : s0 + row.length ≤ cy := by omega
      go_upto_region 6 with fail
      go_cut [25, 41, 42, 43] from 25 to 72 (fun a b c d wx => HdMid wr k row a b c d wx)
      case first =>
        have hsum : ((s0 + row.length : Nat) : Int) = (s0 : Int) + (row.length : Int) := by omega
        by_cases hcs : cy = s0
        · subst hcs
          obtain rfl : row = [] := List.eq_nil_of_length_eq_zero (by omega)
          have CUT1 := Lib.hid (CUT.out Ay (fun h => absurd rfl h))
          clear CUT
          go_quiet (fail)
          go_wp2
          go_meet
          case rel => exact ⟨_, _, rfl, rfl, rfl, rfl, CUT1.out, grown_drewN (World.grownBy.refl _ _) _⟩
        · have hsc : ¬ s0 = cy := fun h => hcs h.symm
          cases Ay with
          | none =>
            have := HNY.out rfl
            omega
          | some ay =>
            go_quiet (fail)
            go_wp2
            go_meet
            case rel => exact ⟨some (ay.add s0), cy - s0, rfl, by rw [Nat.add_sub_cancel_left], rfl, rfl, CUT.out _ (fun _ => rfl), grown_drewN (World.grownBy.refl _ _) _⟩
      case rest =>
        obtain ⟨Ar, cr, rfl, rfl, rfl, rfl, rr, gx⟩ := hcut
        obtain ⟨S, hS⟩ : ∃ S, S = wr.heap.size := ⟨_, rfl⟩
        rw [← hS] at KEEP NX rr hpq
        have HSW : Hid (S ≤ wr.heap.size) := by rw [hS]; exact Nat.le_refl _
        clear hS
        have HS : Hid (HdIn w (w.heap.size + 1) w2.heap.size vn A n c ls (some ⟨bs, offs, none⟩) Ay Az (vn + 1) no (2 * n) cx cy cz (fun v => hdOf ls caps f n (v : Int)) caps f row Ar S k vs (.int .i64 0) wc) :=
          ⟨0, none, 0, Nat.zero_le _, rfl, KEEP.out.grown gx (by simp), by rw [show (hdR ls caps f (row.take 0)).length = 0 from rfl, set_self (NILS.out k (Nat.le_refl _) hlt)]; exact OP.out.kept gx, NX.out.grown' HSW.out gx (by simp), rr.grown HSW.out gx, Mine.nil _ _⟩
        clear KEEP OP NX rr gx CUT a0 a1 a2 hs0 hs1 hmo hmo1 HNY
        go_wp2
        go_loopw [43] (fun i wi => HdIn w (w.heap.size + 1) w2.heap.size vn A n c ls (some ⟨bs, offs, none⟩) Ay Az (vn + 1) no (2 * n) cx cy cz (fun v => hdOf ls caps f n (v : Int)) caps f row Ar S k vs i wi) (fun i _ => row.length - (intOf i).toNat)
        case atStart => exact HS.out
        case round =>
          clear HS
          obtain ⟨j, Ag, cg, hj, rfl, keep, op, nx, rr, mg⟩ := hrel
          have KEEP := Lib.hid keep
          have OP := Lib.hid op
          have NX := Lib.hid nx
          have MG := Lib.hid mg
          have RR := Lib.hid rr
          have hsz := keep.sz
          have hpq := keep.pq
          obtain ⟨p0, p1⟩ := keep.ob.two
          clear keep op nx mg rr
          by_cases hjl : j < row.length
          · obtain ⟨br, offr, rfl, _, hcr⟩ := RR.out.at_ (by omega)
            have d0 := hcr j hjl
            have hab : 0 ≤ row[j]?.getD 0 ∧ row[j]?.getD 0 < ((2 * n : Nat) : Int) := by
              rw [List.getElem?_eq_getElem hjl]
              exact hrm.out _ (List.getElem_mem hjl)
            have HY1 := Lib.hid (hd_yes (ls := ls) (caps := caps) (f := f) hjl)
            have HN1 := Lib.hid (hd_no (ls := ls) (caps := caps) (f := f) hjl)
            have hhl := hd_len ls caps f (row.take j)
            rw [List.length_take] at hhl
            obtain ⟨an, han⟩ : ∃ an : Nat, row[j]?.getD 0 = (an : Nat) := ⟨(row[j]?.getD 0).toNat, by omega⟩
            rw [han] at d0 hab HY1 HN1
            rw [Int.toNat_natCast] at HY1
            have hhb := head_bd HMAY.out (a := an) (by have := HL.out; omega)
            obtain ⟨bh, offh, hAz, _, hch⟩ := KEEP.out.ra.H.at_ (by omega)
            subst hAz
            have d1 := hch an (by omega)
            rw [heads_at ls _ an (by omega)] at d1
            have D1 := Lib.hid d1
            clear hcr hch d1 han
            generalize hdR ls caps f (row.take j) = hs at *
            generalize headOf ls an = hx at *
            go_wp2_with fail
            refine (SRoom_yes vn (an : Nat) A n c ls X m d caps Y r e0 f _ (HR.out.grown hB KEEP.out.g) (by have := KEEP.out.g.size; omega) (HX.out.grown hB' KEEP.out.g) (by have := KEEP.out.g.size; omega) (HY.out.grown hB'' KEEP.out.g) (by have := KEEP.out.g.size; omega) HF.out (by omega)).mono ?_
            rintro e w5 ⟨rfl, g5⟩
            have KEEP := Lib.hid (KEEP.out.grown g5 (by simp))
            have OP := Lib.hid (OP.out.kept g5)
            have NX := Lib.hid (NX.out.grown' hsz g5 (by simp))
            have MG := Lib.hid (MG.out.kept g5)
            have RR := Lib.hid (RR.out.grown hsz g5)
            have d1 := kept g5 D1.out
            have hs5 := KEEP.out.sz
            clear g5 D1 d0 p0 p1 hsz
            generalize roomI caps f (an : Int) = rm at *
            by_cases hpos : 0 < rm
            · have HY2 := Lib.hid (HY1.out (by omega))
              clear HY1 HN1
              have hab0 : (0 : Int) ≤ (an : Int) := by omega
              have hab1 : (an : Int) < 2 * (n : Int) := by omega
              have hkv0 : (k : Int) < (vn : Int) := by omega
              have a2 := KEEP.out.oa.three.2.2
              have c0 : w5.cell? ⟨w.heap.size + 1, k, none⟩ = some (.slice Ag hs.length cg) := by rw [OP.out.cell k, List.getElem?_set_self (by omega)]
              have c0' : (w5.alloc (.cells #[.int .i64 hx] 3)).cell? ⟨w.heap.size + 1, k, none⟩ = some (.slice Ag hs.length cg) := kept (grow0 _ _) c0
              have HM1 : Hid (Mine (w5.alloc (.cells #[.int .i64 hx] 3)).drew S (.slice Ag hs.length cg) hs.length hs) := MG.out.kept (grown_drew (grow0 _ _))
              have HROW : Hid (Row (w5.alloc (.cells #[.int .i64 hx] 3)).drew (w5.heap.size + 1) (some ⟨w5.heap.size, 0, none⟩) 1 [hx]) := (Row.newAt (w := w5) (g := w5.heap.size) (n := 1) (vs := #[.int .i64 hx]) [hx] rfl rfl rfl (by simp) (by simp; omega)).drewN 1
              have KE : Hid (HdKeep w (w.heap.size + 1) w2.heap.size vn A n c ls (some ⟨bs, offs, none⟩) Ay (some ⟨bh, offh, none⟩) (vn + 1) no (2 * n) cx cy cz S (w5.alloc (.cells #[.int .i64 hx] 3)).drew) := KEEP.out.grown (grown_drew (grow0 _ _)) (by simp)
              have OE : Hid (Own (w5.alloc (.cells #[.int .i64 hx] 3)).drew (w.heap.size + 1) 25 (vs.set k (.slice Ag hs.length cg))) := OP.out.kept (grown_drew (grow0 _ _))
              have NE : Hid (Nexts (w5.alloc (.cells #[.int .i64 hx] 3)).drew S vs (fun v => hdOf ls caps f n (v : Int)) k) := NX.out.grown' hs5 (grown_drew (grow0 _ _)) (by simp)
              have RE : Hid (Row (w5.alloc (.cells #[.int .i64 hx] 3)).drew S (some ⟨br, offr, none⟩) row.length row) := RR.out.grown hs5 (grown_drew (grow0 _ _))
              clear KEEP OP NX MG RR
              go_upto_region 11 with fail
              go_region_law
                ((refine step_app4 rfl _ _ (by rfl) S _ hs.length hs (by rfl) HM1.out (some ⟨w5.heap.size, 0, none⟩) 1 1 [hx] (by rfl) HROW.out (by simp) (by omega) (by simp; omega) ?_; intro v6 w6 hm6 hg6 _; have hge := HM1.out.own_ge; obtain ⟨A6, c6, rfl, _⟩ := hm6.sl; have K6 := Lib.hid (KE.out.grown hg6 hge); have O6 := Lib.hid (OE.out.kept' hg6 (fun e => by have := hge _ e; omega)); have N6 := Lib.hid (NE.out.grown' (by simp; omega) hg6 hge); have R6 := Lib.hid (RE.out.grown' (by simp; omega) hg6 hge); have M6 := Lib.hid hm6; have k0 := O6.out.cell k; rw [List.getElem?_set_self (by omega)] at k0; have t0 := O6.out.frozen k; clear hm6 hg6 hge))
              all_goals have HL2 : Hid ((hdR ls caps f (row.take (j + 1))).length = hs.length + 1) := by rw [Hid, HY2.out, List.length_append]; rfl
              all_goals have P6 : Hid (Own (w6.setCell ⟨w.heap.size + 1, k, none⟩ (.slice A6 (hs.length + 1) c6)) (w.heap.size + 1) 25 (vs.set k (.slice A6 (hs.length + 1) c6))) := by have := O6.out.put (i := k) (.slice A6 (hs.length + 1) c6); rw [List.set_set] at this; exact this
              all_goals go_wp2
              all_goals go_roundw
              all_goals first
                | (simp [intOf]; omega)
                | exact ⟨j + 1, A6, c6, by omega, by go_num, K6.out.off O6.out (set_sl HSL.out rfl) _, by rw [HL2.out]; exact P6.out, N6.out.off O6.out (set_sl HSL.out rfl) _, R6.out.off O6.out (set_sl HSL.out rfl) _, by rw [HL2.out, HY2.out]; exact M6.out.putLow (by omega)⟩
            · have HN2 := Lib.hid (HN1.out (by omega))
              clear HY1 HN1
              go_wp2
              go_roundw
              case rel => exact ⟨j + 1, Ag, cg, by omega, by go_num, KEEP.out, by rw [HN2.out]; exact OP.out, NX.out, RR.out, by rw [HN2.out]; exact MG.out⟩
              case measure => simp [intOf]; omega
          · obtain rfl : j = row.length := by omega
            have OK := Lib.hid (hd_ok HMAY.out HL.out (caps := caps) (f := f) (k : Int))
            have op := OP.out
            have mg := MG.out
            rw [List.take_length, ← HDK.out] at op mg
            have HN := Lib.hid (Nexts.next (c := cg) NX.out hsz (by omega) (mg.rowAt OK.out))
            have OP := Lib.hid op
            clear op mg MG
            go_wp2
            go_roundw
            case rel =>
              refine ⟨k + 1, _, by omega, by go_num, KEEP.out.wide, OP.out, by simpa using hvl, set_sl HSL.out rfl, HN.out, fun v h1 h2 => ?_⟩
              rw [List.getElem?_set_ne (by omega)]
              exact NILS.out v (by omega) h2
            case measure => simp [intOf]; omega
    · obtain rfl : vn = k := by omega
      go_wp2
      go_ret
      exact ⟨_, vs, rfl, by omega, OP.out, hvl, NX.out, KEEP.out.g⟩

end Go.Proofs.Ytlpohlcmjnlbhaa

set_option maxRecDepth 20000
namespace Go.Proofs.Ytlpohlcmjnlbhaa
open Go.RowKit

def LvPost (w : World) (V : Int) (ls : List Lk) (caps f : List Int) (s : Int) (e : Ending) (w' : World) : Prop := ∃ M z, LvIs V ls caps f s M z ∧ SelPost w M z e w'

def LevRel (w : World) (g vn : Nat) (hd : Int → List Int) (s : Int) (o i : Value) (wr : World) : Prop :=
  ∃ (a : Nat) (M Q : List Int) (Aq : Option Addr) (cq : Nat), a ≤ Q.length ∧ i = .int .i64 (a : Nat) ∧ o = .slice Aq Q.length cq ∧ w.grownBy wr none ∧ Own wr g 3 (ints M) ∧ Mine wr (g + 1) (.slice Aq Q.length cq) Q.length Q ∧ Bfs vn hd s M Q a 0

def LvIn (w : World) (g vn : Nat) (hd : Int → List Int) (s : Int) (a : Nat) (v : Int) (o i : Value) (wr : World) : Prop :=
  ∃ (j : Nat) (M Q : List Int) (Aq : Option Addr) (cq : Nat), j ≤ (hd v).length ∧ i = .int .i64 (j : Nat) ∧ o = .slice Aq Q.length cq ∧ w.grownBy wr none ∧ Own wr g 3 (ints M) ∧ Mine wr (g + 1) (.slice Aq Q.length cq) Q.length Q ∧ Bfs vn hd s M Q a j ∧ a < Q.length ∧ qAt Q a = v

theorem bfs_ok {V : Nat} {hd : Int → List Int} {s : Int} {M Q : List Int} {a j : Nat} (b : Bfs V hd s M Q a j) (h8 : V ≤ 8) : okI Q := by
  intro i
  by_cases hi : i < Q.length
  · have := b.isin i hi
    have h1 := this.1
    have h2 := this.2
    unfold qAt at h1 h2
    omega
  · rw [List.getElem?_eq_none (by omega)]
    simp

theorem lv_cell {w : World} {g : Nat} {T : TypeId} {M : List Int} {v : Nat} (h : Own w g T (ints M)) (hv : v < M.length) : w.cell? ⟨g, v, none⟩ = some (.int .i64 (lvAt M (v : Int))) := by
  rw [h.cell v, ints_get M v hv]
  simp [lvAt]

theorem lvB_may {V : Int} {ls : List Lk} {caps f : List Int} {s : Int} (h : mayG V ls = false) : lvB V ls caps f s = false := by simp [lvB, fitsF, h]
theorem lvB_caps {V : Int} {ls : List Lk} {caps f : List Int} {s : Int} (h : capsB ls caps = false) : lvB V ls caps f s = false := by simp [lvB, fitsF, h]
theorem lvB_rates {V : Int} {ls : List Lk} {caps f : List Int} {s : Int} (h : ratesB caps f = false) : lvB V ls caps f s = false := by simp [lvB, fitsF, h]
theorem lvB_src {V : Int} {ls : List Lk} {caps f : List Int} {s : Int} (h : isV V s = false) : lvB V ls caps f s = false := by simp [lvB, h]
theorem lvB_all {V : Int} {ls : List Lk} {caps f : List Int} {s : Int} (h1 : mayG V ls = true) (h2 : capsB ls caps = true) (h3 : ratesB caps f = true) (h4 : isV V s = true) : lvB V ls caps f s = true := by simp [lvB, fitsF, h1, h2, h3, h4]

theorem lv_bad {w w' : World} {V : Int} {ls : List Lk} {caps f : List Int} {s : Int} (h : lvB V ls caps f s = false) (g : w.grownBy w' none) : LvPost w V ls caps f s (.returned (.tuple #[.slice none 0 0, .int .i64 1000])) w' :=
  ⟨[], 1000, lev_no h, _, rfl, Mine.nil _ _, g⟩

set_option maxRecDepth 20000 in
set_option maxHeartbeats 4000000 in
theorem Levels_any (V s : Int) (A : Option Addr) (n c : Nat) (ls : List Lk) (X : Option Addr) (m d : Nat) (caps : List Int) (Y : Option Addr) (r e0 : Nat) (f : List Int) (w : World) {B B' B'' : Nat} (h : Lks w B A n ls) (hB : B ≤ w.heap.size) (hx : Row w B' X m caps) (hB' : B' ≤ w.heap.size) (hy : Row w B'' Y r f) (hB'' : B'' ≤ w.heap.size) :
    Calls Try.prog 44 #[.agg #[.int .i64 V, .slice A n c], .slice X m d, .slice Y r e0, .int .i64 s] w (LvPost w V ls caps f s) := by
  have HL := Lib.hid h.len
  have HR := Lib.hid h
  have HX := Lib.hid hx
  have HY := Lib.hid hy
  have HR1 := Lib.hid (h.grown hB (grow0 w (.cells #[.int .i64 V, .slice A n c] 24)))
  clear h hx hy
  go_enter Try.func44, Try.ntmps44
  go_wp2_with fail
  refine (GMay_any V A n c ls _ HR1.out (by simp; omega)).mono ?_
  rintro e w1 ⟨rfl, g1⟩
  obtain ⟨g, o2⟩ := box1 [.int .i64 V, .slice A n c] g1
  obtain ⟨c0, c1⟩ := o2.two
  have G := Lib.hid g
  have O2 := Lib.hid o2
  clear g g1 o2 HR1
  cases hmay : mayG V ls
  · have E := Lib.hid (lvB_may (caps := caps) (f := f) (s := s) hmay)
    clear hmay
    go_wp2
    go_ret2
    exact lv_bad E.out G.out
  have HMAY := Lib.hid hmay
  have H8 := Lib.hid (may_8 hmay HL.out).1
  clear hmay
  go_wp2_with fail
  refine (areCaps_any V A n c ls X m d caps _ (HR.out.grown hB G.out) (HX.out.grown hB' G.out) (by have := G.out.size; omega) H8.out).mono ?_
  rintro e w2 ⟨rfl, g2⟩
  have G := Lib.hid (grown_trans G.out g2)
  have O2 := Lib.hid (O2.out.kept g2)
  clear g2 c0 c1
  cases hcap : capsB ls caps
  · have E := Lib.hid (lvB_caps (V := V) (f := f) (s := s) hcap)
    clear hcap
    go_wp2
    go_ret2
    exact lv_bad E.out G.out
  have HCAP := Lib.hid hcap
  clear hcap
  go_wp2_with fail
  refine (Rates_any X m d caps Y r e0 f _ (HX.out.grown hB' G.out) (HY.out.grown hB'' G.out)).mono ?_
  rintro e w3 ⟨rfl, g3⟩
  have G := Lib.hid (grown_trans G.out g3)
  have O2 := Lib.hid (O2.out.kept g3)
  clear g3
  obtain ⟨c0, c1⟩ := O2.out.two
  cases hrt : ratesB caps f
  · have E := Lib.hid (lvB_rates (V := V) (ls := ls) (s := s) hrt)
    clear hrt
    go_wp2
    go_ret2
    exact lv_bad E.out G.out
  have HRT := Lib.hid hrt
  clear hrt
  go_wp2_with fail
  refine (Vert1_any V s A n c _ rfl).mono ?_
  rintro e w4 ⟨rfl, g4⟩
  have G := Lib.hid (grown_trans G.out g4)
  have O2 := Lib.hid (O2.out.kept g4)
  clear g4 c0 c1
  obtain ⟨c0, c1⟩ := O2.out.two
  cases hs : isV V s
  · have E := Lib.hid (lvB_src (ls := ls) (caps := caps) (f := f) hs)
    clear hs
    go_wp2
    go_ret2
    exact lv_bad E.out G.out
  have HB := Lib.hid (lvB_all HMAY.out HCAP.out HRT.out hs)
  have h16 := may_small HMAY.out
  rw [HL.out] at h16
  obtain ⟨vn, rfl⟩ : ∃ vn : Nat, V = (vn : Nat) := ⟨V.toNat, by omega⟩
  have hsv : 0 ≤ s ∧ s < vn := by simpa [isV] using hs
  obtain ⟨sn, rfl⟩ : ∃ sn : Nat, s = (sn : Nat) := ⟨s.toNat, by omega⟩
  clear hs
  have HFIT := Lib.hid (lvB_parts HB.out).1
  go_wp2_with fail
  refine (heads_any vn A n c ls X m d caps Y r e0 f _ (HR.out.grown hB G.out) (by have := G.out.size; omega) (HX.out.grown hB' G.out) (by have := G.out.size; omega) (HY.out.grown hB'' G.out) (by have := G.out.size; omega) HFIT.out).mono ?_
  rintro e w5 ⟨gN, vsN, rfl, hgN, oN, hvN, nx, g5⟩
  have G := Lib.hid (grown_trans G.out g5)
  have O2 := Lib.hid (O2.out.kept g5)
  have ON := Lib.hid oN
  have NX := Lib.hid nx
  have l5 := oN.lt
  clear g5 c0 c1 oN nx
  obtain ⟨c0, c1⟩ := O2.out.two
  have HROW := Lib.hid (Row.newAt (w := w5) (g := w5.heap.size) (n := 1) (vs := #[.int .i64 (-1)]) [-1] rfl rfl rfl (by simp) (by simp))
  have c0' := kept (grow0 w5 (.cells #[.int .i64 (-1)] 3)) c0
  have c1' := kept (grow0 w5 (.cells #[.int .i64 (-1)] 3)) c1
  go_wp2_with fail
  refine (Repeat_any _ vn (-1) _ HROW.out (by omega) (by omega)).mono ?_
  rintro e w6 ⟨g, rfl, hg, o6, g6⟩
  have hg5 : w5.heap.size < g := by have := hg; simp at this; omega
  have G6 := Lib.hid (grown_trans (grow0 w5 _) g6)
  have e0 : w6.cell? ⟨g, sn, none⟩ = some (.int .i64 (-1)) := by
    rw [o6.cell sn, ints_get _ _ (by simp; omega), List.getElem?_replicate, if_pos (by omega)]
    rfl
  have f0 := o6.frozen sn
  have O6 := Lib.hid o6
  have l6 := o6.lt
  have GS : Hid (w5.grownBy ((w6.setCell ⟨g, sn, none⟩ (.int .i64 0)).alloc (.cells #[.int .i64 (sn : Nat)] 3)) none) := grown_alloc (grown_new G6.out (by omega) _) _
  have HS : Hid (LevRel w5 g vn (fun v => hdOf ls caps f n v) (sn : Nat) (.slice (some ⟨w6.heap.size, 0, none⟩) 1 1) (.int .i64 0) ((w6.setCell ⟨g, sn, none⟩ (.int .i64 0)).alloc (.cells #[.int .i64 (sn : Nat)] 3))) := by
    refine ⟨0, (List.replicate vn (-1)).set sn 0, [(sn : Int)], some ⟨w6.heap.size, 0, none⟩, 1, by simp, rfl, rfl, GS.out, ?_, ?_, ?_⟩
    · have := (O6.out.put (i := sn) (.int .i64 0)).alloc (.cells #[.int .i64 (sn : Nat)] 3)
      rw [ints_set] at this
      exact this
    · exact Mine.lit (w := w6.setCell ⟨g, sn, none⟩ (.int .i64 0)) (base := g + 1) (g := w6.heap.size) [(sn : Int)] 1 (by simp [World.setCell]) rfl rfl (by simp [World.setCell]; omega) (by simp)
    · have := bfs_first (V := vn) (hd := fun v => hdOf ls caps f n v) (s := (sn : Int)) ⟨by omega, by omega⟩
      rw [Int.toNat_natCast] at this
      exact this
  clear o6 g6 G6 O6 GS HROW c0' c1' hg
  go_wp2
  go_loopw [12, 13] (fun o i wr => LevRel w5 g vn (fun v => hdOf ls caps f n v) (sn : Nat) o i wr) (fun _ i _ => vn - (intOf i).toNat)
  case atStart => exact HS.out
  case round =>
    clear HS c0 c1 e0 f0
    obtain ⟨a, M, Q, Aq, cq, ha, rfl, rfl, hgr, om, mq, bfs⟩ := hrel
    have hmany := bfs.many
    have GR := Lib.hid hgr
    have OM := Lib.hid om
    have MQ := Lib.hid mq
    have BF := Lib.hid bfs
    have hsz := hgr.size
    clear hgr om mq bfs
    by_cases hlt : a < Q.length
    · obtain ⟨bq, offq, rfl, _, hcq⟩ := (MQ.out.rowAt (bfs_ok BF.out (by omega))).at_ (by omega)
      have d0 := hcq a hlt
      have hiv := BF.out.isin a hlt
      have HQ : Hid (Q[a]?.getD 0 = qAt Q a) := rfl
      rw [HQ.out] at d0
      obtain ⟨v, hv⟩ : ∃ v : Nat, qAt Q a = (v : Nat) := ⟨(qAt Q a).toNat, by have := hiv.1; omega⟩
      rw [hv] at d0
      have hvn : v < vn := by have := hiv.2; omega
      obtain ⟨Ah, ch, hvs, hrow⟩ := NX.out v hvn
      have e1 : wr.cell? ⟨gN, v, none⟩ = some (.slice Ah (hdOf ls caps f n (v : Int)).length ch) := kept GR.out (by rw [ON.out.cell v]; exact hvs)
      have HH := Lib.hid hrow
      have HIN := Lib.hid (hd_in HMAY.out HL.out (caps := caps) (f := f) (v : Int))
      have HS : Hid (LvIn w5 g vn (fun v => hdOf ls caps f n v) (sn : Nat) a (v : Nat) (.slice (some ⟨bq, offq, none⟩) Q.length cq) (.int .i64 0) wr) :=
        ⟨0, M, Q, _, cq, Nat.zero_le _, rfl, rfl, GR.out, OM.out, MQ.out, BF.out, hlt, hv⟩
      have hhl := hd_len ls caps f (rowA ls (v : Int) (2 * n))
      have hhl2 := row_len ls (v : Int) (2 * n)
      rw [show hdR ls caps f (rowA ls (v : Int) (2 * n)) = hdOf ls caps f n (v : Int) from rfl] at hhl
      have HDV : Hid (∃ l, l = hdOf ls caps f n (v : Int)) := ⟨_, rfl⟩
      clear hcq hiv hvs hrow OM MQ BF GR
      go_wp2
      go_loopw [12, 67] (fun o i wi => LvIn w5 g vn (fun v => hdOf ls caps f n v) (sn : Nat) a (v : Nat) o i wi) (fun _ i _ => (hdOf ls caps f n (v : Int)).length - (intOf i).toNat)
      case atStart => exact HS.out
      case round =>
        clear HS d0 e1
        obtain ⟨j, M, Q, Aq, cq, hj, rfl, rfl, hgr, om, mq, bfs, hal, hqa⟩ := hrel
        have hlm := bfs.len
        have hgot := bfs.got a hal
        rw [hqa] at hgot
        have hmany := bfs.many
        have GR := Lib.hid hgr
        have OM := Lib.hid om
        have MQ := Lib.hid mq
        have BF := Lib.hid bfs
        have hsz := hgr.size
        have lo := om.lt
        clear hgr om mq bfs
        by_cases hjl : j < (hdOf ls caps f n (v : Int)).length
        · obtain ⟨bh, offh, rfl, _, hch⟩ := HH.out.at_ (by omega)
          have d1 := kept GR.out (hch j hjl)
          have hxv : inV vn ((hdOf ls caps f n (v : Int))[j]?.getD 0) := by
            rw [List.getElem?_eq_getElem hjl]
            exact HIN.out _ (List.getElem_mem hjl)
          have BO := Lib.hid (fun hn => bfs_old BF.out (by rw [hqa]; exact hxv) hn)
          have BN := Lib.hid (fun x hx => bfs_new (x := x) BF.out hal (by rw [hqa]; exact hjl) hx)
          rw [hqa] at BO BN
          obtain ⟨x, hx⟩ : ∃ x : Nat, (hdOf ls caps f n (v : Int))[j]?.getD 0 = (x : Nat) := ⟨((hdOf ls caps f n (v : Int))[j]?.getD 0).toNat, by have := hxv.1; omega⟩
          have BN2 := Lib.hid (BN.out _ hx)
          rw [hx] at d1 hxv BO
          rw [Int.toNat_natCast] at BN2
          have hxn : x < vn := by have := hxv.2; omega
          have e1 := lv_cell (v := x) OM.out (by omega)
          have e2 := lv_cell (v := v) OM.out (by omega)
          clear BN hch HH
          by_cases hneg : lvAt M (x : Int) < 0
          · have BN3 := Lib.hid (BN2.out hxv hneg)
            have f1 := OM.out.frozen x
            have OM2 : Hid (Own (wr.setCell ⟨g, x, none⟩ (.int .i64 (lvAt M (v : Int) + 1))) g 3 (ints (M.set x (lvAt M (v : Int) + 1)))) := by
              have := OM.out.put (i := x) (.int .i64 (lvAt M (v : Int) + 1))
              rw [ints_set] at this
              exact this
            clear BN2 BO
            generalize lvAt M (x : Int) = lx at *
            generalize lvAt M (v : Int) = lv at *
            have HM1 : Hid (Mine ((wr.setCell ⟨g, x, none⟩ (.int .i64 (lv + 1))).alloc (.cells #[.int .i64 (x : Nat)] 3)) (g + 1) (.slice Aq Q.length cq) Q.length Q) := (MQ.out.putLow (by omega)).kept (grow0 _ _)
            have HROW := Lib.hid (Row.newAt (w := wr.setCell ⟨g, x, none⟩ (.int .i64 (lv + 1))) (g := wr.heap.size) (n := 1) (vs := #[.int .i64 (x : Nat)]) [(x : Int)] (by simp [World.setCell]) rfl rfl (by simp) (by simp; omega))
            have hss : (wr.setCell ⟨g, x, none⟩ (.int .i64 (lv + 1))).heap.size = wr.heap.size := by simp [World.setCell]
            go_wp2_with (first | (at_builtin; refine wpList_app _ rfl _ _ rfl (g + 1) _ Q.length Q rfl HM1.out (some ⟨wr.heap.size, 0, none⟩) 1 1 [(x : Int)] rfl HROW.out (by simp) (by omega) (by simp [hss]; omega) ?_))
            intro v1 w7 hm1 hg7 _
            have hge := HM1.out.own_ge
            have G7 := Lib.hid (grown_none (grown_alloc (grown_new (g := g) (i := x) GR.out (by omega) (.int .i64 (lv + 1))) (.cells #[.int .i64 (x : Nat)] 3)) hg7 (fun g' hg' => by have := hge g' hg'; omega))
            have O7 := Lib.hid ((OM2.out.alloc (.cells #[.int .i64 (x : Nat)] 3)).kept' hg7 (fun e => by have := hge _ e; omega))
            have hql : (Q ++ [(x : Int)]).length = Q.length + 1 := by simp
            have hm2 : Mine w7 (g + 1) v1 (Q ++ [(x : Int)]).length (Q ++ [(x : Int)]) := by rw [hql]; exact hm1
            obtain ⟨A7, c7, rfl, _⟩ := hm2.sl
            have M7 := Lib.hid hm2
            have hq2 : qAt (Q ++ [(x : Int)]) a = (v : Nat) := by rw [q_app hal]; exact hqa
            clear hm1 hm2 hg7 hge HM1 HROW OM2 OM MQ GR e1 e2 f1 d1
            go_wp2
            go_roundw
            case rel => exact ⟨j + 1, M.set x (lv + 1), Q ++ [(x : Int)], A7, c7, hjl, by go_num, rfl, G7.out, O7.out, M7.out, BN3.out, by omega, hq2⟩
            case measure => simp [intOf]; omega
          · have BO2 := Lib.hid (BO.out (by omega))
            clear BN2 BO
            go_wp2
            go_roundw
            case rel => exact ⟨j + 1, M, Q, Aq, cq, hjl, by go_num, rfl, GR.out, OM.out, MQ.out, BO2.out, hal, hqa⟩
            case measure => simp [intOf]; omega
        · obtain rfl : j = (hdOf ls caps f n (v : Int)).length := Nat.le_antisymm hj (by omega)
          have BX := Lib.hid (bfs_next BF.out hal (by rw [hqa]; exact Nat.le_refl _))
          go_wp2
          go_roundw
          case rel => exact ⟨a + 1, M, Q, Aq, cq, by omega, by go_num, rfl, GR.out, OM.out, MQ.out, BX.out⟩
          case measure => simp [intOf]; omega
    · obtain rfl : a = Q.length := by omega
      have hlm := BF.out.len
      have HI := Lib.hid (bfs_end (Leads ls caps f (2 * n)) (leads_in HMAY.out HL.out) (fun u v _ => hd_mem) BF.out (Nat.le_refl _))
      go_wp2
      go_ret2
      exact ⟨M, 0, lev_yes HB.out HL.out HI.out, _, rfl, by rw [hlm]; exact OM.out.mine (by have := G.out.size; omega) hlm (by omega), grown_trans G.out GR.out⟩

end Go.Proofs.Ytlpohlcmjnlbhaa

set_option maxRecDepth 20000
namespace Go.Proofs.Ytlpohlcmjnlbhaa
open Go.RowKit

theorem lvIs_no {V : Int} {ls : List Lk} {caps f : List Int} {s : Int} {M : List Int} {z : Int} (h : LvIs V ls caps f s M z) (k : lvB V ls caps f s = false) : M = [] ∧ z = 1000 := by
  rcases h with ⟨h1, _⟩ | ⟨_, h2, h3⟩
  · rw [k] at h1; cases h1
  · exact ⟨h3, h2⟩

theorem lvIs_yes {V : Int} {ls : List Lk} {caps f : List Int} {s : Int} {M : List Int} {z : Int} (h : LvIs V ls caps f s M z) (k : lvB V ls caps f s = true) : z = 0 ∧ IsLv V.toNat (Leads ls caps f (2 * ls.length)) s M := by
  rcases h with ⟨_, h2, h3⟩ | ⟨h1, _⟩
  · exact ⟨h2, h3⟩
  · rw [k] at h1; cases h1

theorem rep_set {n k : Nat} {x : Int} (h : k < n) : (repL n k x).set k (.int .i64 x) = repL n (k + 1) x := by
  unfold repL
  rw [ints_set]
  congr 1
  rw [List.set_append_right _ _ (by simp), List.length_replicate, Nat.sub_self]
  obtain ⟨m, hm⟩ : ∃ m, n - k = m + 1 := ⟨n - k - 1, by omega⟩
  rw [hm, List.replicate_succ, List.set_cons_zero, show n - (k + 1) = m by omega, List.replicate_succ', List.append_assoc]
  rfl

def FillRel (w : World) (p g vn : Nat) (A : Option Addr) (n c : Nat) (i : Value) (wr : World) : Prop :=
  ∃ k : Nat, k ≤ vn ∧ i = .int .i64 (k : Nat) ∧ w.grownBy wr none ∧ Own wr p 24 [.int .i64 (vn : Nat), .slice A n c] ∧ Own wr g 3 (repL vn k (-1))

def RnRel (w : World) (p g vn : Nat) (A : Option Addr) (n c : Nat) (ls : List Lk) (caps f M : List Int) (i : Value) (wr : World) : Prop :=
  ∃ (t : Nat) (R : List Int), t ≤ vn ∧ i = .int .i64 (t : Nat) ∧ w.grownBy wr none ∧ Own wr p 24 [.int .i64 (vn : Nat), .slice A n c] ∧ Own wr g 3 (ints R) ∧ Rnd vn ls caps f M R t 0

def RnIn (w : World) (p g vn : Nat) (A : Option Addr) (n c : Nat) (ls : List Lk) (caps f M : List Int) (t : Nat) (i : Value) (wr : World) : Prop :=
  ∃ (k : Nat) (R : List Int), k ≤ 2 * n ∧ i = .int .i64 (k : Nat) ∧ w.grownBy wr none ∧ Own wr p 24 [.int .i64 (vn : Nat), .slice A n c] ∧ Own wr g 3 (ints R) ∧ Rnd vn ls caps f M R t k

theorem lv_none {w w' : World} {V : Int} {ls : List Lk} {caps f : List Int} {s : Int} {M : List Int} {z : Int} (h : LvIs V ls caps f s M z) (k : lvB V ls caps f s = false) (g : w.grownBy w' none) : SelPost w M z (.returned (.tuple #[.slice none 0 0, .int .i64 1000])) w' := by
  obtain ⟨rfl, rfl⟩ := lvIs_no h k
  exact ⟨_, rfl, Mine.nil _ _, g⟩

end Go.Proofs.Ytlpohlcmjnlbhaa
