/-
  What Route tells, as memory.
-/
import Derived.Test.YtlpohlcmjnlbhaaSpoilP
import Derived.Test.YtlpohlcmjnlbhaaMathRoute
set_option maxRecDepth 20000
namespace Go.Proofs.Ytlpohlcmjnlbhaa
open Go.RowKit

def rouV (u v : Value) (z : Int) : Value := .tuple #[u, v, .int .i64 z]

/-- Paths and vertices, new memory both. -/
def RoutePost (w : World) (V : Int) (L : List Lk) (caps : List Int) (s t R : Int) (e : Ending) (w' : World) : Prop :=
  ∃ ps vs z, RouteIs V L caps s t R ps vs z ∧ ∃ u v, e = .returned (rouV u v z) ∧ OwnP w' w.heap.size u ps.length ps ∧ Mine w' w.heap.size v vs.length vs ∧ w.grownBy w' none

/-- What a row of paths reads as, whatever was told. -/
theorem route_pths {w' : World} {V : Int} {L : List Lk} {caps : List Int} {s t R : Int} {ps : List Pth} {vs : List Int} {z : Int} {base : Nat} {u : Value} (h : RouteIs V L caps s t R ps vs z) (o : OwnP w' base u ps.length ps) : (∃ A c, u = .slice A ps.length c ∧ Pths w' w'.heap.size A ps.length ps) ∧ ps.length ≤ 16 ∧ okI vs := by
  have nil : ps = [] → (∃ A c, u = .slice A ps.length c ∧ Pths w' w'.heap.size A ps.length ps) ∧ ps.length ≤ 16 := fun e => by
    subst e
    exact ⟨o.pths (by simp) (fun i => by simp [rt, at2, bd64]) (fun i hi => absurd hi (by simp)), by simp⟩
  rcases h with ⟨hr, _, ⟨hb, hf, rfl⟩ | ⟨e, hp⟩⟩ | ⟨_, _, e, rfl⟩
  · obtain ⟨hm, _⟩ := routeB_parts hr
    have h16 := may_small hm
    obtain ⟨k1, k2, k3⟩ := bmay_ok hb h16.2.2
    exact ⟨o.pths k1 k2 k3, k1, fun i => by simp⟩
  · obtain ⟨hm, _, hv, _⟩ := prov_parts hp
    obtain ⟨a, b⟩ := nil e
    exact ⟨a, b, verts_okI hv (may_small hm).2.1⟩
  · obtain ⟨a, b⟩ := nil e
    exact ⟨a, b, fun i => by simp⟩

end Go.Proofs.Ytlpohlcmjnlbhaa
