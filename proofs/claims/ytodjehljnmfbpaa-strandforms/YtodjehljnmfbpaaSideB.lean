/-
  The reference's VertsMay.
-/
import Derived.Test.YtodjehljnmfbpaaSideA
import Derived.Test.YtodjehljnmfbpaaTake
set_option maxRecDepth 20000
namespace Go.Proofs.Ytodjehljnmfbpaa
open Go.RowKit

theorem held3 {w w1 : World} {b b2 i j : Nat} {x y z : Value} (g : w.grownBy w1 none) (h : (fun w' : World => w'.cell? ⟨b, 0, none⟩ = some x ∧ w'.cell? ⟨b, 1, none⟩ = some y ∧ w'.cell? ⟨b2, i + j, none⟩ = some z) w) :
    (fun w' : World => w'.cell? ⟨b, 0, none⟩ = some x ∧ w'.cell? ⟨b, 1, none⟩ = some y ∧ w'.cell? ⟨b2, i + j, none⟩ = some z) w1 := ⟨kept g h.1, kept g h.2.1, kept g h.2.2⟩

theorem held4c {w w1 : World} {b b2 i j k : Nat} {x y z u : Value} (g : w.grownBy w1 none) (h : (fun w' : World => w'.cell? ⟨b, 0, none⟩ = some x ∧ w'.cell? ⟨b, 1, none⟩ = some y ∧ w'.cell? ⟨b2, i + j, none⟩ = some z ∧ w'.cell? ⟨b2, i + k, none⟩ = some u) w) :
    (fun w' : World => w'.cell? ⟨b, 0, none⟩ = some x ∧ w'.cell? ⟨b, 1, none⟩ = some y ∧ w'.cell? ⟨b2, i + j, none⟩ = some z ∧ w'.cell? ⟨b2, i + k, none⟩ = some u) w1 := ⟨kept g h.1, kept g h.2.1, kept g h.2.2.1, kept g h.2.2.2⟩

end Go.Proofs.Ytodjehljnmfbpaa
