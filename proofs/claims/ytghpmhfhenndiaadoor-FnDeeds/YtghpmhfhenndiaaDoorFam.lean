/-
  A region that draws its order, walked once, where its callees may make memory: every operation yields one value in all worlds that the first one is below of. No program in it.
-/
import Derived.WalkKit
import Derived.BigQuiet
import Derived.Deep.QuietTactic
import Derived.Below
namespace Go.Proofs.YtghpmhfhenndiaaDoor
open Go.RowKit
namespace Fam

theorem region {P : Program} {X : Type} {F : X → World} {id : Nat} {Q : Exit → Act → World → Prop} {a : Act} {w : World} {l : List Oper} (hm : P.follows .mixedOrders = true) (hB : Region.lexB .any l.toArray = true) (hC : ∃ z, w.drew = F z)
    (h : wpQuiet P l.toArray (fun w' => ∃ z, w' = F z) (fun a' => ∀ w', (∃ z, w' = F z) → Q .normal a' w') l a) : (Code.region id l.toArray true).wp P Q a w :=
  wp_region_quiet (C := fun w' => ∃ z, w' = F z) hm hB hC (by simpa using h)

theorem fam (W : World) : ∃ (X : Type) (_ : Inhabited X) (F : X → World), Hid (∀ z, Below W.heap.size W (F z)) ∧ Hid (∀ w', Below W.heap.size W w' → ∃ z, w' = F z) :=
  ⟨{w' // Below W.heap.size W w'}, ⟨⟨W, Below.refl _ _⟩⟩, Subtype.val, fun z => z.2, fun w' h => ⟨⟨w', h⟩, rfl⟩⟩

end Fam
end Go.Proofs.YtghpmhfhenndiaaDoor
