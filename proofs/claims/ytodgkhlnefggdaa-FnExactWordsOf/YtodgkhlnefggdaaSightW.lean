/-
  What the program's own walk back along the threads does (an iterator over a lace in memory, whatever the loop's body is that keeps the lace), in the words of SightV; for laces.
-/
import Derived.RangeFuncNested
import Derived.RangeFuncBound
import Derived.RangeFuncCalls
import Derived.RangeFuncLeaves
import Derived.Shelf.Abstract
import Derived.Shelf.RegionOpen
import Derived.WalkKit
import Derived.OwnWalkIn
import Derived.TacticsInMore
import Derived.LoopNIn
import Derived.LoopIn
import Derived.Test.YtodgkhlnefggdaaSightV
import Derived.Test.YtodgkhlnefggdaaLaceF
namespace Go.Proofs.Ytodgkhlnefggdaa
open Go.RowKit
set_option maxRecDepth 100000
attribute [local go_sem] Oper.semAt_some
namespace Sg
open Kn (K okK)
open Bit (bit withB)
open Lc (at' RdK CellsK)

/-- what a round keeps: whatever lay below n₀, and the walk's own box for the lace -/
def KpL (n₀ Bl : Nat) (W W' : World) : Prop := Below n₀ W W' ∧ W'.heap[Bl]? = W.heap[Bl]?
theorem kpL_t {n₀ Bl : Nat} {A B C : World} (h : KpL n₀ Bl A B) (k : KpL n₀ Bl B C) : KpL n₀ Bl A C := ⟨h.1.trans k.1, k.2.trans h.2⟩
theorem kpL_b {n₀ Bl : Nat} {w : World} (hn : n₀ ≤ w.heap.size) (hB : Bl < w.heap.size) (W : World) (l : Nat) (o o' : Obj) (hl : w.heap.size ≤ l) (h : W.heap[l]? = some o) (h1 : o.isCells = false) (h2 : o.isWalk = false) : KpL n₀ Bl W (W.putObj l o') :=
  ⟨belowK_b hn W l o o' hl h h1 h2, World.putObj_heap_other (by omega)⟩
theorem kpL_refl (n₀ Bl : Nat) (W : World) : KpL n₀ Bl W W := ⟨Below.refl _ _, rfl⟩
theorem kpL_put {n₀ Bl : Nat} (W : World) (b : Nat) (hb : n₀ ≤ b) (hB : Bl ≠ b) (u : Value) : KpL n₀ Bl W (W.setCell ⟨b, 0, none⟩ u) :=
  ⟨(Below.refl n₀ W).setCell (p := ⟨b, 0, none⟩) hb u, Below.heap_setCell W ⟨b, 0, none⟩ u Bl hB⟩

theorem cellsK_at {n₀ : Nat} {w w' : World} {g o : Nat} {k : K} (h : CellsK w g o k) (hb : Below n₀ w w') (hg : g < n₀) : CellsK w' g o k where
  c0 := (hb.cell (p := ⟨g, o, none⟩) hg).trans h.c0
  c1 := (hb.cell (p := ⟨g, o + 1, none⟩) hg).trans h.c1
  c2 := (hb.cell (p := ⟨g, o + 2, none⟩) hg).trans h.c2
  c3 := (hb.cell (p := ⟨g, o + 3, none⟩) hg).trans h.c3

theorem cell_block {w w' : World} {b : Nat} (h : w'.heap[b]? = w.heap[b]?) : w'.cell? ⟨b, 0, none⟩ = w.cell? ⟨b, 0, none⟩ := World.cell?_of_block (w := w) h

end Sg
end Go.Proofs.Ytodgkhlnefggdaa
