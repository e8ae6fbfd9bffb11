/-
  Where knots lie in memory: a list of them in a slice, four numbers in a block; no program in it.
-/
import Derived.Test.YtapfmadnkaimeaaDoorChecked
import Derived.Test.YtapfmadnkaimeaaDoorLaceM
import Derived.Test.YtapfmadnkaimeaaDoorMemb
import Derived.WalkKit
import Derived.BigQuiet
import Derived.Deep.OwnRows
import Derived.Deep.QuietTactic
import Derived.WalkSmall
import Derived.Deep.RegionLaw
import Derived.Deep.RegionWith
import Derived.Deep.DeepCutAuto
import Derived.Deep.AppendLies
import Derived.Laws.OwnMore
namespace Go.Proofs.YtapfmadnkaimeaaDoor
open Go.RowKit
set_option maxRecDepth 100000
namespace Lc
open Kn (K okK)
open Bit (bit withB)

/-- a knot lies there -/
structure CellsK (w : World) (g o : Nat) (k : K) : Prop where
  c0 : w.cell? ⟨g, o, none⟩ = some (.int .i64 k.hand)
  c1 : w.cell? ⟨g, o + 1, none⟩ = some (.int .i64 k.round)
  c2 : w.cell? ⟨g, o + 2, none⟩ = some (.int .i64 k.frm)
  c3 : w.cell? ⟨g, o + 3, none⟩ = some (.string k.word)

/-- the knots lie there, one behind the other -/
def RdK (w : World) (ao : Option Addr) (L : List K) : Prop :=
  L = [] ∨ ∃ g off, ao = some ⟨g, off, none⟩ ∧ g < w.heap.size ∧ ∀ i, i < L.length → CellsK w g (off + i * 4) (at' L i)

theorem CellsK.below {w w' : World} {g o : Nat} {k : K} (h : CellsK w g o k) (hb : Below w.heap.size w w') (hg : g < w.heap.size) : CellsK w' g o k where
  c0 := (hb.cell (p := ⟨g, o, none⟩) hg).trans h.c0
  c1 := (hb.cell (p := ⟨g, o + 1, none⟩) hg).trans h.c1
  c2 := (hb.cell (p := ⟨g, o + 2, none⟩) hg).trans h.c2
  c3 := (hb.cell (p := ⟨g, o + 3, none⟩) hg).trans h.c3

theorem RdK.below {w w' : World} {ao : Option Addr} {L : List K} (h : RdK w ao L) (hb : Below w.heap.size w w') : RdK w' ao L := by
  rcases h with h | ⟨g, off, ha, hg, hc⟩
  · exact .inl h
  · exact .inr ⟨g, off, ha, Nat.lt_of_lt_of_le hg hb.size, fun i hi => (hc i hi).below hb hg⟩

theorem RdK.take {w : World} {ao : Option Addr} {L : List K} (h : RdK w ao L) (n : Nat) : RdK w ao (L.take n) := by
  rcases h with h | ⟨g, off, ha, hg, hc⟩
  · exact .inl (by rw [h]; simp)
  · refine .inr ⟨g, off, ha, hg, fun i hi => ?_⟩
    have hi' : i < n ∧ i < L.length := by simp at hi; omega
    rw [at_take L n i hi'.1]
    exact hc i hi'.2

theorem RdK.at {w : World} {ao : Option Addr} {L : List K} (h : RdK w ao L) (i : Nat) (hi : i < L.length) : ∃ g off, ao = some ⟨g, off, none⟩ ∧ g < w.heap.size ∧ CellsK w g (off + i * 4) (at' L i) := by
  rcases h with h | ⟨g, off, ha, hg, hc⟩
  · rw [h] at hi; simp at hi
  · exact ⟨g, off, ha, hg, hc i hi⟩

theorem info2 : (Tryd.prog.info? 2).map (fun i => (i.zero, i.size, i.bytes)) = some (some (.int .i64 0), 1, 8) := by kernel_rfl

/-- four numbers of the call's own -/
structure Four (w : World) (g : Nat) (x0 x1 x2 x3 : Int) : Prop where
  lt : g < w.heap.size
  c0 : w.cell? ⟨g, 0, none⟩ = some (.int .i64 x0)
  c1 : w.cell? ⟨g, 1, none⟩ = some (.int .i64 x1)
  c2 : w.cell? ⟨g, 2, none⟩ = some (.int .i64 x2)
  c3 : w.cell? ⟨g, 3, none⟩ = some (.int .i64 x3)
  f : ∀ j, j < 4 → w.frozen? ⟨g, j, none⟩ = false

theorem Four.pick {w : World} {g : Nat} {x0 x1 x2 x3 : Int} (h : Four w g x0 x1 x2 x3) (j : Nat) (hj : j < 4) : ∃ x, w.cell? ⟨g, j, none⟩ = some (.int .i64 x) ∧ x = (if j = 0 then x0 else if j = 1 then x1 else if j = 2 then x2 else x3) := by
  match j, hj with
  | 0, _ => exact ⟨x0, h.c0, rfl⟩
  | 1, _ => exact ⟨x1, h.c1, rfl⟩
  | 2, _ => exact ⟨x2, h.c2, rfl⟩
  | 3, _ => exact ⟨x3, h.c3, rfl⟩

theorem Four.put {w : World} {g : Nat} {x0 x1 x2 x3 : Int} (h : Four w g x0 x1 x2 x3) (j : Nat) (hj : j < 4) (x : Int) :
    Four (w.setCell ⟨g, j, none⟩ (.int .i64 x)) g (if j = 0 then x else x0) (if j = 1 then x else x1) (if j = 2 then x else x2) (if j = 3 then x else x3) where
  lt := by simpa using h.lt
  c0 := by
    by_cases e : j = 0
    · subst e; simpa using World.cell?_setCell_same _ _ _ h.c0
    · rw [if_neg e]; exact (World.cell?_setCell_other _ _ _ _ (by intro q; injection q with _ q; exact e q)).trans h.c0
  c1 := by
    by_cases e : j = 1
    · subst e; simpa using World.cell?_setCell_same _ _ _ h.c1
    · rw [if_neg e]; exact (World.cell?_setCell_other _ _ _ _ (by intro q; injection q with _ q; exact e q)).trans h.c1
  c2 := by
    by_cases e : j = 2
    · subst e; simpa using World.cell?_setCell_same _ _ _ h.c2
    · rw [if_neg e]; exact (World.cell?_setCell_other _ _ _ _ (by intro q; injection q with _ q; exact e q)).trans h.c2
  c3 := by
    by_cases e : j = 3
    · subst e; simpa using World.cell?_setCell_same _ _ _ h.c3
    · rw [if_neg e]; exact (World.cell?_setCell_other _ _ _ _ (by intro q; injection q with _ q; exact e q)).trans h.c3
  f := fun i hi => by simpa using h.f i hi

theorem four_new (w : World) (t : TypeId) : Four (w.alloc (.cells #[.int .i64 0, .int .i64 0, .int .i64 0, .int .i64 0] t)) w.heap.size 0 0 0 0 where
  lt := by simp
  c0 := by simp
  c1 := by simp
  c2 := by simp
  c3 := by simp
  f := fun j hj => by simp

theorem below_put {b g : Nat} {w w' : World} (h : Below b w w') (hg : b ≤ g) (j : Nat) (v : Value) : Below b w (w'.setCell ⟨g, j, none⟩ v) := h.setCell (p := ⟨g, j, none⟩) hg v

end Lc
end Go.Proofs.YtapfmadnkaimeaaDoor
