/-
  What the laws' own small functions over lists of numbers answer: two that hold the same are alike, what is marked is held; for lists of at most a million numbers that the call itself made.
-/
import Derived.Test.YtghpmhfhenndiaaDoorMemb
import Derived.BigQuiet
import Derived.Deep.QuietTactic
import Derived.WalkSmall
namespace Go.Proofs.YtghpmhfhenndiaaDoor
open Go.RowKit
set_option maxRecDepth 100000
namespace Lst
open Memb (Own)

/-- the slice's numbers can be read -/
def Rd (w : World) (ao : Option Addr) (l : List Int) : Prop := l = [] ∨ ∃ g, ao = some ⟨g, 0, none⟩ ∧ ∀ j, j < l.length → w.cell? ⟨g, j, none⟩ = some (.int .i64 (l.getD j 0))

theorem own_block {B : Nat} {w : World} {ao : Option Addr} {cap : Nat} {l : List Int} (h : Own B w ao cap l) (hl : l ≠ []) : ∃ g, ao = some ⟨g, 0, none⟩ ∧ B ≤ g ∧ g < w.heap.size := by
  have hlt := World.ownsRow.lt h
  obtain ⟨_, ⟨_, hn⟩ | ⟨g, cap', cur, hv, hB, _⟩⟩ := h
  · exact absurd (List.length_eq_zero_iff.1 hn) hl
  · simp only [Value.slice.injEq] at hv
    obtain ⟨rfl, _, _⟩ := hv
    exact ⟨g, rfl, hB, (hlt g rfl).2⟩

theorem own_rd {B : Nat} {w : World} {ao : Option Addr} {cap : Nat} {l : List Int} (h : Own B w ao cap l) : Rd w ao l := by
  by_cases hl : l = []
  · exact .inl hl
  · obtain ⟨g, rfl, _, _⟩ := own_block h hl
    refine .inr ⟨g, rfl, fun j hj => ?_⟩
    have := World.ownsRow.cellAt h j (by omega)
    rw [this]; simp [hj]

theorem own_below {B : Nat} {w w' : World} {ao : Option Addr} {cap : Nat} {l : List Int} (h : Own B w ao cap l) (hb : Below w.heap.size w w') : Own B w' ao cap l := by
  have hlt := World.ownsRow.lt h
  unfold Own at *
  obtain ⟨h1, h2⟩ := h
  refine ⟨h1, ?_⟩
  rcases h2 with h2 | ⟨g, cap', cur, hv, hB, hg, rest⟩
  · exact .inl h2
  · refine .inr ⟨g, cap', cur, hv, hB, ?_, rest⟩
    rw [hv] at hlt
    rw [hb.block g (hlt g rfl).2]; exact hg

theorem own_drewN {B : Nat} {w : World} {ao : Option Addr} {cap : Nat} {l : List Int} (h : Own B w ao cap l) (n : Nat) : Own B (w.drewN n) ao cap l := h

/-- rising -/
def Up (l : List Int) : Prop := ∀ k, k + 1 < l.length → l.getD k 0 < l.getD (k + 1) 0

/-- x is one of l -/
def inL (l : List Int) (x : Int) : Bool := l.contains x
theorem inL_iff (l : List Int) (x : Int) : inL l x = true ↔ x ∈ l := by simp [inL]

end Lst
end Go.Proofs.YtghpmhfhenndiaaDoor
