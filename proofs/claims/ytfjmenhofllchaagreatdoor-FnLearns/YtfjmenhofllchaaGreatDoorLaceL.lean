/-
  What the small functions of the exact statements on lists of knots answer: how great a list is, a list handed on into new memory, and whether two that hold the same are alike; for lists of at most 2^20 knots.
-/
import Derived.Test.YtfjmenhofllchaaGreatDoorLaceR
import Derived.Test.YtfjmenhofllchaaGreatDoorLawK
import Derived.Test.YtfjmenhofllchaaGreatDoorFam
namespace Go.Proofs.YtfjmenhofllchaaGreatDoor
open Go.RowKit
set_option maxRecDepth 100000
namespace Lc
open Kn (K okK)

/-- small enough -/
def Small (L : List K) : Prop := L.length ≤ 1048576 ∧ ∀ k ∈ L, k.word.size ≤ 1048576

theorem szI_lo (x : Int) (n : Nat) (h : x < (n : Int)) : Kn.szI x n = -1 := if_pos h
theorem szI_hi (x : Int) (n : Nat) (h : ¬ x < (n : Int)) : Kn.szI x n = x - (n : Int) := if_neg h

/-- what is left is told, or that it is too great -/
def SzPost (L : List K) (left : Int) (w : World) (e : Ending) (w' : World) : Prop := ∃ r : Int, e = .returned (.int .i64 r) ∧ -1 ≤ r ∧ r ≤ left ∧ (0 ≤ r → Small L) ∧ Below w.heap.size w w'

/-- a block of knots that is being filled: j of n are there -/
structure Made (w : World) (B n : Nat) (L : List K) (j : Nat) : Prop where
  lt : B < w.heap.size
  rd : ∀ i, i < j → CellsK w B (i * 4) (at' L i)
  ex : ∀ i, i < n * 4 → ∃ v, w.cell? ⟨B, i, none⟩ = some v
  fr : ∀ i, i < n * 4 → w.frozen? ⟨B, i, none⟩ = false

theorem Made.below {w w' : World} {B n j : Nat} {L : List K} (h : Made w B n L j) (hb : Below w.heap.size w w') : Made w' B n L j where
  lt := Nat.lt_of_lt_of_le h.lt hb.size
  rd := fun i hi => (h.rd i hi).below hb h.lt
  ex := fun i hi => by obtain ⟨v, hv⟩ := h.ex i hi; exact ⟨v, (hb.cell (p := ⟨B, i, none⟩) h.lt).trans hv⟩
  fr := fun i hi => (hb.frozen (p := ⟨B, i, none⟩) h.lt).trans (h.fr i hi)

/-- the world behind the storing of a knot -/
def put4 (w : World) (B o : Nat) (k : K) : World := (((w.setCell ⟨B, o, none⟩ (.int .i64 k.hand)).setCell ⟨B, o + 1, none⟩ (.int .i64 k.round)).setCell ⟨B, o + 2, none⟩ (.int .i64 k.frm)).setCell ⟨B, o + 3, none⟩ (.string k.word)

theorem ne_off {B i o : Nat} (h : i ≠ o) : (⟨B, o, none⟩ : Addr) ≠ ⟨B, i, none⟩ := by intro e; injection e with _ e; exact h e.symm

theorem put4_other (w : World) (B o : Nat) (k : K) (i : Nat) (h : i < o ∨ o + 4 ≤ i) : (put4 w B o k).cell? ⟨B, i, none⟩ = w.cell? ⟨B, i, none⟩ := by
  unfold put4
  rw [World.cell?_setCell_other _ _ _ _ (ne_off (by omega)), World.cell?_setCell_other _ _ _ _ (ne_off (by omega)), World.cell?_setCell_other _ _ _ _ (ne_off (by omega)), World.cell?_setCell_other _ _ _ _ (ne_off (by omega))]

theorem put4_there {w : World} {B o : Nat} (k : K) {v0 v1 v2 v3 : Value} (h0 : w.cell? ⟨B, o, none⟩ = some v0) (h1 : w.cell? ⟨B, o + 1, none⟩ = some v1) (h2 : w.cell? ⟨B, o + 2, none⟩ = some v2) (h3 : w.cell? ⟨B, o + 3, none⟩ = some v3) : CellsK (put4 w B o k) B o k := by
  unfold put4
  refine ⟨?_, ?_, ?_, ?_⟩
  · rw [World.cell?_setCell_other _ _ _ _ (ne_off (by omega)), World.cell?_setCell_other _ _ _ _ (ne_off (by omega)), World.cell?_setCell_other _ _ _ _ (ne_off (by omega))]
    exact World.cell?_setCell_same _ _ _ h0
  · rw [World.cell?_setCell_other _ _ _ _ (ne_off (by omega)), World.cell?_setCell_other _ _ _ _ (ne_off (by omega))]
    exact World.cell?_setCell_same _ _ _ ((World.cell?_setCell_other _ _ _ _ (ne_off (by omega))).trans h1)
  · rw [World.cell?_setCell_other _ _ _ _ (ne_off (by omega))]
    exact World.cell?_setCell_same _ _ _ ((World.cell?_setCell_other _ _ _ _ (ne_off (by omega))).trans ((World.cell?_setCell_other _ _ _ _ (ne_off (by omega))).trans h2))
  · exact World.cell?_setCell_same _ _ _ ((World.cell?_setCell_other _ _ _ _ (ne_off (by omega))).trans ((World.cell?_setCell_other _ _ _ _ (ne_off (by omega))).trans ((World.cell?_setCell_other _ _ _ _ (ne_off (by omega))).trans h3)))

theorem put4_frozen (w : World) (B o : Nat) (k : K) (p : Addr) : (put4 w B o k).frozen? p = w.frozen? p := by unfold put4; simp
theorem put4_size (w : World) (B o : Nat) (k : K) : (put4 w B o k).heap.size = w.heap.size := by unfold put4; simp

theorem Made.put {w : World} {B n j : Nat} {L : List K} (h : Made w B n L j) (hj : j < n) : Made (put4 w B (j * 4) (at' L j)) B n L (j + 1) := by
  obtain ⟨v0, e0⟩ := h.ex (j * 4) (by omega)
  obtain ⟨v1, e1⟩ := h.ex (j * 4 + 1) (by omega)
  obtain ⟨v2, e2⟩ := h.ex (j * 4 + 2) (by omega)
  obtain ⟨v3, e3⟩ := h.ex (j * 4 + 3) (by omega)
  have hk := put4_there (at' L j) e0 e1 e2 e3
  refine ⟨by rw [put4_size]; exact h.lt, fun i hi => ?_, fun i hi => ?_, fun i hi => by rw [put4_frozen]; exact h.fr i hi⟩
  · by_cases he : i = j
    · rw [he]; exact hk
    · have hc := h.rd i (by omega)
      exact ⟨(put4_other w B _ _ _ (by omega)).trans hc.c0, (put4_other w B _ _ _ (by omega)).trans hc.c1, (put4_other w B _ _ _ (by omega)).trans hc.c2, (put4_other w B _ _ _ (by omega)).trans hc.c3⟩
  · by_cases he : i < j * 4 ∨ j * 4 + 4 ≤ i
    · rw [put4_other w B _ _ i he]; exact h.ex i hi
    · rcases (show i = j * 4 ∨ i = j * 4 + 1 ∨ i = j * 4 + 2 ∨ i = j * 4 + 3 by omega) with rfl | rfl | rfl | rfl
      · exact ⟨_, hk.c0⟩
      · exact ⟨_, hk.c1⟩
      · exact ⟨_, hk.c2⟩
      · exact ⟨_, hk.c3⟩

theorem below_put4 {b B : Nat} {a w : World} (h : Below b a w) (hB : b ≤ B) (o : Nat) (k : K) : Below b a (put4 w B o k) :=
  (((h.setCell (p := ⟨B, o, none⟩) hB _).setCell (p := ⟨B, o + 1, none⟩) hB _).setCell (p := ⟨B, o + 2, none⟩) hB _).setCell (p := ⟨B, o + 3, none⟩) hB _

theorem made_new (w : World) (t : TypeId) (z : Array Value) (n : Nat) (L : List K) : Made (w.alloc (.cells (madeCells z (n * 4)) t)) w.heap.size n L 0 where
  lt := by simp
  rd := fun i hi => by omega
  ex := fun i hi => by
    rw [World.cell?_alloc_new]
    have : i < (madeCells z (n * 4)).size := by rw [size_madeCells]; exact hi
    exact ⟨_, Array.getElem?_eq_getElem this⟩
  fr := fun i hi => by simp

theorem infoKn : (Tryz.prog.info? 36).map (fun i => (i.zero, i.size, i.bytes)) = some (some (.agg #[.int .i64 0, .int .i64 0, .int .i64 0, .string ⟨#[]⟩]), 4, 40) := by kernel_rfl

/-- the knots in new memory -/
def ToPost (L : List K) (w : World) (e : Ending) (w' : World) : Prop := e = .returned (.slice (some ⟨w.heap.size, 0, none⟩) L.length L.length) ∧ Made w' w.heap.size L.length L L.length ∧ Below w.heap.size w w'

theorem made_rd {w : World} {B n : Nat} {L : List K} (h : Made w B n L L.length) : RdK w (some ⟨B, 0, none⟩) L :=
  .inr ⟨B, 0, rfl, h.lt, fun i hi => by rw [Nat.zero_add]; exact h.rd i hi⟩

end Lc
end Go.Proofs.YtfjmenhofllchaaGreatDoor
