/-
  What the model's draws for chapter 1 do: they answer a number for a set and one for a member, whatever these are, and write into nothing that was there; for codes of at most 4096 bytes.
-/
import Derived.Test.YtghpmhfhenndiaaDoorCur
import Derived.Test.YtghpmhfhenndiaaDoorLike
import Derived.Deep.RegionWith
namespace Go.Proofs.YtghpmhfhenndiaaDoor
open Go.RowKit
set_option maxRecDepth 100000
namespace Draw
open Cur (At)

theorem bits_bd (op : BinOp) (x y : Int) : -9223372036854775808 ≤ bits op .i64 x y ∧ bits op .i64 x y ≤ 9223372036854775807 := by
  unfold bits
  simp only [IntKind.wrap, IntKind.bits, IntKind.signed]
  simp
  omega

theorem kept_cell {w w1 : World} {c g j : Nat} {v : Value} (hG : w.grownBy w1 (some c)) (hg : g ≠ c) (h : w.cell? ⟨g, j, none⟩ = some v) : w1.cell? ⟨g, j, none⟩ = some v :=
  hG.cell h (by simpa using hg)

theorem at_alloc {c : Nat} {a : Option Addr} {len cap : Nat} {w : World} (h : At c a len cap w) (o : Obj) : At c a len cap (w.alloc o) := h.below ((Below.refl _ _).alloc (Nat.le_refl _) _)

/-- a number of a list that is written out -/
theorem lit_int {w w2 : World} {c : Nat} {t : TypeId} {l : List Int} (hc : c < w.heap.size) (hG : (w.alloc (.cells (l.map (Value.int .i64)).toArray t)).grownBy w2 (some c)) (j : Nat) (hj : j < l.length)
    (hl : ∀ x ∈ l, -9223372036854775808 ≤ x ∧ x ≤ 9223372036854775807) : ∃ v : Int, w2.cell? ⟨w.heap.size, j, none⟩ = some (.int .i64 v) ∧ -9223372036854775808 ≤ v ∧ v ≤ 9223372036854775807 := by
  refine ⟨l[j], kept_cell hG (by omega) ?_, hl _ (List.getElem_mem hj)⟩
  rw [World.cell?_alloc_new]
  simp [hj]

theorem mem_bd (s : Int) (j : Nat) : -9223372036854775808 ≤ (Memb.memI s).getD j 0 ∧ (Memb.memI s).getD j 0 ≤ 9223372036854775807 := by
  by_cases h : j < (Memb.memI s).length
  · have hm : (Memb.memI s)[j] ∈ Memb.memI s := List.getElem_mem h
    have e : (Memb.memI s).getD j 0 = (Memb.memI s)[j] := by simp [h]
    rw [e]
    generalize (Memb.memI s)[j] = x at hm
    unfold Memb.memI at hm
    split at hm
    · obtain ⟨k, hk, rfl, _⟩ := (Bit.mem_memTo s 60 x).1 hm
      omega
    · simp at hm
  · have e : (Memb.memI s).getD j 0 = 0 := by simp [List.getD, List.getElem?_eq_none (Nat.le_of_not_lt h)]
    rw [e]; omega

theorem below_of_grown {w w1 w2 : World} {c : Nat} (h : Below w.heap.size w w1) (hc : w.heap.size ≤ c) (hg : w1.grownBy w2 (some c)) : Below w.heap.size w w2 :=
  h.grown hg h.size (fun k hk => by simp at hk; omega)

theorem own_grown {B c : Nat} {w w' : World} {ao : Option Addr} {cap : Nat} {l : List Int} (h : Memb.Own B w ao cap l) (hg : w.grownBy w' (some c)) (hc : c < B) : Memb.Own B w' ao cap l := by
  unfold Memb.Own at *
  refine World.ownsRow.kept h hg ?_
  by_cases hb : (Value.slice ao l.length cap).ownBlock = none
  · exact .inl hb
  · refine .inr (fun e => ?_)
    have := (World.ownsRow.lt h c e).1
    omega

/-- a number of the five -/
theorem lit_any {t : TypeId} (j : Nat) (hj : j < 5) : ∃ v : Int, (∀ W : World, (W.alloc (.cells #[.int .i64 (-1), .int .i64 0, .int .i64 59, .int .i64 60, .int .i64 7] t)).cell? ⟨W.heap.size, j, none⟩ = some (.int .i64 v)) ∧ -9223372036854775808 ≤ v ∧ v ≤ 9223372036854775807 := by
  have h : ∃ v : Int, (#[Value.int .i64 (-1), .int .i64 0, .int .i64 59, .int .i64 60, .int .i64 7] : Array Value)[j]? = some (.int .i64 v) ∧ -9223372036854775808 ≤ v ∧ v ≤ 9223372036854775807 := by
    match j, hj with
    | 0, _ => exact ⟨-1, rfl, by omega, by omega⟩
    | 1, _ => exact ⟨0, rfl, by omega, by omega⟩
    | 2, _ => exact ⟨59, rfl, by omega, by omega⟩
    | 3, _ => exact ⟨60, rfl, by omega, by omega⟩
    | 4, _ => exact ⟨7, rfl, by omega, by omega⟩
  obtain ⟨v, h1, h2⟩ := h
  exact ⟨v, fun W => by rw [World.cell?_alloc_new]; exact h1, h2⟩

end Draw
end Go.Proofs.YtghpmhfhenndiaaDoor
