/-
  What the model's learning of a knot does: it answers whether it is learned, and writes into the hand's set alone; for laces of at most 60 knots.
-/
import Derived.Test.YtmhcbmcfhopiiaaRoomA
import Derived.BigRegion
namespace Go.Proofs.Ytmhcbmcfhopiiaa
open Go.RowKit
set_option maxRecDepth 100000
namespace Rm
open Kn (K okK)
open Bit (bit)
open Sg (orB)
open Lc (at' RdK)

theorem andNot_bd (a s : Int) (h0 : 0 ≤ a) (h1 : a < 1152921504606846976) : 0 ≤ bits .andNot .i64 a s ∧ bits .andNot .i64 a s < 1152921504606846976 := by
  obtain ⟨A, rfl⟩ := Int.eq_ofNat_of_zero_le h0
  have hA : (BitVec.ofInt 64 (A : Int)).toNat = A := ofInt_u64 A (by omega)
  have hx : (BitVec.ofInt 64 (A : Int) &&& ~~~ BitVec.ofInt 64 s).toNat ≤ A := by
    rw [BitVec.toNat_and, hA]; exact Nat.and_le_left
  have e : bits .andNot .i64 (A : Int) s = IntKind.i64.wrap ((BitVec.ofInt 64 (A : Int) &&& ~~~ BitVec.ofInt 64 s).toNat : Int) := rfl
  rw [e]
  generalize (BitVec.ofInt 64 (A : Int) &&& ~~~ BitVec.ofInt 64 s).toNat = x at hx
  simp only [IntKind.wrap, IntKind.bits, IntKind.signed]
  simp
  omega

/-- a hand lies there -/
structure HandAt (w : World) (g o : Nat) (who has kept last : Int) : Prop where
  lt : g < w.heap.size
  c0 : w.cell? ⟨g, o, none⟩ = some (.int .i64 who)
  c1 : w.cell? ⟨g, o + 1, none⟩ = some (.int .i64 has)
  c2 : w.cell? ⟨g, o + 2, none⟩ = some (.int .i64 kept)
  c3 : w.cell? ⟨g, o + 3, none⟩ = some (.int .i64 last)
  f0 : w.frozen? ⟨g, o, none⟩ = false
  f1 : w.frozen? ⟨g, o + 1, none⟩ = false
  f2 : w.frozen? ⟨g, o + 2, none⟩ = false
  f3 : w.frozen? ⟨g, o + 3, none⟩ = false

/-- what lacks -/
def lackI (l : List Int) (has : Int) (k : Nat) : Int := bits .andNot .i64 (l.getD k 0) has

/-- is it learned? -/
def learnB (L : List K) (l : List Int) (who has k : Int) (al : Bool) : Bool :=
  decide (0 ≤ k) && (decide (k < (L.length : Int)) && (!bit has k.toNat && (!(al && (lackI l has k.toNat != 2 ^ k.toNat)) && decide (lastTo L who (lackI l has k.toNat) L.length < 0))))

/-- how learning ends -/
def LearnPost (L : List K) (l : List Int) (who has k : Int) (al : Bool) (g o : Nat) (w : World) (e : Ending) (w' : World) : Prop :=
  e = .returned (.bool (learnB L l who has k al)) ∧ ∃ d, w' = { (if learnB L l who has k al then w.setCell ⟨g, o + 1, none⟩ (.int .i64 (orB has (l.getD k.toNat 0))) else w) with drawn := d }

theorem learn_no {L : List K} {l : List Int} {who has k : Int} {al : Bool} {g o : Nat} {w w' : World} (h : learnB L l who has k al = false) (d : Nat) (hw : w' = { w with drawn := d }) : LearnPost L l who has k al g o w (.returned (.bool false)) w' :=
  ⟨by rw [h], d, by rw [h]; exact hw⟩
theorem learn_yes {L : List K} {l : List Int} {who has k : Int} {al : Bool} {g o : Nat} {w w' : World} (h : learnB L l who has k al = true) (d : Nat) (hw : w' = { w.setCell ⟨g, o + 1, none⟩ (.int .i64 (orB has (l.getD k.toNat 0))) with drawn := d }) : LearnPost L l who has k al g o w (.returned (.bool true)) w' :=
  ⟨by rw [h], d, by rw [h]; exact hw⟩

end Rm
end Go.Proofs.Ytmhcbmcfhopiiaa
