/-
  What the model answers for the doubled ones: for each knot the set of those of its hand that it doesn't see and that don't see it; for laces of at most 60 knots.
-/
import Derived.Test.YtapfmadnkaimeaaDoorSightS
import Derived.Test.YtapfmadnkaimeaaDoorSightN
import Derived.BigRegion
namespace Go.Proofs.YtapfmadnkaimeaaDoor
open Go.RowKit
set_option maxRecDepth 100000
namespace Db
open Kn (K okK)
open Bit (bit withB)
open Lc (at' RdK)

/-- the greater one and the lesser one are of one hand, and the greater one doesn't see the lesser one -/
def pairB (L : List K) (l : List Int) (a b : Nat) : Bool := decide ((at' L a).hand = (at' L b).hand) && !bit (l.getD a 0) b
/-- doubled -/
def dblB (L : List K) (l : List Int) (i j : Nat) : Bool := if j < i then pairB L l i j else if i < j then pairB L l j i else false
/-- the pairs that have been looked at: all below a, and those of a below b -/
def doneB (a b i j : Nat) : Bool := (decide (i < a) && decide (j < a)) || ((decide (i = a) && decide (j < b)) || (decide (j = a) && decide (i < b)))

/-- numbers in a block of the call's own -/
structure RowI (w : World) (g n : Nat) (D : Nat → Int) : Prop where
  lt : g < w.heap.size
  rd : ∀ i, i < n → w.cell? ⟨g, i, none⟩ = some (.int .i64 (D i))
  fr : ∀ i, i < n → w.frozen? ⟨g, i, none⟩ = false

theorem RowI.put {w : World} {g n : Nat} {D : Nat → Int} (h : RowI w g n D) (m : Nat) (hm : m < n) (x : Int) : RowI (w.setCell ⟨g, m, none⟩ (.int .i64 x)) g n (fun i => if i = m then x else D i) where
  lt := by simpa using h.lt
  rd := fun i hi => by
    by_cases e : i = m
    · subst e; simpa using World.cell?_setCell_same _ _ _ (h.rd i hi)
    · rw [if_neg e]; exact (World.cell?_setCell_other _ _ _ _ (by intro q; injection q with _ q; exact e q.symm)).trans (h.rd i hi)
  fr := fun i hi => by simpa using h.fr i hi
theorem RowI.drew {w : World} {g n : Nat} {D : Nat → Int} (h : RowI w g n D) : RowI w.drew g n D := ⟨h.lt, h.rd, h.fr⟩
theorem RowI.drewN {w : World} {g n : Nat} {D : Nat → Int} (h : RowI w g n D) (k : Nat) : RowI (w.drewN k) g n D := ⟨h.lt, h.rd, h.fr⟩

/-- what the numbers are when the pairs up to there have been looked at -/
def Dbl (L : List K) (l : List Int) (a b : Nat) (D : Nat → Int) : Prop := ∀ i, i < L.length → (0 ≤ D i ∧ D i < 1152921504606846976) ∧ ∀ j, bit (D i) j = (dblB L l i j && doneB a b i j)

theorem dbl_zero (L : List K) (l : List Int) : Dbl L l 0 0 (fun _ => 0) := fun i _ => ⟨⟨Int.le_refl 0, show (0 : Int) < 1152921504606846976 by decide⟩, fun j => by show bit 0 j = _; rw [Lc.bit_zero]; simp [doneB]⟩
theorem dbl_next (L : List K) (l : List Int) (a : Nat) (D : Nat → Int) (h : Dbl L l a a D) : Dbl L l (a + 1) 0 D := by
  intro i hi
  refine ⟨(h i hi).1, fun j => ?_⟩
  rw [(h i hi).2 j]
  by_cases he : i = j
  · subst he; simp [dblB]
  · have : doneB a a i j = doneB (a + 1) 0 i j := by
      unfold doneB
      rw [Bool.eq_iff_iff]; simp; omega
    rw [this]
theorem dbl_skip (L : List K) (l : List Int) (a b : Nat) (D : Nat → Int) (hab : b < a) (hp : pairB L l a b = false) (h : Dbl L l a b D) : Dbl L l a (b + 1) D := by
  intro i hi
  refine ⟨(h i hi).1, fun j => ?_⟩
  rw [(h i hi).2 j]
  by_cases hc : (i = a ∧ j = b) ∨ (i = b ∧ j = a)
  · have : dblB L l i j = false := by
      unfold dblB
      rcases hc with ⟨rfl, rfl⟩ | ⟨rfl, rfl⟩
      · rw [if_pos hab]; exact hp
      · rw [if_neg (by omega), if_pos hab]; exact hp
    rw [this]; rfl
  · have : doneB a b i j = doneB a (b + 1) i j := by
      unfold doneB
      rw [Bool.eq_iff_iff]; simp; omega
    rw [this]
/-- the numbers when a pair has been marked -/
def putD (D : Nat → Int) (a b i : Nat) : Int := if i = b then withB (if b = a then withB (D a) b else D b) a else if i = a then withB (D a) b else D i

theorem dbl_put (L : List K) (l : List Int) (a b : Nat) (D : Nat → Int) (hab : b < a) (ha : a < 60) (hp : pairB L l a b = true) (h : Dbl L l a b D) : Dbl L l a (b + 1) (putD D a b) := by
  intro i hi
  unfold putD
  by_cases h1 : i = b
  · subst h1
    have hd := h i hi
    simp only [if_true]
    rw [if_neg (show ¬ i = a by omega)]
    refine ⟨Bit.withB_bd _ hd.1.1 hd.1.2 a ha, fun j => ?_⟩
    rw [Bit.bit_withB _ hd.1.1, hd.2 j]
    by_cases hj : j = a
    · subst hj
      have e1 : dblB L l i j = true := by unfold dblB; rw [if_neg (by omega), if_pos hab]; exact hp
      have e2 : doneB j (i + 1) i j = true := by unfold doneB; simp
      rw [e1, e2]; simp
    · have : doneB a i i j = doneB a (i + 1) i j := by
        unfold doneB; rw [Bool.eq_iff_iff]; simp; omega
      rw [this]; simp [hj]
  · by_cases h2 : i = a
    · subst h2
      have hd := h i hi
      rw [if_neg h1]
      simp only [if_true]
      refine ⟨Bit.withB_bd _ hd.1.1 hd.1.2 b (by omega), fun j => ?_⟩
      rw [Bit.bit_withB _ hd.1.1, hd.2 j]
      by_cases hj : j = b
      · subst hj
        have e1 : dblB L l i j = true := by unfold dblB; rw [if_pos hab]; exact hp
        have e2 : doneB i (j + 1) i j = true := by unfold doneB; simp
        rw [e1, e2]; simp
      · have : doneB i b i j = doneB i (b + 1) i j := by
          unfold doneB; rw [Bool.eq_iff_iff]; simp; omega
        rw [this]; simp [hj]
    · have hd := h i hi
      rw [if_neg h1, if_neg h2]
      refine ⟨hd.1, fun j => ?_⟩
      rw [hd.2 j]
      have : doneB a b i j = doneB a (b + 1) i j := by
        unfold doneB; rw [Bool.eq_iff_iff]; simp; omega
      rw [this]

theorem rowI_made (w : World) (t : TypeId) (n : Nat) : RowI (w.alloc (.cells (madeCells #[.int .i64 0] n) t)) w.heap.size n (fun _ => 0) where
  lt := by simp
  rd := fun i hi => by
    rw [World.cell?_alloc_new]
    have : i < (madeCells #[Value.int .i64 0] n).size := by rw [size_madeCells]; exact hi
    rw [Array.getElem?_eq_getElem this]
    simp [madeCells, Nat.mod_one]
  fr := fun i hi => by simp

theorem has_call (f : Int) (i : Nat) (b : Bool) (h0 : 0 ≤ f) (h1 : f < 1152921504606846976) (hi : i ≤ 60) (hb : bit f i = b) (W : World) : Calls Tryd.prog 55 #[.int .i64 f, .int .i64 (i : Int)] W fun e w' => e = .returned (.bool b) ∧ w' = W := by
  refine (Base.l1Has f (i : Int) W h0 h1 (by omega) (by omega)).mono ?_
  rintro e w' ⟨rfl, rfl⟩
  exact ⟨by rw [Int.toNat_natCast, hb], rfl⟩

/-- the doubled ones are handed back -/
def DblPost (L : List K) (l : List Int) (w : World) (e : Ending) (w' : World) : Prop := ∃ D, e = .returned (.slice (some ⟨w.heap.size, 0, none⟩) L.length L.length) ∧ RowI w' w.heap.size L.length D ∧ Dbl L l L.length 0 D ∧ Below w.heap.size w w'

theorem below_drewN {b : Nat} {a w : World} (h : Below b a w) (n : Nat) : Below b a (w.drewN n) := ⟨h.os, h.tape, h.output, h.size, h.block⟩

end Db
end Go.Proofs.YtapfmadnkaimeaaDoor
