/-
  What the model answers for Respects: each one is a knot, none is told twice, none stands ahead of one that it sees.
-/
import Derived.Test.YtodgkhlnefggdaaSightT
import Derived.Test.YtodgkhlnefggdaaDoubS
namespace Go.Proofs.Ytodgkhlnefggdaa
open Go.RowKit
set_option maxRecDepth 100000
set_option linter.unusedVariables false
namespace Tl
open Kn (K okK)
open Bit (bit withB memTo)
open Lc (at' RdK WordsOk laceB setB)
open Sg (isB bel belows)

/-- a number that there is a knot for -/
def inR (L : List K) (x : Int) : Bool := decide (0 ≤ x) && decide (x < (L.length : Int))
/-- of those behind the i-th, up to j, x sees none -/
def unB (L : List K) (C : List Int) (x : Int) (i j : Nat) : Bool := (List.range j).all fun q => decide (q ≤ i) || !(inR L (C.getD q 0) && bit (bel L x.toNat) (C.getD q 0).toNat)
/-- the i-th stands as it should -/
def okAt (L : List K) (C : List Int) (i : Nat) : Bool := inR L (C.getD i 0) && (!(C.take i).contains (C.getD i 0) && unB L C (C.getD i 0) i C.length)
/-- the document's Respects -/
def respB (L : List K) (C : List Int) : Bool := laceB L && (List.range C.length).all (okAt L C)

theorem resp_no {L : List K} {C : List Int} (i : Nat) (hi : i < C.length) (h : okAt L C i = false) : respB L C = false := by
  rw [Bool.eq_false_iff]
  intro hb
  unfold respB at hb
  rw [Bool.and_eq_true, List.all_eq_true] at hb
  have := hb.2 i (by simpa using hi)
  rw [h] at this; exact Bool.noConfusion this
theorem resp_yes {L : List K} {C : List Int} (hl : laceB L = true) (h : ∀ i, i < C.length → okAt L C i = true) : respB L C = true := by
  unfold respB
  rw [hl, Bool.true_and, List.all_eq_true]
  intro i hi
  exact h i (by simpa using hi)
theorem un_step (L : List K) (C : List Int) (x : Int) (i j : Nat) (hij : i < j) : unB L C x i (j + 1) = (unB L C x i j && !(inR L (C.getD j 0) && bit (bel L x.toNat) (C.getD j 0).toNat)) := by
  unfold unB
  rw [List.range_succ, List.all_append, List.all_cons, List.all_nil, Bool.and_true, decide_eq_false (by omega : ¬ j ≤ i), Bool.false_or]
theorem un_start (L : List K) (C : List Int) (x : Int) (i : Nat) : unB L C x i (i + 1) = true := by
  unfold unB
  rw [List.all_eq_true]
  intro q hq
  rw [decide_eq_true (by have := List.mem_range.1 hq; omega : q ≤ i)]; rfl
theorem un_no {L : List K} {C : List Int} {x : Int} {i j : Nat} (hij : i < j) (hj : j < C.length) (h : (inR L (C.getD j 0) && bit (bel L x.toNat) (C.getD j 0).toNat) = true) : unB L C x i C.length = false := by
  rw [Bool.eq_false_iff]
  intro hb
  unfold unB at hb
  rw [List.all_eq_true] at hb
  have := hb j (by simpa using hj)
  rw [decide_eq_false (by omega : ¬ j ≤ i), h] at this
  exact Bool.noConfusion this

/-- those of a list, as a set -/
def seenF (l : List Int) : Int := l.foldl (fun x a => withB x a.toNat) 0
theorem seenF_snoc (l : List Int) (a : Int) : seenF (l ++ [a]) = withB (seenF l) a.toNat := by
  unfold seenF; rw [List.foldl_append]; rfl
theorem seenF_bits (l : List Int) (hl : ∀ a ∈ l, 0 ≤ a ∧ a < 60) : (0 ≤ seenF l ∧ seenF l < 1152921504606846976) ∧ ∀ j : Nat, bit (seenF l) j = l.contains (j : Int) := by
  suffices H : ∀ (l : List Int) (x : Int), (∀ a ∈ l, 0 ≤ a ∧ a < 60) → (0 ≤ x ∧ x < 1152921504606846976) →
      (0 ≤ l.foldl (fun x a => withB x a.toNat) x ∧ l.foldl (fun x a => withB x a.toNat) x < 1152921504606846976) ∧
      ∀ j : Nat, bit (l.foldl (fun x a => withB x a.toNat) x) j = true ↔ (bit x j = true ∨ (j : Int) ∈ l) by
    have := H l 0 hl ⟨Int.le_refl 0, by decide⟩
    refine ⟨this.1, fun j => ?_⟩
    rw [Bool.eq_iff_iff, show seenF l = l.foldl (fun x a => withB x a.toNat) 0 from rfl, this.2 j, Lc.bit_zero]
    simp
  intro l
  induction l with
  | nil => intro x _ hx; exact ⟨hx, fun j => by simp⟩
  | cons a l ih =>
    intro x hl hx
    have ha := hl a (by simp)
    obtain ⟨p, rfl⟩ := Int.eq_ofNat_of_zero_le ha.1
    simp only [List.foldl_cons]
    rw [Int.toNat_natCast]
    have := ih (withB x p) (fun a h => hl a (by simp [h])) (Bit.withB_bd x hx.1 hx.2 p (by omega))
    refine ⟨this.1, fun j => ?_⟩
    rw [this.2 j, Bit.bit_withB x hx.1, Bool.or_eq_true, decide_eq_true_eq, List.mem_cons]
    constructor
    · rintro ((h | h) | h)
      · exact .inr (.inl (by omega))
      · exact .inl h
      · exact .inr (.inr h)
    · rintro (h | h | h)
      · exact .inl (.inr h)
      · exact .inl (.inl (by omega))
      · exact .inr h
theorem inR_iff (L : List K) (x : Int) : inR L x = true ↔ 0 ≤ x ∧ x < (L.length : Int) := by
  unfold inR; rw [Bool.and_eq_true, decide_eq_true_eq, decide_eq_true_eq]
theorem ok_in {L : List K} {C : List Int} {i : Nat} (h : okAt L C i = true) : inR L (C.getD i 0) = true := by
  unfold okAt at h; rw [Bool.and_eq_true] at h; exact h.1
theorem take_in {L : List K} {C : List Int} (h60 : L.length ≤ 60) {i : Nat} (hi : i ≤ C.length) (h : ∀ q, q < i → okAt L C q = true) : ∀ a ∈ C.take i, 0 ≤ a ∧ a < 60 := by
  intro a ha
  obtain ⟨q, hq, e⟩ := List.getElem_of_mem ha
  rw [List.length_take] at hq
  have h1 := (inR_iff L _).1 (ok_in (h q (by omega)))
  have e2 : C.getD q 0 = a := by
    rw [← e, List.getElem_take, List.getD, List.getElem?_eq_getElem (by omega)]; rfl
  rw [e2] at h1
  omega

end Tl
end Go.Proofs.Ytodgkhlnefggdaa
