/-
  Plain mathematics of the pairs: all two of a set are put, those of which the greater one sees the lesser one are struck, one knot after another; what is left; for laces.
-/
import Derived.Test.YtaoglifenjmecajDoubM
import Derived.Test.YtaoglifenjmecajSightV
namespace Go.Proofs.Ytaoglifenjmecaj
open Go.RowKit
set_option maxRecDepth 100000
namespace Db
open Kn (K okK)
open Bit (bit withB memTo)
open Lc (at' laceB)
open Sg (bel vis oneI gath metI)

/-- pairs whose greater one is among the first i -/
def doneP (L : List K) (l : List Int) (i a b : Nat) : Bool := decide ((b : Int) ∈ l.take i) && (decide ((a : Int) ∈ l) && (decide (a < b) && !bit (bel L b) a))
/-- .. and those of y with one of the first t -/
def midP (L : List K) (l : List Int) (i y t a b : Nat) : Bool := doneP L l i a b || (decide (a ∈ (l.take t).map Int.toNat) && decide (b = y))
/-- .. without those that have been struck -/
def delP (L : List K) (l : List Int) (i y : Nat) (pre : List (Fin L.length)) (a b : Nat) : Bool := midP L l i y i a b && !(decide (a ∈ pre.map Fin.val) && decide (b = y))

/-- a list of numbers that rise, from 0 up -/
structure Rise (l : List Int) : Prop where
  nn : ∀ x ∈ l, 0 ≤ x
  up : l.Pairwise (· < ·)

theorem rise_memTo (s : Int) (k : Nat) : Rise (memTo s k) := by
  refine ⟨fun x hx => ?_, ?_⟩
  · obtain ⟨j, _, rfl, _⟩ := (Bit.mem_memTo s k x).1 hx; omega
  · induction k with
    | zero => exact List.Pairwise.nil
    | succ k ih =>
      rw [Bit.memTo_succ]
      refine List.pairwise_append.2 ⟨ih, ?_, ?_⟩
      · split
        · exact List.pairwise_singleton _ _
        · exact List.Pairwise.nil
      · intro x hx y hy
        obtain ⟨j, hj, rfl, _⟩ := (Bit.mem_memTo s k x).1 hx
        split at hy
        · simp at hy; omega
        · cases hy

theorem take_lt {l : List Int} (h : Rise l) (i : Nat) (hi : i < l.length) (x : Int) : x ∈ l.take i ↔ x ∈ l ∧ x < l.getD i 0 := by
  have hg : l.getD i 0 = l[i] := by simp [hi]
  rw [hg]
  constructor
  · intro hx
    refine ⟨List.mem_of_mem_take hx, ?_⟩
    obtain ⟨j, hj, rfl⟩ := List.mem_iff_getElem.1 hx
    rw [List.getElem_take]
    have hji : j < i := by have := hj; simp at this; omega
    exact List.pairwise_iff_getElem.1 h.up j i (by omega) hi hji
  · rintro ⟨hx, hlt⟩
    obtain ⟨j, hj, rfl⟩ := List.mem_iff_getElem.1 hx
    have hji : j < i := by
      apply Classical.byContradiction
      intro hn
      by_cases e : j = i
      · subst e; omega
      · have := List.pairwise_iff_getElem.1 h.up i j hi hj (by omega); omega
    exact List.mem_iff_getElem.2 ⟨j, by simp; omega, by rw [List.getElem_take]⟩

theorem mem_toNat {l : List Int} (h : Rise l) (a : Nat) (t : Nat) : a ∈ (l.take t).map Int.toNat ↔ (a : Int) ∈ l.take t := by
  simp only [List.mem_map]
  constructor
  · rintro ⟨x, hx, e⟩
    have := h.nn x (List.mem_of_mem_take hx)
    have e' : x = (a : Int) := by omega
    exact e' ▸ hx
  · intro hx; exact ⟨_, hx, by simp⟩

theorem take_next (l : List Int) (i : Nat) (hi : i < l.length) : l.take (i + 1) = l.take i ++ [l.getD i 0] := by
  rw [List.take_succ_eq_append_getElem hi]; simp [hi]

theorem mid_zero (L : List K) (l : List Int) (i y a b : Nat) : midP L l i y 0 a b = doneP L l i a b := by unfold midP; simp

theorem mid_step (L : List K) (l : List Int) (i y t : Nat) (ht : t < l.length) (a b : Nat) : midP L l i y (t + 1) a b = (midP L l i y t a b || (decide (a = (l.getD t 0).toNat) && decide (b = y))) := by
  unfold midP
  rw [take_next l t ht, List.map_append, Bool.eq_iff_iff]
  simp only [Bool.or_eq_true, Bool.and_eq_true, decide_eq_true_eq, List.mem_append, List.map_cons, List.map_nil, List.mem_singleton]
  constructor
  · rintro (h | ⟨h | h, e⟩)
    · exact .inl (.inl h)
    · exact .inl (.inr ⟨h, e⟩)
    · exact .inr ⟨h, e⟩
  · rintro ((h | ⟨h, e⟩) | ⟨h, e⟩)
    · exact .inl h
    · exact .inr ⟨.inl h, e⟩
    · exact .inr ⟨.inr h, e⟩

theorem del_nil (L : List K) (l : List Int) (i y a b : Nat) : delP L l i y [] a b = midP L l i y i a b := by unfold delP; simp

theorem del_step (L : List K) (l : List Int) (i y : Nat) (pre : List (Fin L.length)) (x : Fin L.length) (a b : Nat) : delP L l i y (pre ++ [x]) a b = (delP L l i y pre a b && !(decide (a = x.val) && decide (b = y))) := by
  unfold delP
  rw [List.map_append, Bool.eq_iff_iff]
  simp only [Bool.and_eq_true, Bool.not_eq_true', Bool.and_eq_false_iff, decide_eq_false_iff_not, List.mem_append, List.map_cons, List.map_nil, List.mem_singleton]
  constructor
  · rintro ⟨h, h2 | h2⟩
    · exact ⟨⟨h, .inl fun e => h2 (.inl e)⟩, .inl fun e => h2 (.inr e)⟩
    · exact ⟨⟨h, .inr h2⟩, .inr h2⟩
  · rintro ⟨⟨h, h2⟩, h3⟩
    refine ⟨h, ?_⟩
    rcases h2 with h2 | h2
    · rcases h3 with h3 | h3
      · exact .inl (fun e => e.elim h2 h3)
      · exact .inr h3
    · exact .inr h2

theorem bit_gath {n : Nat} (xs : List (Fin n)) (j : Nat) : bit (gath 0 xs) j = decide (j ∈ xs.map Fin.val) := by
  have : ∀ (xs : List (Fin n)) (f : Int), 0 ≤ f → (bit (gath f xs) j = (bit f j || decide (j ∈ xs.map Fin.val))) := by
    intro xs
    induction xs with
    | nil => intro f _; simp [gath]
    | cons x xs ih =>
      intro f hf
      have hw : 0 ≤ withB f x.val := by unfold withB; omega
      have := ih (withB f x.val) hw
      show bit (gath (withB f x.val) xs) j = _
      rw [this, Bit.bit_withB f hf, Bool.eq_iff_iff]
      simp only [Bool.or_eq_true, decide_eq_true_eq, List.map_cons, List.mem_cons]
      constructor
      · rintro ((h | h) | h)
        · exact .inr (.inl h)
        · exact .inl h
        · exact .inr (.inr h)
      · rintro (h | h | h)
        · exact .inl (.inr h)
        · exact .inl (.inl h)
        · exact .inr h
  rw [this xs 0 (Int.le_refl 0), Lc.bit_zero]; simp

theorem mem_vis {L : List K} (hl : laceB L = true) (y : Nat) (hy : y < L.length) (j : Nat) : j ∈ (vis L (oneI (y : Int))).map Fin.val ↔ bit (bel L y) j = true := by
  have h := Sg.gath_vis hl (y : Int)
  have e : metI L (y : Int) = bel L y := by unfold Sg.metI; rw [if_pos ⟨by omega, by omega⟩, Int.toNat_natCast]
  rw [e] at h
  rw [← h, bit_gath]; simp

theorem del_end {L : List K} (hl : laceB L = true) {l : List Int} (hr : Rise l) (i y : Nat) (hi : i < l.length) (hy : l.getD i 0 = (y : Int)) (hyl : y < L.length) (a b : Nat) : delP L l i y (vis L (oneI (y : Int))) a b = doneP L l (i + 1) a b := by
  unfold delP midP doneP
  rw [take_next l i hi, hy, Bool.eq_iff_iff]
  simp only [Bool.and_eq_true, Bool.or_eq_true, Bool.not_eq_true', Bool.and_eq_false_iff, decide_eq_false_iff_not, decide_eq_true_eq, List.mem_append, List.mem_singleton, mem_toNat hr, mem_vis hl y hyl, take_lt hr i hi, hy]
  by_cases e : b = y
  · subst e
    constructor
    · rintro ⟨(⟨⟨_, h⟩, _⟩ | ⟨⟨h1, h2⟩, _⟩), h3⟩
      · omega
      · refine ⟨.inr rfl, h1, by omega, ?_⟩
        rcases h3 with h3 | h3
        · simpa using h3
        · exact absurd rfl h3
    · rintro ⟨_, h1, h2, h3⟩
      exact ⟨.inr ⟨⟨h1, by omega⟩, rfl⟩, .inl (by simp [h3])⟩
  · constructor
    · rintro ⟨(⟨h, h2⟩ | ⟨_, h⟩), _⟩
      · exact ⟨.inl h, h2⟩
      · exact absurd h e
    · rintro ⟨(h | h), h2⟩
      · exact ⟨.inl ⟨h, h2⟩, .inr e⟩
      · omega

/-- two of the set that are apart -/
def apartB (L : List K) (l : List Int) (a b : Nat) : Bool := doneP L l l.length a b
theorem apart_iff (L : List K) (l : List Int) (a b : Nat) : apartB L l a b = true ↔ (b : Int) ∈ l ∧ (a : Int) ∈ l ∧ a < b ∧ bit (bel L b) a = false := by
  unfold apartB doneP
  rw [List.take_length]; simp

end Db
end Go.Proofs.Ytaoglifenjmecaj
