/-
  What the model answers for those that nod: for each knot of a lace the set of those that see it and nothing that is doubled with it; for lists of knots whose words have at most 2^40 bytes.
-/
import Derived.Test.YtodgkhlnefggdaaNodM
namespace Go.Proofs.Ytodgkhlnefggdaa
open Go.RowKit
set_option maxRecDepth 100000
namespace Nd
open Kn (K okK)
open Bit (bit withB)
open Lc (at' RdK WordsOk laceB setB)
open Sg (isB bel belows)
open Db (RowI Dbl dblS)

/-- the model's question, over its two tables -/
def nodT (l : List Int) (D : Nat → Int) (b a : Nat) : Bool := bit (l.getD a 0) b && (bits .and .i64 (l.getD a 0) (D b) == 0)
/-- those of the first that nod, over the two tables -/
def nodR (l : List Int) (D : Nat → Int) (b : Nat) : Nat → Int
  | 0 => 0
  | n + 1 => if decide (b ≤ n) && nodT l D b n then withB (nodR l D b n) n else nodR l D b n
/-- the table when all below b have been done, and of b those below a -/
def tabN (l : List Int) (D : Nat → Int) (N b a i : Nat) : Int := if i < b then nodR l D i N else if i = b then nodR l D i a else 0

theorem nodR_low (l : List Int) (D : Nat → Int) (b n : Nat) (h : n ≤ b) : nodR l D b n = 0 := by
  induction n with
  | zero => rfl
  | succ n ih =>
    unfold nodR
    rw [decide_eq_false (by omega), Bool.false_and, if_neg (by simp)]
    exact ih (by omega)
theorem nodR_bd (l : List Int) (D : Nat → Int) (b n : Nat) (hn : n ≤ 60) : 0 ≤ nodR l D b n ∧ nodR l D b n < 1152921504606846976 := by
  induction n with
  | zero => exact ⟨Int.le_refl 0, show (0 : Int) < 1152921504606846976 by decide⟩
  | succ n ih =>
    have h := ih (by omega)
    unfold nodR; split
    · exact Bit.withB_bd _ h.1 h.2 n (by omega)
    · exact h
theorem tab_zero (l : List Int) (D : Nat → Int) (N : Nat) : tabN l D N 0 0 = fun _ => 0 := by
  funext i
  unfold tabN
  rw [if_neg (by omega)]
  split
  · rfl
  · rfl
theorem tab_next (l : List Int) (D : Nat → Int) (N b : Nat) : tabN l D N b N = tabN l D N (b + 1) (b + 1) := by
  funext i
  unfold tabN
  by_cases h1 : i < b
  · rw [if_pos h1, if_pos (by omega)]
  · by_cases h2 : i = b
    · rw [if_neg h1, if_pos h2, if_pos (by omega)]
    · rw [if_neg h1, if_neg h2, if_neg (by omega)]
      by_cases h3 : i = b + 1
      · rw [if_pos h3, nodR_low _ _ _ _ (by omega)]
      · rw [if_neg h3]
theorem tab_skip (l : List Int) (D : Nat → Int) (N b a : Nat) (hp : nodT l D b a = false) : tabN l D N b (a + 1) = tabN l D N b a := by
  funext i
  unfold tabN
  by_cases h2 : i = b
  · subst h2
    rw [if_neg (by omega), if_pos rfl, if_neg (by omega), if_pos rfl]
    show nodR l D i (a + 1) = _
    conv => lhs; unfold nodR
    rw [hp, Bool.and_false, if_neg (by simp)]
  · rw [if_neg h2, if_neg h2]
theorem tab_put (l : List Int) (D : Nat → Int) (N b a : Nat) (hba : b ≤ a) (hp : nodT l D b a = true) : (fun i => if i = b then withB (nodR l D b a) a else tabN l D N b a i) = tabN l D N b (a + 1) := by
  funext i
  unfold tabN
  by_cases h2 : i = b
  · subst h2
    rw [if_pos rfl, if_neg (by omega), if_pos rfl]
    show _ = nodR l D i (a + 1)
    conv => rhs; unfold nodR
    rw [hp, decide_eq_true hba, Bool.true_and, if_pos rfl]
  · rw [if_neg h2, if_neg h2, if_neg h2]
theorem tab_at (l : List Int) (D : Nat → Int) (N b a : Nat) : tabN l D N b a b = nodR l D b a := by
  unfold tabN; rw [if_neg (by omega), if_pos rfl]

/-- the nodding ones are handed back -/
def NodPost (L : List K) (l : List Int) (w : World) (e : Ending) (w' : World) : Prop := ∃ h D O, e = .returned (.slice (some ⟨h, 0, none⟩) L.length L.length) ∧ w.heap.size ≤ h ∧ RowI w' h L.length O ∧ Dbl L l L.length 0 D ∧ (∀ i, i < L.length → O i = nodR l D i L.length) ∧ Below w.heap.size w w'

/-- over the lace's own tables: the document's word -/
theorem nodR_eq {L : List K} (hl : laceB L = true) {D : Nat → Int} (h : Dbl L (belows L L.length) L.length 0 D) {b : Nat} (hb : b < L.length) (n : Nat) (hn : n ≤ L.length) : nodR (belows L L.length) D b n = nodS L b n := by
  induction n with
  | zero => rfl
  | succ n ih =>
    have ih := ih (by omega)
    unfold nodR nodS
    have e : (decide (b ≤ n) && nodT (belows L L.length) D b n) = nodN L n b := by
      have e1 : nodT (belows L L.length) D b n = nodN L n b := by
        unfold nodT nodN
        rw [Sg.belows_get L L.length n (by omega), Db.dbl_eq hl h hb]
      rw [e1]
      by_cases hbn : b ≤ n
      · rw [decide_eq_true hbn, Bool.true_and]
      · rw [decide_eq_false hbn, Bool.false_and]
        symm
        rw [Bool.eq_false_iff]
        intro hq
        exact hbn (nod_le hl (by omega) hq)
    rw [e, ih]

end Nd
end Go.Proofs.Ytodgkhlnefggdaa
