/-
  What the model answers for those that seal: for each knot of a lace the set of those below which three hands nodded to it; for lists of knots whose words have at most 2^40 bytes.
-/
import Derived.Test.YtodgkhlnefggdaaSealM
import Derived.Test.YtodgkhlnefggdaaNodS
namespace Go.Proofs.Ytodgkhlnefggdaa
open Go.RowKit
set_option maxRecDepth 100000
namespace Sl
open Kn (K okK)
open Bit (bit withB)
open Lc (at' RdK WordsOk laceB setB Four ofH handsN)
open Sg (isB bel belows)
open Db (RowI)
open Nd (nodS)

/-- the table when all below b have been done, and of b those below a -/
def tabS (L : List K) (N b a i : Nat) : Int := if i < b then sealS L i N else if i = b then sealS L i a else 0

theorem sealS_low {L : List K} (hl : laceB L = true) (b n : Nat) (hn : n ≤ L.length) (h : n ≤ b) : sealS L b n = 0 := by
  induction n with
  | zero => rfl
  | succ n ih =>
    have hf : sealN L n b = false := by
      rw [Bool.eq_false_iff]
      intro hs
      have := seal_le hl (by omega) hs
      omega
    unfold sealS
    rw [hf, if_neg (by simp)]
    exact ih (by omega) (by omega)
theorem tabS_zero (L : List K) (N : Nat) : tabS L N 0 0 = fun _ => 0 := by
  funext i
  unfold tabS
  rw [if_neg (by omega)]
  split
  · rfl
  · rfl
theorem tabS_next {L : List K} (hl : laceB L = true) (b : Nat) (hb : b < L.length) (i : Nat) : tabS L L.length b L.length i = tabS L L.length (b + 1) (b + 1) i := by
  unfold tabS
  by_cases h1 : i < b
  · rw [if_pos h1, if_pos (by omega)]
  · by_cases h2 : i = b
    · rw [if_neg h1, if_pos h2, if_pos (by omega)]
    · rw [if_neg h1, if_neg h2, if_neg (by omega)]
      by_cases h3 : i = b + 1
      · rw [if_pos h3, sealS_low hl _ _ (by omega) (by omega)]
      · rw [if_neg h3]
theorem tabS_skip (L : List K) (N b a : Nat) (hp : sealN L a b = false) : tabS L N b (a + 1) = tabS L N b a := by
  funext i
  unfold tabS
  by_cases h2 : i = b
  · subst h2
    rw [if_neg (by omega), if_pos rfl, if_neg (by omega), if_pos rfl]
    show sealS L i (a + 1) = _
    conv => lhs; unfold sealS
    rw [hp, if_neg (by simp)]
  · rw [if_neg h2, if_neg h2]
theorem tabS_put (L : List K) (N b a : Nat) (hp : sealN L a b = true) : (fun i => if i = b then withB (sealS L b a) a else tabS L N b a i) = tabS L N b (a + 1) := by
  funext i
  unfold tabS
  by_cases h2 : i = b
  · subst h2
    rw [if_pos rfl, if_neg (by omega), if_pos rfl]
    show _ = sealS L i (a + 1)
    conv => rhs; unfold sealS
    rw [hp, if_pos rfl]
  · rw [if_neg h2, if_neg h2, if_neg h2]
theorem tabS_at (L : List K) (N b a : Nat) : tabS L N b a b = sealS L b a := by
  unfold tabS; rw [if_neg (by omega), if_pos rfl]
theorem rowI_eq {w : World} {g n : Nat} {D E : Nat → Int} (h : RowI w g n D) (e : ∀ i, i < n → D i = E i) : RowI w g n E := ⟨h.lt, fun i hi => by rw [← e i hi]; exact h.rd i hi, h.fr⟩
theorem four_below {w w' : World} {g : Nat} {x0 x1 x2 x3 : Int} (h : Four w g x0 x1 x2 x3) (hb : Below w.heap.size w w') : Four w' g x0 x1 x2 x3 where
  lt := Nat.lt_of_lt_of_le h.lt hb.size
  c0 := (hb.cell (p := ⟨g, 0, none⟩) h.lt).trans h.c0
  c1 := (hb.cell (p := ⟨g, 1, none⟩) h.lt).trans h.c1
  c2 := (hb.cell (p := ⟨g, 2, none⟩) h.lt).trans h.c2
  c3 := (hb.cell (p := ⟨g, 3, none⟩) h.lt).trans h.c3
  f := fun j hj => (hb.frozen (p := ⟨g, j, none⟩) h.lt).trans (h.f j hj)

/-- the table of those that seal is handed back -/
def SealPost (L : List K) (w : World) (e : Ending) (w' : World) : Prop := ∃ h O, e = .returned (.slice (some ⟨h, 0, none⟩) L.length L.length) ∧ w.heap.size ≤ h ∧ RowI w' h L.length O ∧ (∀ i, i < L.length → O i = sealS L i L.length) ∧ Below w.heap.size w w'

end Sl
end Go.Proofs.Ytodgkhlnefggdaa
