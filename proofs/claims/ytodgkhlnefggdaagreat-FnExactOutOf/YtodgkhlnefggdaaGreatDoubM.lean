/-
  What the model's Doubled and DoublesOf answer: two knots of one hand neither of which sees the other; for lists of knots whose words have at most 2^40 bytes.
-/
import Derived.Test.YtodgkhlnefggdaaGreatDoubS
import Derived.Test.YtodgkhlnefggdaaGreatSightT
namespace Go.Proofs.YtodgkhlnefggdaaGreat
open Go.RowKit
set_option maxRecDepth 100000
namespace Db
open Kn (K okK)
open Bit (bit withB)
open Lc (at' RdK WordsOk laceB setB)
open Sg (isB bel belows)

/-- of one hand, and neither sees the other -/
def dblN (L : List K) (i j : Nat) : Bool := decide ((at' L i).hand = (at' L j).hand) && (!bit (bel L i) j && !bit (bel L j) i)
/-- the document's Doubled -/
def doubledB (L : List K) (a b : Int) : Bool := isB L a && (isB L b && dblN L a.toNat b.toNat)
/-- all that are doubled with one -/
def dblS (L : List K) (i : Nat) : Nat → Int
  | 0 => 0
  | n + 1 => if dblN L i n then withB (dblS L i n) n else dblS L i n
/-- the document's DoublesOf -/
def doublesI (L : List K) (a : Int) : Int := if isB L a then dblS L a.toNat L.length else -1

theorem dblS_bd (L : List K) (i n : Nat) (hn : n ≤ 60) : 0 ≤ dblS L i n ∧ dblS L i n < 1152921504606846976 := by
  induction n with
  | zero => exact ⟨Int.le_refl 0, show (0 : Int) < 1152921504606846976 by decide⟩
  | succ n ih =>
    have ih := ih (by omega)
    unfold dblS
    split
    · exact Bit.withB_bd _ ih.1 ih.2 n (by omega)
    · exact ih

theorem bit_dblS (L : List K) (i n : Nat) (hn : n ≤ 60) (j : Nat) : bit (dblS L i n) j = (decide (j < n) && dblN L i j) := by
  induction n with
  | zero => unfold dblS; rw [Lc.bit_zero]; simp
  | succ n ih =>
    have ih := ih (by omega)
    have hb := dblS_bd L i n (by omega)
    unfold dblS
    cases hd : dblN L i n
    · rw [if_neg (by simp), ih]
      by_cases e : j = n
      · subst e; simp [hd]
      · rw [show decide (j < n + 1) = decide (j < n) from by rw [Bool.eq_iff_iff]; simp; omega]
    · rw [if_pos rfl, Bit.bit_withB _ hb.1, ih]
      by_cases e : j = n
      · subst e; simp [hd]
      · rw [show decide (j < n + 1) = decide (j < n) from by rw [Bool.eq_iff_iff]; simp; omega]; simp [e]

theorem bel_hi {L : List K} (hl : laceB L = true) {i j : Nat} (hi : i < L.length) (hj : i < j) : bit (bel L i) j = false := by
  rw [Bool.eq_false_iff]
  intro h
  have := Sg.reach_le hl hi ((Sg.bel_reach hl i hi j).1 h)
  omega
theorem bel_self {L : List K} (hl : laceB L = true) {i : Nat} (hi : i < L.length) : bit (bel L i) i = true := (Sg.bel_reach hl i hi i).2 (.self _)

theorem dbl_n {L : List K} (hl : laceB L = true) {i j : Nat} (hi : i < L.length) (hj : j < L.length) : dblB L (belows L L.length) i j = dblN L i j := by
  unfold dblB dblN pairB
  rw [Sg.belows_get L L.length i hi, Sg.belows_get L L.length j hj]
  by_cases h1 : j < i
  · rw [if_pos h1, bel_hi hl hj h1]; simp
  · by_cases h2 : i < j
    · rw [if_neg h1, if_pos h2, bel_hi hl hi h2]
      rw [show decide ((at' L j).hand = (at' L i).hand) = decide ((at' L i).hand = (at' L j).hand) from by rw [Bool.eq_iff_iff]; simp [eq_comm]]
      simp
    · obtain rfl : i = j := by omega
      rw [if_neg h1, if_neg h2, bel_self hl hi]; simp

theorem dbl_bit {L : List K} (hl : laceB L = true) {D : Nat → Int} (h : Dbl L (belows L L.length) L.length 0 D) {i : Nat} (hi : i < L.length) (j : Nat) : bit (D i) j = (decide (j < L.length) && dblN L i j) := by
  rw [(h i hi).2 j]
  by_cases hj : j < L.length
  · rw [dbl_n hl hi hj]
    have : doneB L.length 0 i j = true := by unfold doneB; simp [hi, hj]
    rw [this]; simp [hj]
  · have : doneB L.length 0 i j = false := by unfold doneB; simp [hj]
    rw [this]; simp [hj]

theorem dbl_eq {L : List K} (hl : laceB L = true) {D : Nat → Int} (h : Dbl L (belows L L.length) L.length 0 D) {i : Nat} (hi : i < L.length) : D i = dblS L i L.length := by
  have h60 := ((Lc.lace_iff L).1 hl).1
  exact Lc.eq_of_bits _ _ (h i hi).1.1 (dblS_bd L i _ h60).1 fun j => by rw [dbl_bit hl h hi j, bit_dblS L i _ h60]

/-- the model's table of the doubled ones, with what it stands on -/
theorem table (g off cap : Nat) (L : List K) (w : World) (hl : laceB L = true) (hr : RdK w (some ⟨g, off, none⟩) L) :
    Calls Tryz.prog 20 #[.slice (some ⟨g, off, none⟩) L.length cap] w fun e w' => ∃ bo bc, e = .returned (.slice bo L.length bc) ∧ Below w.heap.size w w' ∧
      Calls Tryz.prog 53 #[.slice (some ⟨g, off, none⟩) L.length cap, .slice bo L.length bc] w' fun e2 w2 => ∃ D, e2 = .returned (.slice (some ⟨w'.heap.size, 0, none⟩) L.length L.length) ∧ RowI w2 w'.heap.size L.length D ∧ Dbl L (belows L L.length) L.length 0 D ∧ Below w'.heap.size w' w2 := by
  have h60 := ((Lc.lace_iff L).1 hl).1
  refine (Sg.l4All (some ⟨g, off, none⟩) cap L w h60 (Sg.frm_lace hl) hr).mono ?_
  rintro e w1 ⟨bo, bc, rfl, hown, hb1⟩
  have hbl := Sg.belows_len L L.length
  refine ⟨bo, bc, by rw [hbl], hb1, ?_⟩
  have h5 := l5All (some ⟨g, off, none⟩) cap L bo bc (belows L L.length) w1 h60 hbl (Sg.belows_in L L.length h60) (hr.below hb1) (Lst.own_rd hown) (fun g' e => by subst e; exact (World.ownsRow.lt hown g' rfl).2)
  rw [hbl] at h5
  exact h5

end Db
end Go.Proofs.YtodgkhlnefggdaaGreat
