/-
  Plain mathematics of nodding, for laces: who sees a knot and nothing that is doubled with it. No program in it.
-/
import Derived.Test.YtodgkhlnefggdaaGreatDoubM
namespace Go.Proofs.YtodgkhlnefggdaaGreat
open Go.RowKit
set_option maxRecDepth 100000
namespace Nd
open Kn (K okK)
open Bit (bit withB memTo)
open Lc (at' laceB setB)
open Sg (isB bel)
open Db (dblN dblS doublesI)

/-- a sees b and nothing that is doubled with b -/
def nodN (L : List K) (a b : Nat) : Bool := bit (bel L a) b && (bits .and .i64 (bel L a) (dblS L b L.length) == 0)
/-- the document's Nods -/
def nodsB (L : List K) (a b : Int) : Bool := isB L a && (isB L b && nodN L a.toNat b.toNat)
/-- those of the first that nod to b -/
def nodS (L : List K) (b : Nat) : Nat → Int
  | 0 => 0
  | n + 1 => if nodN L n b then withB (nodS L b n) n else nodS L b n
/-- the document's Nodders -/
def noddersI (L : List K) (s b : Int) : Int := if setB L s && isB L b then bits .and .i64 s (nodS L b.toNat L.length) else -1

theorem nodS_bd (L : List K) (b n : Nat) (hn : n ≤ 60) : 0 ≤ nodS L b n ∧ nodS L b n < 1152921504606846976 := by
  induction n with
  | zero => exact ⟨Int.le_refl 0, show (0 : Int) < 1152921504606846976 by decide⟩
  | succ n ih =>
    have h := ih (by omega)
    unfold nodS; split
    · exact Bit.withB_bd _ h.1 h.2 n (by omega)
    · exact h

theorem bit_nodS (L : List K) (b n : Nat) (hn : n ≤ 60) (j : Nat) : bit (nodS L b n) j = (decide (j < n) && nodN L j b) := by
  induction n with
  | zero => show bit 0 j = _; rw [Lc.bit_zero]; simp
  | succ n ih =>
    have h := nodS_bd L b n (by omega)
    unfold nodS
    cases hd : nodN L n b
    · rw [if_neg (by simp), ih (by omega)]
      by_cases e : j = n
      · subst e; rw [hd]; simp
      · have : decide (j < n + 1) = decide (j < n) := by simp; omega
        rw [this]
    · rw [if_pos rfl, Bit.bit_withB _ h.1, ih (by omega)]
      by_cases e : j = n
      · subst e; rw [hd]; simp
      · have : decide (j < n + 1) = decide (j < n) := by simp; omega
        rw [this, decide_eq_false e, Bool.false_or]

theorem nod_iff {L : List K} (h60 : L.length ≤ 60) {a b : Nat} (ha : a < 60) : nodN L a b = true ↔ bit (bel L a) b = true ∧ ∀ j, j < L.length → bit (bel L a) j = true → dblN L b j = false := by
  have h1 := Sg.bel_bd L a ha
  have h2 := Db.dblS_bd L b L.length h60
  unfold nodN
  rw [Bool.and_eq_true, beq_iff_eq]
  have hz := Lc.and_zero_iff (bel L a) (dblS L b L.length) h1.1 (by omega) h2.1 (by omega)
  constructor
  · rintro ⟨hb, he⟩
    refine ⟨hb, fun j hj hbj => ?_⟩
    rw [Bool.eq_false_iff]
    intro hd
    exact hz.2 ⟨j, hbj, by rw [Db.bit_dblS L b _ h60, hd]; simp [hj]⟩ he
  · rintro ⟨hb, hno⟩
    refine ⟨hb, ?_⟩
    apply Classical.byContradiction
    intro hne
    obtain ⟨j, h3, h4⟩ := hz.1 hne
    rw [Db.bit_dblS L b _ h60, Bool.and_eq_true, decide_eq_true_eq] at h4
    rw [hno j h4.1 h3] at h4
    exact Bool.noConfusion h4.2

/-- nobody nods to two that are doubled -/
theorem nod_one {L : List K} (h60 : L.length ≤ 60) {a b d : Nat} (ha : a < 60) (hd : d < L.length) (hn : nodN L a b = true) (hb : dblN L b d = true) : nodN L a d = false := by
  rw [Bool.eq_false_iff]
  intro h2
  have h3 := ((nod_iff h60 ha).1 h2).1
  rw [((nod_iff h60 ha).1 hn).2 d hd h3] at hb
  exact Bool.noConfusion hb

/-- who nods is no earlier one -/
theorem nod_le {L : List K} (hl : laceB L = true) {a b : Nat} (ha : a < L.length) (hn : nodN L a b = true) : b ≤ a := by
  apply Classical.byContradiction
  intro h
  have h60 := ((Lc.lace_iff L).1 hl).1
  have h1 := ((nod_iff h60 (by omega)).1 hn).1
  rw [Db.bel_hi hl ha (by omega)] at h1
  exact Bool.noConfusion h1

end Nd
end Go.Proofs.YtodgkhlnefggdaaGreat
