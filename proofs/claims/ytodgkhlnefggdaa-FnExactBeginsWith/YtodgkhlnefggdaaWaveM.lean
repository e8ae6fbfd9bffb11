/-
  Plain mathematics of waves: three rounds each, and whose turn a wave is. No program in it.
-/
import Derived.Test.YtodgkhlnefggdaaSightT
import Derived.Test.YtodgkhlnefggdaaRoomC
namespace Go.Proofs.Ytodgkhlnefggdaa
open Go.RowKit
set_option maxRecDepth 100000
namespace Ch
open Kn (K okK)
open Lc (at' laceB)
open Sg (isB)
open Rm (coinsB)

/-- whose turn a wave is -/
def leadI (C : List Int) (wave : Int) : Int := if wave < (C.length : Int) then C.getD wave.toNat 0 else wave % 4
/-- does a knot lead? -/
def leadK (C : List Int) (k : K) : Bool := decide (k.round % 3 = 0) && decide (k.hand = leadI C (k.round / 3))
/-- the document's WaveOf -/
def waveI (r : Int) : Int := if Kn.in19 r then r / 3 else -1
def in6 (x : Int) : Bool := decide (0 ≤ x) && decide (x ≤ 6)
/-- the document's LeaderOf -/
def leaderI (C : List Int) (wave : Int) : Int := if coinsB C && in6 wave then leadI C wave else -1
/-- the document's Leads -/
def leadsB (L : List K) (C : List Int) (k : Int) : Bool := isB L k && (coinsB C && leadK C (at' L k.toNat))

theorem lead_iff (C : List Int) (k : K) : leadK C k = true ↔ k.round % 3 = 0 ∧ k.hand = leadI C (k.round / 3) := by
  unfold leadK; rw [Bool.and_eq_true, decide_eq_true_eq, decide_eq_true_eq]
theorem lead_hand {C : List Int} {x y : K} (hx : leadK C x = true) (hy : leadK C y = true) (hr : x.round = y.round) : x.hand = y.hand := by
  rw [((lead_iff C x).1 hx).2, ((lead_iff C y).1 hy).2, hr]
theorem lead_gap {C : List Int} {x y : K} (hx : leadK C x = true) (hy : leadK C y = true) (hr : x.round < y.round) : x.round + 3 ≤ y.round := by
  have := ((lead_iff C x).1 hx).1
  have := ((lead_iff C y).1 hy).1
  omega
theorem coins_in {C : List Int} (h : coinsB C = true) {i : Nat} (hi : i < C.length) : 0 ≤ C.getD i 0 ∧ C.getD i 0 ≤ 3 := by
  unfold Rm.coinsB Rm.coinsTo at h
  rw [Bool.and_eq_true, List.all_eq_true] at h
  have := h.1 i (by simpa using hi)
  unfold Kn.in3 at this
  simpa using this
theorem coins_len {C : List Int} (h : coinsB C = true) : C.length ≤ 6 := by
  unfold Rm.coinsB at h
  rw [Bool.and_eq_true, decide_eq_true_eq] at h
  exact h.2
theorem lead_bd {C : List Int} (h : coinsB C = true) {wave : Int} (h0 : 0 ≤ wave) : 0 ≤ leadI C wave ∧ leadI C wave ≤ 3 := by
  unfold leadI
  split
  · exact coins_in h (by omega)
  · omega

end Ch
end Go.Proofs.Ytodgkhlnefggdaa
