/-
  What the model's Below, Sees, Closed and Tips answer, in the words of SightM; for lists of knots whose words have at most 2^40 bytes.
-/
import Derived.Test.YtapfmadnkaimeaaDoorSightS
import Derived.Test.YtapfmadnkaimeaaDoorSightN
import Derived.Test.YtapfmadnkaimeaaDoorLaceU
namespace Go.Proofs.YtapfmadnkaimeaaDoor
open Go.RowKit
set_option maxRecDepth 100000
namespace Sg
open Kn (K okK)
open Bit (bit)
open Lc (at' RdK laceB WordsOk setB)

/-- is there such a knot, of a lace? -/
def isB (L : List K) (k : Int) : Bool := decide (0 ≤ k) && (decide (k < (L.length : Int)) && laceB L)
/-- what Below answers -/
def belowI (L : List K) (k : Int) : Int := if isB L k then bel L k.toNat else -1
/-- what Sees answers -/
def seesB (L : List K) (a b : Int) : Bool := isB L a && (isB L b && bit (bel L a.toNat) b.toNat)
/-- what Closed answers -/
def closedB (L : List K) (s : Int) : Bool := setB L s && closedTo (belows L L.length) s L.length
/-- what Tips answers -/
def tipsI (L : List K) (s : Int) : Int := if closedB L s then tipsTo (belows L L.length) s L.length else -1

theorem isB_parts {L : List K} {k : Int} (h : isB L k = true) : 0 ≤ k ∧ k < (L.length : Int) ∧ laceB L = true := by
  unfold isB at h
  simpa using h

theorem below_drewN {b : Nat} {a w : World} (h : Below b a w) (n : Nat) : Below b a (w.drewN n) := ⟨h.os, h.tape, h.output, h.size, h.block⟩

end Sg
end Go.Proofs.YtapfmadnkaimeaaDoor
