/-
  What the small functions of the exact statements on knots answer: how great a knot is, a knot handed on, and whether two are alike; for every knot.
-/
import Derived.Test.YtfjmenhofllchaaGreatDoorKnotM
namespace Go.Proofs.YtfjmenhofllchaaGreatDoor
open Go.RowKit
set_option maxRecDepth 100000
namespace Kn

def szI (left : Int) (n : Nat) : Int := if left < (n : Int) then -1 else left - (n : Int)

end Kn
end Go.Proofs.YtfjmenhofllchaaGreatDoor
