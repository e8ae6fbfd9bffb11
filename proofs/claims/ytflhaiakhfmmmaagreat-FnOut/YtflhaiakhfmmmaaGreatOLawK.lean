/-
 What the small functions of the exact statements on knots answer: how great a knot is, a knot handed on, and whether two are alike; for every knot.
-/
import Derived.Test.YtflhaiakhfmmmaaGreatOKnotM
namespace Go.Proofs.YtflhaiakhfmmmaaGreat
open Go.RowKit
set_option maxRecDepth 100000
namespace Kn
end Kn
end Go.Proofs.YtflhaiakhfmmmaaGreat
