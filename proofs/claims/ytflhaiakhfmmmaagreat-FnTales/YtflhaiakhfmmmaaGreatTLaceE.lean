/-
  What the program's own LaceOk, CanTie, HandsOf and AtRound answer, in the words of LaceM; for lists of at most 2^40 knots whose words have at most 2^40 bytes.
-/
import Derived.Test.YtflhaiakhfmmmaaGreatTLaceD
namespace Go.Proofs.YtflhaiakhfmmmaaGreat
open Go.RowKit
set_option maxRecDepth 100000
namespace Lc
open Kn (K okK)
open Bit (bit withB)

end Lc
end Go.Proofs.YtflhaiakhfmmmaaGreat
