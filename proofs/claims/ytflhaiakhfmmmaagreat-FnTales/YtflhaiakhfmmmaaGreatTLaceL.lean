/-
  What the small functions of the exact statements on lists of knots answer: how great a list is, a list handed on into new memory, and whether two that hold the same are alike; for lists of at most 2^20 knots.
-/
import Derived.Test.YtflhaiakhfmmmaaGreatTLaceR
import Derived.Test.YtflhaiakhfmmmaaGreatTLawK
import Derived.Test.YtflhaiakhfmmmaaGreatTFam
namespace Go.Proofs.YtflhaiakhfmmmaaGreat
open Go.RowKit
set_option maxRecDepth 100000
namespace Lc
open Kn (K okK)

theorem infoKn : (Tryz.prog.info? 42).map (fun i => (i.zero, i.size, i.bytes)) = some (some (.agg #[.int .i64 0, .int .i64 0, .int .i64 0, .string ⟨#[]⟩]), 4, 40) := by kernel_rfl

end Lc
end Go.Proofs.YtflhaiakhfmmmaaGreat
