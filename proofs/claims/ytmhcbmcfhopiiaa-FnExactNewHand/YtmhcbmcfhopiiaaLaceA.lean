/-
  What the program's own functions on a lace answer, in the words of LaceM: which of a set are wanted, how many hands a set has, whether a lace bears a knot and takes it; for laces of at most 60 knots, their hands 0 to 3.
-/
import Derived.Test.YtmhcbmcfhopiiaaLaceR
import Derived.Test.YtmhcbmcfhopiiaaKnotI
import Derived.Test.YtmhcbmcfhopiiaaMemb
namespace Go.Proofs.Ytmhcbmcfhopiiaa
open Go.RowKit
set_option maxRecDepth 100000
namespace Lc
open Kn (K okK)
open Bit (bit withB)

theorem RdK.on {w : World} {g off : Nat} {L : List K} (h : RdK w (some ⟨g, off, none⟩) L) (i : Nat) (hi : i < L.length) : g < w.heap.size ∧ CellsK w g (off + i * 4) (at' L i) := by
  obtain ⟨g', off', ha, hg, hc⟩ := h.at i hi
  injection ha with ha
  injection ha with h1 h2
  subst h1 h2
  exact ⟨hg, hc⟩

end Lc
end Go.Proofs.Ytmhcbmcfhopiiaa
