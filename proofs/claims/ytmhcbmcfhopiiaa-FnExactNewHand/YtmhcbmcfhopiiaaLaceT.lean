/-
  What the model's functions on a lace answer, in the words of LaceM: whether a knot may stand there, whether it is a lace, whether a knot may be tied, how many hands, which of a round; words of at most 2^40 bytes.
-/
import Derived.Test.YtmhcbmcfhopiiaaLaceS
import Derived.Test.YtmhcbmcfhopiiaaLaceB
import Derived.Test.YtmhcbmcfhopiiaaFam
namespace Go.Proofs.Ytmhcbmcfhopiiaa
open Go.RowKit
set_option maxRecDepth 100000
namespace Lc
open Kn (K okK)
open Bit (bit withB)

theorem lesser_step (L : List K) (f r : Int) (n : Nat) : lesserB L f r (n + 1) = (lesserB L f r n && (!bit f n || decide ((at' L n).round < r))) := by
  unfold lesserB
  rw [List.range_succ]; simp

theorem lesser_no (L : List K) (f r : Int) (n m : Nat) (h : n < m) (hb : bit f n = true) (hq : ¬ (at' L n).round < r) : lesserB L f r m = false := by
  cases hl : lesserB L f r m
  · rfl
  · exact absurd ((lesser_iff L f r m).1 hl n h hb) hq

end Lc
end Go.Proofs.Ytmhcbmcfhopiiaa
