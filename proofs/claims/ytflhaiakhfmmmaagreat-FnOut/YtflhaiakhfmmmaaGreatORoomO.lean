/-
 What one act does in a room, whatever act it is: the room stays one; nothing else is changed.
-/
import Derived.Test.YtflhaiakhfmmmaaGreatORoomN
import Derived.Test.YtflhaiakhfmmmaaGreatORoomK
namespace Go.Proofs.YtflhaiakhfmmmaaGreat
open Go.RowKit
set_option maxRecDepth 100000
namespace Rm
theorem l18Do (B p : Nat) (R : Ro) (a : Ac) (w : World) (hr : RoAt B w p R) (hwd : a.word.size ≤ 1099511627776) : Calls Tryz.prog 116 #[.pointer (some ⟨p, 0, none⟩), acV a] w (DoPost B p R w) := by
 by_cases h5 : a.kind = 5
 · exact doBad B p R a w hr h5 hwd
 · cases hg : goodB R a
   · exact doNot B p R a w hr h5 hg
   · by_cases h1 : a.kind = 1
     · exact doTie B p R a w hr h1 hg hwd
     · by_cases h2 : a.kind = 2
       · exact doShow B p R a w hr h2 hg
       · by_cases h3 : a.kind = 3
         · exact doKeep B p R a w hr h3 hg
         · by_cases h4 : a.kind = 4
           · exact doForget B p R a w hr h4 hg
           · exact doElse B p R a w hr h1 h2 h3 h4 h5 hg
end Rm
end Go.Proofs.YtflhaiakhfmmmaaGreat
