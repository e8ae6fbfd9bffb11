/-
  What the model's functions on a lace answer, in the words of LaceM: how many hands a set has, which of it have a round, whether a knot may be tied, whether it is a lace; for lists whose words have at most 2^40 bytes.
-/
import Derived.Test.YtmhcbmcfhopiiaaLaceO
import Derived.Test.YtmhcbmcfhopiiaaLaceA
namespace Go.Proofs.Ytmhcbmcfhopiiaa
open Go.RowKit
set_option maxRecDepth 100000
namespace Lc
open Kn (K okK)
open Bit (bit withB)

theorem RdK.drew {w : World} {ao : Option Addr} {L : List K} (h : RdK w ao L) : RdK w.drew ao L := by
  rcases h with h | ⟨g, off, ha, hg, hc⟩
  · exact .inl h
  · exact .inr ⟨g, off, ha, hg, fun i hi => ⟨(hc i hi).c0, (hc i hi).c1, (hc i hi).c2, (hc i hi).c3⟩⟩

theorem RdK.drewN {w : World} {ao : Option Addr} {L : List K} (h : RdK w ao L) (n : Nat) : RdK (w.drewN n) ao L := by
  rcases h with h | ⟨g, off, ha, hg, hc⟩
  · exact .inl h
  · exact .inr ⟨g, off, ha, hg, fun i hi => ⟨(hc i hi).c0, (hc i hi).c1, (hc i hi).c2, (hc i hi).c3⟩⟩

theorem cellsK_new (w : World) (k : K) (t : TypeId) : CellsK (w.alloc (.cells #[.int .i64 k.hand, .int .i64 k.round, .int .i64 k.frm, .string k.word] t)) w.heap.size 0 k := ⟨by simp, by simp, by simp, by simp⟩

theorem below_drewN' {b : Nat} {a w : World} (h : Below b a w) (n : Nat) : Below b a (w.drewN n) := ⟨h.os, h.tape, h.output, h.size, h.block⟩

/-- how many of the first hands the set has -/
def cntH (L : List K) (s : Int) : Nat → Int
  | 0 => 0
  | k + 1 => cntH L s k + if hasHand L s (k : Int) then 1 else 0
theorem cntH4 (L : List K) (s : Int) : cntH L s 4 = handsN L s := by
  simp [cntH, handsN]
theorem cntH_bd (L : List K) (s : Int) (k : Nat) : 0 ≤ cntH L s k ∧ cntH L s k ≤ (k : Int) := by
  induction k with
  | zero => simp [cntH]
  | succ k ih => unfold cntH; split <;> omega

end Lc
end Go.Proofs.Ytmhcbmcfhopiiaa
