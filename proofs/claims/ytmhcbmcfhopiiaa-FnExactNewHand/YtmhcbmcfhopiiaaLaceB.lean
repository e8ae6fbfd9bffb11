/-
  What the program's own functions on a lace answer: those of a round, how many hands, whether a lace bears and takes a knot, and the lace that it takes a list for, in memory of its own; words of at most 2^40 bytes.
-/
import Derived.Test.YtmhcbmcfhopiiaaLaceA
import Derived.Test.YtmhcbmcfhopiiaaLike
namespace Go.Proofs.Ytmhcbmcfhopiiaa
open Go.RowKit
set_option maxRecDepth 100000
namespace Lc
open Kn (K okK)
open Bit (bit withB)

theorem round_bd (L : List K) (s r : Int) (hL : L.length ≤ 60) : 0 ≤ roundS L s r ∧ roundS L s r < 1152921504606846976 ∧ roundS L s r / 2 ^ L.length = 0 := by
  have hb := among_bd (fun k => decide (k.round = r)) L s L.length hL
  refine ⟨hb.1, hb.2, div_of_bits _ _ hb.1 fun i hi => ?_⟩
  unfold roundS
  rw [bit_among _ _ _ _ hL]
  simp; omega

theorem take_snocI (l : List Int) (j : Nat) (h : j < l.length) : l.take (j + 1) = l.take j ++ [l.getD j 0] := by
  rw [List.take_succ_eq_append_getElem h]; simp [List.getD, List.getElem?_eq_getElem h]

theorem mem_in (L : List K) (s : Int) (h0 : 0 ≤ s) (hd : s / 2 ^ L.length = 0) : ∀ i ∈ Bit.memTo s 60, 0 ≤ i ∧ i < (L.length : Int) := by
  intro i hi
  obtain ⟨j, _, rfl, hj⟩ := (Bit.mem_memTo s 60 i).1 hi
  refine ⟨by omega, ?_⟩
  apply Classical.byContradiction
  intro hc
  rw [bit_hi s _ h0 hd j (by omega)] at hj
  exact Bool.noConfusion hj

/-- may it be tied behind these? -/
def takesB (L : List K) (k : K) : Bool := decide (L.length < 60) && canB L k

end Lc
end Go.Proofs.Ytmhcbmcfhopiiaa
