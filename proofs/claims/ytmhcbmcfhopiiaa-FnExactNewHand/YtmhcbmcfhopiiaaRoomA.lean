/-
  What the model's small functions on hands answer: the last knot of a hand in a set, and the round that is next; for laces of at most 60 knots, their hands 0 to 3.
-/
import Derived.Test.YtmhcbmcfhopiiaaLaceS
import Derived.Test.YtmhcbmcfhopiiaaLaceB
import Derived.Test.YtmhcbmcfhopiiaaSightS
namespace Go.Proofs.Ytmhcbmcfhopiiaa
open Go.RowKit
set_option maxRecDepth 100000
namespace Rm
open Kn (K okK)
open Bit (bit)
open Lc (at' RdK roundS handsN HandsOk amongI)

/-- the last knot of a hand in a set, of the first n -/
def lastTo (L : List K) (who s : Int) : Nat → Int
  | 0 => -1
  | n + 1 => if bit s n && (decide ((at' L n).hand = who) && (decide (lastTo L who s n < 0) || decide ((at' L (lastTo L who s n).toNat).round < (at' L n).round))) then (n : Int) else lastTo L who s n

theorem lastTo_bd (L : List K) (who s : Int) (n : Nat) : -1 ≤ lastTo L who s n ∧ lastTo L who s n < (n : Int) := by
  induction n with
  | zero => simp [lastTo]
  | succ n ih => unfold lastTo; split <;> omega

/-- the greatest round of the first k that may be tied -/
def nextTo (L : List K) (has : Int) : Nat → Int
  | 0 => 0
  | k + 1 => if 3 ≤ handsN L (roundS L has (k : Int)) then ((k + 1 : Nat) : Int) else nextTo L has k
theorem nextTo_bd (L : List K) (has : Int) (k : Nat) : 0 ≤ nextTo L has k ∧ nextTo L has k ≤ (k : Int) := by
  induction k with
  | zero => simp [nextTo]
  | succ k ih => unfold nextTo; split <;> omega

/-- the round that is next; -1: none -/
def nextI (L : List K) (has last : Int) : Int := if 0 ≤ last ∧ nextTo L has 19 ≤ (at' L last.toNat).round then -1 else nextTo L has 19

end Rm
end Go.Proofs.Ytmhcbmcfhopiiaa
