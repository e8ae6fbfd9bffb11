/-
  What the program's own Doubled and DoublesOf answer, in the words of DoubM; for lists of knots whose words have at most 2^40 bytes.
-/
import Derived.Test.YtpjmnopehjfjbaaDoubM
import Derived.Test.YtpjmnopehjfjbaaSightX
import Derived.Test.YtpjmnopehjfjbaaFam
namespace Go.Proofs.Ytpjmnopehjfjbaa
open Go.RowKit
set_option maxRecDepth 100000
namespace Db
open Kn (K okK)
open Bit (bit withB)
open Lc (at' RdK WordsOk laceB setB)
open Sg (isB bel belows seesB)

theorem twoNew (W : World) (t : TypeId) : ((W.alloc (.cells #[.bool false, .bool false] t)).cell? ⟨W.heap.size, 0, none⟩ = some (.bool false) ∧ (W.alloc (.cells #[.bool false, .bool false] t)).cell? ⟨W.heap.size, 1, none⟩ = some (.bool false)) ∧
    (W.alloc (.cells #[.bool false, .bool false] t)).frozen? ⟨W.heap.size, 0, none⟩ = false ∧ (W.alloc (.cells #[.bool false, .bool false] t)).frozen? ⟨W.heap.size, 1, none⟩ = false := ⟨⟨by simp, by simp⟩, by simp, by simp⟩

/-- what the program's doubled asks -/
theorem dbl_sees {L : List K} {a b : Int} (ha : isB L a = true) (hb : isB L b = true) : doubledB L a b = (decide ((at' L a.toNat).hand = (at' L b.toNat).hand) && (!seesB L a b && !seesB L b a)) := by
  unfold doubledB dblN seesB
  rw [ha, hb]; simp

theorem isB_lace {L : List K} (hl : laceB L = true) (k : Int) : isB L k = (decide (0 ≤ k) && decide (k < (L.length : Int))) := by unfold isB; rw [hl]; simp

/-- those found so far -/
theorem dbl_step {L : List K} {a : Int} (ha : isB L a = true) (n : Nat) (hn : n < L.length) (hl : laceB L = true) : dblS L a.toNat (n + 1) = if doubledB L a (n : Int) then withB (dblS L a.toNat n) n else dblS L a.toNat n := by
  have hb : isB L (n : Int) = true := by rw [isB_lace hl]; simp; omega
  unfold doubledB
  rw [ha, hb, Bool.true_and, Bool.true_and, Int.toNat_natCast]; rfl

end Db
end Go.Proofs.Ytpjmnopehjfjbaa
