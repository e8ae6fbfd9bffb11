/-
  What the model's LaceOk, CanTie, HandsOf and AtRound answer, in the words of LaceM; for lists whose words have at most 2^40 bytes.
-/
import Derived.Test.YtmhcbmcfhopiiaaLaceT
namespace Go.Proofs.Ytmhcbmcfhopiiaa
open Go.RowKit
set_option maxRecDepth 100000
namespace Lc
open Kn (K okK)
open Bit (bit withB)

def WordsOk (L : List K) : Prop := ∀ k ∈ L, k.word.size ≤ 1099511627776

/-- what CanTie answers -/
def canTieB (L : List K) (k : K) : Bool := laceB L && takesB L k

/-- is it a set of knots there are, of a lace? -/
def setB (L : List K) (s : Int) : Bool := laceB L && (decide (0 ≤ s) && decide (s / 2 ^ L.length = 0))

theorem setB_parts {L : List K} {s : Int} (h : setB L s = true) : laceB L = true ∧ 0 ≤ s ∧ s < 1152921504606846976 ∧ s / 2 ^ L.length = 0 ∧ L.length ≤ 60 ∧ HandsOk L := by
  unfold setB at h
  simp only [Bool.and_eq_true, decide_eq_true_eq] at h
  obtain ⟨hl, h0, hd⟩ := h
  have h60 := ((lace_iff L).1 hl).1
  refine ⟨hl, h0, ?_, hd, h60, lace_hands hl⟩
  have := Bit.div_zero_up s L.length (60 - L.length) hd
  rw [show L.length + (60 - L.length) = 60 by omega] at this
  omega

/-- what HandsOf answers -/
def handsOfI (L : List K) (s : Int) : Int := if setB L s then handsN L s else -1
/-- what AtRound answers -/
def atRoundI (L : List K) (s r : Int) : Int := if setB L s then roundS L s r else -1

end Lc
end Go.Proofs.Ytmhcbmcfhopiiaa
