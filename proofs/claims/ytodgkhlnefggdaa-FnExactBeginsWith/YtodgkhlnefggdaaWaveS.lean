/-
  What the model's WaveOf, LeaderOf and Leads answer; for coins of at most a million numbers and lists of knots whose words have at most 2^40 bytes.
-/
import Derived.Test.YtodgkhlnefggdaaWaveM
import Derived.Test.YtodgkhlnefggdaaLaceA
import Derived.Test.YtodgkhlnefggdaaDoubS
namespace Go.Proofs.Ytodgkhlnefggdaa
open Go.RowKit
set_option maxRecDepth 100000
namespace Ch
open Kn (K okK)
open Lc (at' RdK laceB WordsOk)
open Sg (isB)
open Rm (coinsB)

theorem rd_below {w w' : World} {ao : Option Addr} {l : List Int} (h : Lst.Rd w ao l) (hao : ∀ c, ao = some ⟨c, 0, none⟩ → c < w.heap.size) (hb : Below w.heap.size w w') : Lst.Rd w' ao l := by
  rcases h with h | ⟨g, rfl, hc⟩
  · exact .inl h
  · exact .inr ⟨g, rfl, fun j hj => (hb.cell (p := ⟨g, j, none⟩) (hao g rfl)).trans (hc j hj)⟩

theorem l1In6 (x : Int) (w : World) : Calls Try.prog 41 #[.int .i64 x, .int .i64 0, .int .i64 6] w fun e w' => e = .returned (.bool (in6 x)) ∧ w = w' := Base.l1In x 0 6 w

end Ch
end Go.Proofs.Ytodgkhlnefggdaa
