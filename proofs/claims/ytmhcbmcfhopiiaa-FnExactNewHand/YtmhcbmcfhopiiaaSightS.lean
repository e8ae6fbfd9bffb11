/-
  What the model's functions of chapter 4 answer, in the words of SightM; for lists of at most 60 knots whose threads are sets.
-/
import Derived.Test.YtmhcbmcfhopiiaaSightM
import Derived.Test.YtmhcbmcfhopiiaaLaceR
import Derived.Test.YtmhcbmcfhopiiaaLaceA
import Derived.Test.YtmhcbmcfhopiiaaLike
namespace Go.Proofs.Ytmhcbmcfhopiiaa
open Go.RowKit
set_option maxRecDepth 100000
namespace Sg
open Kn (K okK)
open Bit (bit)
open Lc (at' RdK)
open Memb (Own)

/-- a list of numbers of the call's own is handed back -/
def NumsPost (l : List Int) (w : World) (e : Ending) (w' : World) : Prop := ∃ ao cap, e = .returned (.slice ao l.length cap) ∧ Own w.heap.size w' ao cap l ∧ Below w.heap.size w w'

theorem one_new (W : World) (x : Int) (t : TypeId) : ∀ (j : Nat) u, ([Value.int .i64 x])[j]? = some u → (W.alloc (.cells #[.int .i64 x] t)).cell? ((⟨W.heap.size, 0, none⟩ : Addr).add j) = some u := by
  intro q u hq
  match q, hq with
  | 0, hq => simp at hq; subst hq; simp [Addr.add]

theorem one_one (x : Int) : ∀ u ∈ [Value.int .i64 x], u.oneCell' = true := by
  intro u hu; simp at hu; subst hu; rfl

end Sg
end Go.Proofs.Ytmhcbmcfhopiiaa
