/-
  What the model answers for the sets of the four hands: the numbers of each one's knots; for a list of at most 60 knots, their hands 0 to 3.
-/
import Derived.Test.YtmhcbmcfhopiiaaLaceR
import Derived.BigRegion
namespace Go.Proofs.Ytmhcbmcfhopiiaa
open Go.RowKit
set_option maxRecDepth 100000
namespace Lc
open Kn (K okK)
open Bit (bit withB)

/-- what the four hold -/
def ofX (L : List K) (h k : Nat) : Int := ofH L (h : Int) k
theorem ofX_eq (L : List K) (h k : Nat) (hh : h < 4) : (if h = 0 then ofH L 0 k else if h = 1 then ofH L 1 k else if h = 2 then ofH L 2 k else ofH L 3 k) = ofX L h k := by
  match h, hh with
  | 0, _ => rfl
  | 1, _ => rfl
  | 2, _ => rfl
  | 3, _ => rfl

theorem Four.drew {w : World} {g : Nat} {x0 x1 x2 x3 : Int} (h : Four w g x0 x1 x2 x3) : Four w.drew g x0 x1 x2 x3 := ⟨h.lt, h.c0, h.c1, h.c2, h.c3, h.f⟩

theorem four_step {L : List K} {w : World} {g h k : Nat} (H : Four w g (ofH L 0 k) (ofH L 1 k) (ofH L 2 k) (ofH L 3 k)) (e : (at' L k).hand = (h : Int)) (hh : h < 4) (hk : k < 60) :
    Four (w.setCell ⟨g, h, none⟩ (.int .i64 (withB (ofX L h k) k))) g (ofH L 0 (k + 1)) (ofH L 1 (k + 1)) (ofH L 2 (k + 1)) (ofH L 3 (k + 1)) := by
  have hp := H.put h hh (withB (ofX L h k) k)
  rw [ofH_succ L 0 k hk, ofH_succ L 1 k hk, ofH_succ L 2 k hk, ofH_succ L 3 k hk, e]
  match h, hh, hp with
  | 0, _, hp => simpa [ofX] using hp
  | 1, _, hp => simpa [ofX] using hp
  | 2, _, hp => simpa [ofX] using hp
  | 3, _, hp => simpa [ofX] using hp

theorem made4 : madeCells #[Value.int .i64 0] 4 = #[.int .i64 0, .int .i64 0, .int .i64 0, .int .i64 0] := by
  apply Array.ext
  · simp [size_madeCells]
  · intro i h1 h2
    have h : i < 4 := by simpa using h2
    match i, h with
    | 0, _ => simp [madeCells]
    | 1, _ => simp [madeCells]
    | 2, _ => simp [madeCells]
    | 3, _ => simp [madeCells]

end Lc
end Go.Proofs.Ytmhcbmcfhopiiaa
