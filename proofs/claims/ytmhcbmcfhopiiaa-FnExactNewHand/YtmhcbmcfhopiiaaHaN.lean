/-
  What the program's NewHand answers: as the model's.
-/
import Derived.Test.YtmhcbmcfhopiiaaHandT
import Derived.Test.YtmhcbmcfhopiiaaKnotI
namespace Go.Proofs.Ytmhcbmcfhopiiaa
open Go.RowKit
set_option maxRecDepth 100000
namespace Rm

set_option maxHeartbeats 800000 in
theorem implNewHand (who : Int) (w : World) : Calls Try.prog 5 #[.int .i64 who] w fun e w' => e = .returned (.tuple #[.agg #[.int .i64 (newHandH who).who, .int .i64 (newHandH who).has, .int .i64 (newHandH who).kept, .int .i64 (newHandH who).last], .bool (Kn.in3 who)]) ∧ Below w.heap.size w w' := by
  cases hq : Kn.in3 who
  · have HT : Hid (newHandH who = ⟨0, 0, 0, 0⟩) := by show _ = _; unfold newHandH; rw [hq]; rfl
    have HQ : Hid (Kn.in3 who = false) := hq
    clear hq
    go_enter Try.func5, Try.ntmps5
    go_wp2_with (go_at_call 8; refine (Kn.known _ _).mono ?_; rintro e w' ⟨rfl, rfl⟩; rw [HQ.out])
    refine bodyPost_ret (v := .tuple #[.agg #[.int .i64 0, .int .i64 0, .int .i64 0, .int .i64 0], .bool false]) (by simp [results, Try.f5, go_sem]) rfl ?_
    exact ⟨by rw [HT.out], (Below.refl _ _).alloc (Nat.le_refl _) _⟩
  · have HT : Hid (newHandH who = ⟨who, 0, 0, -1⟩) := by show _ = _; unfold newHandH; rw [hq]; rfl
    have HQ : Hid (Kn.in3 who = true) := hq
    clear hq
    go_enter Try.func5, Try.ntmps5
    go_wp2_with (go_at_call 8; refine (Kn.known _ _).mono ?_; rintro e w' ⟨rfl, rfl⟩; rw [HQ.out])
    refine bodyPost_ret (v := .tuple #[.agg #[.int .i64 who, .int .i64 0, .int .i64 0, .int .i64 (-1)], .bool true]) (by simp [results, Try.f5, go_sem]) rfl ?_
    exact ⟨by rw [HT.out], (Below.refl _ _).alloc (Nat.le_refl _) _⟩


end Rm
end Go.Proofs.Ytmhcbmcfhopiiaa
