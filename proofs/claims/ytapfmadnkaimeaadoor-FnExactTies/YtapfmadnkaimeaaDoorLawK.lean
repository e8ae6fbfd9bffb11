/-
  What the small functions of the exact statements on knots answer: how great a knot is, a knot handed on, and whether two are alike; for every knot.
-/
import Derived.Test.YtapfmadnkaimeaaDoorKnotM
namespace Go.Proofs.YtapfmadnkaimeaaDoor
open Go.RowKit
set_option maxRecDepth 100000
namespace Kn

def szI (left : Int) (n : Nat) : Int := if left < (n : Int) then -1 else left - (n : Int)

set_option maxHeartbeats 400000 in
theorem szKnot (h r f : Int) (s : ByteArray) (left : Int) (w : World) (hs : s.size ≤ maxLen) (hl0 : 0 ≤ left) (hl1 : left ≤ 1048576) :
    Calls Tryd.prog 26 #[.agg #[.int .i64 h, .int .i64 r, .int .i64 f, .string s], .int .i64 left] w fun e w' => e = .returned (.int .i64 (szI left s.size)) ∧ Below w.heap.size w w' := by
  unfold maxLen at hs
  have B1 : ∀ o : Obj, Below w.heap.size w (w.alloc o) := fun o => (Below.refl _ _).alloc (Nat.le_refl _) o
  by_cases hlt : left < (s.size : Int)
  · have HS : Hid (szI left s.size = -1) := if_pos hlt
    have hlt' : left - (s.size : Int) < 0 := by omega
    go_enter Tryd.func26, Tryd.ntmps26
    go_wp2
    go_ret
    exact ⟨by rw [HS.out]; rfl, B1 _⟩
  · have HS : Hid (szI left s.size = left - (s.size : Int)) := if_neg hlt
    have hlt' : ¬ left - (s.size : Int) < 0 := by omega
    go_enter Tryd.func26, Tryd.ntmps26
    go_wp2
    go_ret
    exact ⟨by rw [HS.out]; rfl, B1 _⟩

set_option maxHeartbeats 400000 in
theorem toKnot (h r f : Int) (s : ByteArray) (w : World) :
    Calls Tryd.prog 30 #[.agg #[.int .i64 h, .int .i64 r, .int .i64 f, .string s]] w fun e w' => e = .returned (.agg #[.int .i64 h, .int .i64 r, .int .i64 f, .string s]) ∧ Below w.heap.size w w' := by
  go_enter Tryd.func30, Tryd.ntmps30
  go_wp2
  exact bodyPost_ret (v := .agg #[.int .i64 h, .int .i64 r, .int .i64 f, .string s]) (by simp [results, Tryd.results30, go_sem]) rfl ⟨rfl, (((Below.refl _ _).alloc (Nat.le_refl _) _).alloc (by simp) _).alloc (by simp; omega) _⟩

set_option maxHeartbeats 800000 in
theorem eqSame (h r f : Int) (s : ByteArray) (w : World) :
    Calls Tryd.prog 21 #[.agg #[.int .i64 h, .int .i64 r, .int .i64 f, .string s], .agg #[.int .i64 h, .int .i64 r, .int .i64 f, .string s]] w fun e w' => e = .returned (.bool true) ∧ Below w.heap.size w w' := by
  go_enter Tryd.func21, Tryd.ntmps21
  go_wp2
  go_ret
  exact ⟨rfl, ((Below.refl _ _).alloc (Nat.le_refl _) _).alloc (by simp) _⟩

end Kn
end Go.Proofs.YtapfmadnkaimeaaDoor
