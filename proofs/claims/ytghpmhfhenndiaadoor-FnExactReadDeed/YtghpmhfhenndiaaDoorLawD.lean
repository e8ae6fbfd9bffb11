/-
  What the small functions of the exact statements on deeds answer: how great a deed is, a deed handed on, and whether two are alike; for every deed.
-/
import Derived.Test.YtghpmhfhenndiaaDoorKnotM
namespace Go.Proofs.YtghpmhfhenndiaaDoor
open Go.RowKit
set_option maxRecDepth 100000
namespace De

def szI (left : Int) (n : Nat) : Int := if left < (n : Int) then -1 else left - (n : Int)

set_option maxHeartbeats 400000 in
theorem szDeed (h r f : Int) (s : ByteArray) (left : Int) (w : World) (hs : s.size ≤ maxLen) (hl0 : 0 ≤ left) (hl1 : left ≤ 1048576) :
    Calls Tryd.prog 15 #[.agg #[.int .i64 h, .string s, .int .i64 r, .int .i64 f], .int .i64 left] w fun e w' => e = .returned (.int .i64 (szI left s.size)) ∧ Below w.heap.size w w' := by
  unfold maxLen at hs
  have B1 : ∀ o : Obj, Below w.heap.size w (w.alloc o) := fun o => (Below.refl _ _).alloc (Nat.le_refl _) o
  by_cases hlt : left < (s.size : Int)
  · have HS : Hid (szI left s.size = -1) := if_pos hlt
    have hlt' : left - (s.size : Int) < 0 := by omega
    go_enter Tryd.func15, Tryd.ntmps15
    go_wp2
    go_ret
    exact ⟨by rw [HS.out]; rfl, B1 _⟩
  · have HS : Hid (szI left s.size = left - (s.size : Int)) := if_neg hlt
    have hlt' : ¬ left - (s.size : Int) < 0 := by omega
    go_enter Tryd.func15, Tryd.ntmps15
    go_wp2
    go_ret
    exact ⟨by rw [HS.out]; rfl, B1 _⟩

set_option maxHeartbeats 400000 in
theorem toDeed (h r f : Int) (s : ByteArray) (w : World) :
    Calls Tryd.prog 16 #[.agg #[.int .i64 h, .string s, .int .i64 r, .int .i64 f]] w fun e w' => e = .returned (.agg #[.int .i64 h, .string s, .int .i64 r, .int .i64 f]) ∧ Below w.heap.size w w' := by
  go_enter Tryd.func16, Tryd.ntmps16
  go_wp2
  exact bodyPost_ret (v := .agg #[.int .i64 h, .string s, .int .i64 r, .int .i64 f]) (by simp [results, Tryd.results16, go_sem]) rfl ⟨rfl, (((Below.refl _ _).alloc (Nat.le_refl _) _).alloc (by simp) _).alloc (by simp; omega) _⟩

set_option maxHeartbeats 800000 in
theorem eqDeed (h r f : Int) (s : ByteArray) (w : World) :
    Calls Tryd.prog 17 #[.agg #[.int .i64 h, .string s, .int .i64 r, .int .i64 f], .agg #[.int .i64 h, .string s, .int .i64 r, .int .i64 f]] w fun e w' => e = .returned (.bool true) ∧ Below w.heap.size w w' := by
  go_enter Tryd.func17, Tryd.ntmps17
  go_wp2
  go_ret
  exact ⟨rfl, ((Below.refl _ _).alloc (Nat.le_refl _) _).alloc (by simp) _⟩

end De
end Go.Proofs.YtghpmhfhenndiaaDoor
