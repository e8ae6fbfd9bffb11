/-
  What the small functions of chapter 1 and of its model answer, function by function, for every argument; no condition.
-/
import Derived.Test.YtghpmhfhenndiaaDoorChecked
import Derived.Test.YtghpmhfhenndiaaDoorMath
import Derived.WalkKit
import Derived.BigQuiet
namespace Go.Proofs.YtghpmhfhenndiaaDoor
open Go.RowKit
set_option maxRecDepth 100000
namespace Base

def okB (s : Int) : Bool := decide (0 ≤ s) && decide (s < 1152921504606846976)
def inB (i : Int) : Bool := decide (0 ≤ i) && decide (i < 60)

theorem okB_iff (s : Int) : okB s = true ↔ 0 ≤ s ∧ s < 1152921504606846976 := by simp [okB]
theorem inB_iff (s : Int) : inB s = true ↔ 0 ≤ s ∧ s < 60 := by simp [inB]

theorem ret_bool {a b : Bool} (h : a = b) : Ending.returned (.bool a) = .returned (.bool b) := by rw [h]
theorem ret_int {k : IntKind} {a b : Int} (h : a = b) : Ending.returned (.int k a) = .returned (.int k b) := by rw [h]

theorem l1In (x lo hi : Int) (w : World) : Calls Tryd.prog 30 #[.int .i64 x, .int .i64 lo, .int .i64 hi] w fun e w' => e = .returned (.bool (decide (lo ≤ x) && decide (x ≤ hi))) ∧ w = w' := by
  by_cases h1 : lo ≤ x
  · go_enter Tryd.func30, Tryd.ntmps30
    go_wp2
    go_ret
    exact ⟨ret_bool (by simp [h1]), rfl⟩
  · go_enter Tryd.func30, Tryd.ntmps30
    go_wp2
    go_ret
    exact ⟨ret_bool (by simp; omega), rfl⟩

theorem sh_bd (s : Int) (k : Nat) (h0 : 0 ≤ s) (h1 : s < 1152921504606846976) : 0 ≤ s / 2 ^ k ∧ s / 2 ^ k < 9223372036854775808 := by
  have hp := Bit.pow_pos' k
  have := Int.ediv_nonneg h0 (Int.le_of_lt hp)
  have := Int.ediv_le_self (2 ^ k) h0
  omega

theorem has_bit (s : Int) (k : Nat) (h0 : 0 ≤ s) (h1 : s < 1152921504606846976) : (bits .and .i64 (s / 2 ^ k) 1 == 1) = Bit.bit s k := by
  have h := sh_bd s k h0 h1
  rw [Bit.i64_and1 _ h.1 h.2]
  rw [Bool.eq_iff_iff]; simp [Bit.bit]

theorem l1In_ok (s : Int) : (decide (0 ≤ s) && decide (s ≤ 1152921504606846975)) = okB s := by
  unfold okB; congr 1; simp only [decide_eq_decide]; omega
theorem l1In_in (s : Int) : (decide (0 ≤ s) && decide (s ≤ 59)) = inB s := by
  unfold inB; congr 1; simp only [decide_eq_decide]; omega

theorem l1In59 (x : Int) (w : World) : Calls Tryd.prog 30 #[.int .i64 x, .int .i64 0, .int .i64 59] w fun e w' => e = .returned (.bool (inB x)) ∧ w = w' := by
  have h := l1In x 0 59 w
  rw [l1In_in] at h; exact h

/-- what With answers -/
def withI (s i : Int) : Int := if okB s && inB i then Bit.withB s i.toNat else s

theorem shl_or (s : Int) (k : Nat) (h0 : 0 ≤ s) (h1 : s < 1152921504606846976) (hk : k < 60) : bits .or .i64 s (2 ^ k) = Bit.withB s k := by
  have hp := Bit.pow_pos' k
  have e : (2 : Int) ^ k = ((2 ^ k : Nat) : Int) := by simp
  have hl : 2 ^ k < 2 ^ 60 := Nat.pow_lt_pow_right (by decide) hk
  rw [Bit.i64_or _ _ h0 (by omega) (by omega) (by rw [e]; omega)]
  unfold Bit.withB
  rw [e, Int.toNat_natCast]

theorem pow_bd (k : Nat) (hk : k < 60) : (0 : Int) < 2 ^ k ∧ (2 : Int) ^ k < 1152921504606846976 := by
  have e : (2 : Int) ^ k = ((2 ^ k : Nat) : Int) := by simp
  have hl : 2 ^ k < 2 ^ 60 := Nat.pow_lt_pow_right (by decide) hk
  have hp := Bit.pow_pos' k
  constructor
  · exact hp
  · rw [e]; omega

theorem wrap_pow (k : Nat) (hk : k < 60) : IntKind.i64.wrap (2 ^ k) = 2 ^ k := by
  have h := pow_bd k hk
  simp only [IntKind.wrap, IntKind.bits, IntKind.signed]
  generalize (2 : Int) ^ k = x at h
  simp
  omega

end Base
end Go.Proofs.YtghpmhfhenndiaaDoor
