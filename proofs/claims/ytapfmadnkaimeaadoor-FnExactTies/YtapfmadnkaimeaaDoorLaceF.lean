/-
  What the program's own HandsOf and AtRound answer, in the words of LaceM; for lists of at most 2^40 knots whose words have at most 2^40 bytes.
-/
import Derived.Test.YtapfmadnkaimeaaDoorLaceE
namespace Go.Proofs.YtapfmadnkaimeaaDoor
open Go.RowKit
set_option maxRecDepth 100000
namespace Lc
open Kn (K okK)
open Bit (bit withB)

theorem pow60 (n : Nat) (hn : n ≤ 60) : (1 : Int) ≤ 2 ^ n ∧ (2 : Int) ^ n ≤ 1152921504606846976 := by
  have hp : 1 ≤ 2 ^ n := Nat.one_le_two_pow
  have hq : 2 ^ n ≤ 2 ^ 60 := Nat.pow_le_pow_right (by decide) hn
  have hpc : ((2 ^ n : Nat) : Int) = (2 : Int) ^ n := by simp
  omega

theorem wrap60 (n : Nat) (hn : n ≤ 60) : IntKind.i64.wrap (2 ^ n) = 2 ^ n := by
  have := pow60 n hn
  rw [IntKind.wrap_i64]; omega

/-- within the lace -/
def inL (n : Nat) (s : Int) : Bool := decide (0 ≤ s) && decide (s / 2 ^ n = 0)

set_option maxHeartbeats 400000 in
theorem all (a : Option Addr) (cap n : Nat) (w : World) (hn : n ≤ 60) : Calls Tryd.prog 61 #[.slice a n cap] w fun e w' => e = .returned (.int .i64 (2 ^ n - 1)) ∧ w = w' := by
  have h1 := wrap60 n hn
  have h2 := pow60 n hn
  go_enter Tryd.func61, Tryd.ntmps61
  go_wp2
  go_ret
  exact ⟨rfl, rfl⟩

set_option maxHeartbeats 400000 in
theorem holds (a : Option Addr) (cap n : Nat) (s : Int) (w : World) (hn : n ≤ 60) (h0 : -9223372036854775808 ≤ s) (h1 : s ≤ 9223372036854775807) : Calls Tryd.prog 121 #[.slice a n cap, .int .i64 s] w fun e w' => e = .returned (.bool (inL n s)) ∧ w = w' := by
  have HA : Hid ((bits .andNot .i64 s (2 ^ n - 1) == 0) = inL n s) := andNot_zero s n hn h0 h1
  go_enter Tryd.func121, Tryd.ntmps121
  go_wp2_with fail
  refine (all _ _ _ _ hn).mono ?_
  rintro e w1 ⟨rfl, rfl⟩
  go_wp2
  go_ret
  exact ⟨by rw [← HA.out]; rfl, rfl⟩

theorem setB_eq (L : List K) (s : Int) : setB L s = (laceB L && inL L.length s) := rfl

end Lc
end Go.Proofs.YtapfmadnkaimeaaDoor
