/-
  What the small functions of chapter 1 and of its model answer, function by function, for every argument; no condition.
-/
import Derived.Test.YtapfmadnkaimeaaDoorChecked
import Derived.Test.YtapfmadnkaimeaaDoorMath
import Derived.WalkKit
import Derived.BigQuiet
namespace Go.Proofs.YtapfmadnkaimeaaDoor
open Go.RowKit
set_option maxRecDepth 100000
namespace Base

def okB (s : Int) : Bool := decide (0 ≤ s) && decide (s < 1152921504606846976)
def inB (i : Int) : Bool := decide (0 ≤ i) && decide (i < 60)

theorem okB_iff (s : Int) : okB s = true ↔ 0 ≤ s ∧ s < 1152921504606846976 := by simp [okB]
theorem inB_iff (s : Int) : inB s = true ↔ 0 ≤ s ∧ s < 60 := by simp [inB]

theorem ret_bool {a b : Bool} (h : a = b) : Ending.returned (.bool a) = .returned (.bool b) := by rw [h]
theorem ret_int {k : IntKind} {a b : Int} (h : a = b) : Ending.returned (.int k a) = .returned (.int k b) := by rw [h]

theorem l1In (x lo hi : Int) (w : World) : Calls Tryd.prog 85 #[.int .i64 x, .int .i64 lo, .int .i64 hi] w fun e w' => e = .returned (.bool (decide (lo ≤ x) && decide (x ≤ hi))) ∧ w = w' := by
  by_cases h1 : lo ≤ x
  · go_enter Tryd.func85, Tryd.ntmps85
    go_wp2
    go_ret
    exact ⟨ret_bool (by simp [h1]), rfl⟩
  · go_enter Tryd.func85, Tryd.ntmps85
    go_wp2
    go_ret
    exact ⟨ret_bool (by simp; omega), rfl⟩

theorem right (s : Int) (w : World) : Calls Tryd.prog 92 #[.int .i64 s] w fun e w' => e = .returned (.bool (okB s)) ∧ w = w' := by
  by_cases h1 : 0 ≤ s
  · go_enter Tryd.func92, Tryd.ntmps92
    go_wp2
    go_ret
    exact ⟨ret_bool (by simp [okB, h1]), rfl⟩
  · go_enter Tryd.func92, Tryd.ntmps92
    go_wp2
    go_ret
    exact ⟨ret_bool (by simp [okB]; omega), rfl⟩

theorem fits (s : Int) (w : World) : Calls Tryd.prog 93 #[.int .i64 s] w fun e w' => e = .returned (.bool (inB s)) ∧ w = w' := by
  by_cases h1 : 0 ≤ s
  · go_enter Tryd.func93, Tryd.ntmps93
    go_wp2
    go_ret
    exact ⟨ret_bool (by simp [inB, h1]), rfl⟩
  · go_enter Tryd.func93, Tryd.ntmps93
    go_wp2
    go_ret
    exact ⟨ret_bool (by simp [inB]; omega), rfl⟩

theorem specOk (s : Int) (w : World) : Calls Tryd.prog 103 #[.int .i64 s] w fun e w' => e = .returned (.bool (okB s)) ∧ w = w' := by
  go_enter Tryd.func103, Tryd.ntmps103
  go_wp2_with (go_at_call 85; refine (l1In _ _ _ _).mono ?_; rintro e w' ⟨rfl, rfl⟩)
  go_ret
  exact ⟨ret_bool (by unfold okB; congr 1; simp only [decide_eq_decide]; omega), rfl⟩

theorem sh_bd (s : Int) (k : Nat) (h0 : 0 ≤ s) (h1 : s < 1152921504606846976) : 0 ≤ s / 2 ^ k ∧ s / 2 ^ k < 9223372036854775808 := by
  have hp := Bit.pow_pos' k
  have := Int.ediv_nonneg h0 (Int.le_of_lt hp)
  have := Int.ediv_le_self (2 ^ k) h0
  omega

theorem has_bit (s : Int) (k : Nat) (h0 : 0 ≤ s) (h1 : s < 1152921504606846976) : (bits .and .i64 (s / 2 ^ k) 1 == 1) = Bit.bit s k := by
  have h := sh_bd s k h0 h1
  rw [Bit.i64_and1 _ h.1 h.2]
  rw [Bool.eq_iff_iff]; simp [Bit.bit]

set_option maxHeartbeats 400000 in
theorem l1Has (s : Int) (i : Int) (w : World) (h0 : 0 ≤ s) (h1 : s < 1152921504606846976) (h2 : 0 ≤ i) (h3 : i ≤ 64) : Calls Tryd.prog 55 #[.int .i64 s, .int .i64 i] w fun e w' => e = .returned (.bool (Bit.bit s i.toNat)) ∧ w = w' := by
  have HB : Hid ((bits .and .i64 (s / 2 ^ i.toNat) 1 == 1) = Bit.bit s i.toNat) := has_bit s i.toNat h0 h1
  go_enter Tryd.func55, Tryd.ntmps55
  go_wp2
  go_ret
  exact ⟨ret_bool HB.out, rfl⟩

set_option maxHeartbeats 400000 in
theorem has (s : Int) (i : Int) (w : World) : Calls Tryd.prog 62 #[.int .i64 s, .int .i64 i] w fun e w' => e = .returned (.bool (okB s && (inB i && Bit.bit s i.toNat))) ∧ w = w' := by
  cases ho : okB s
  · go_enter Tryd.func62, Tryd.ntmps62
    go_wp2_with (first | (go_at_call 92; refine (right _ _).mono ?_; rintro e w' ⟨rfl, rfl⟩) | (go_at_call 93; refine (fits _ _).mono ?_; rintro e w' ⟨rfl, rfl⟩))
    go_ret
    exact ⟨rfl, rfl⟩
  · cases hi : inB i
    · go_enter Tryd.func62, Tryd.ntmps62
      go_wp2_with (first | (go_at_call 92; refine (right _ _).mono ?_; rintro e w' ⟨rfl, rfl⟩) | (go_at_call 93; refine (fits _ _).mono ?_; rintro e w' ⟨rfl, rfl⟩))
      go_ret
      exact ⟨rfl, rfl⟩
    · have hs := (okB_iff s).1 ho
      have hi' := (inB_iff i).1 hi
      obtain ⟨h0, h1⟩ := hs
      obtain ⟨h2, h3⟩ := hi'
      have HB : Hid ((bits .and .i64 (s / 2 ^ i.toNat) 1 == 1) = Bit.bit s i.toNat) := has_bit s i.toNat h0 h1
      go_enter Tryd.func62, Tryd.ntmps62
      go_wp2_with (first | (go_at_call 92; refine (right _ _).mono ?_; rintro e w' ⟨rfl, rfl⟩) | (go_at_call 93; refine (fits _ _).mono ?_; rintro e w' ⟨rfl, rfl⟩))
      go_ret
      exact ⟨ret_bool (by simpa using HB.out), rfl⟩

theorem l1In_ok (s : Int) : (decide (0 ≤ s) && decide (s ≤ 1152921504606846975)) = okB s := by
  unfold okB; congr 1; simp only [decide_eq_decide]; omega
theorem l1In_in (s : Int) : (decide (0 ≤ s) && decide (s ≤ 59)) = inB s := by
  unfold inB; congr 1; simp only [decide_eq_decide]; omega

theorem l1In59 (x : Int) (w : World) : Calls Tryd.prog 85 #[.int .i64 x, .int .i64 0, .int .i64 59] w fun e w' => e = .returned (.bool (inB x)) ∧ w = w' := by
  have h := l1In x 0 59 w
  rw [l1In_in] at h; exact h

/-- what With answers -/
def withI (s i : Int) : Int := if okB s && inB i then Bit.withB s i.toNat else s

theorem shl_or (s : Int) (k : Nat) (h0 : 0 ≤ s) (h1 : s < 1152921504606846976) (hk : k < 60) : bits .or .i64 s (2 ^ k) = Bit.withB s k := by
  have hp := Bit.pow_pos' k
  have e : (2 : Int) ^ k = ((2 ^ k : Nat) : Int) := by simp
  have hl : 2 ^ k < 2 ^ 60 := Nat.pow_lt_pow_right (by decide) hk
  rw [Bit.i64_or _ _ h0 (by omega) (by omega) (by rw [e]; omega)]
  unfold Bit.withB
  rw [e, Int.toNat_natCast]

theorem pow_bd (k : Nat) (hk : k < 60) : (0 : Int) < 2 ^ k ∧ (2 : Int) ^ k < 1152921504606846976 := by
  have e : (2 : Int) ^ k = ((2 ^ k : Nat) : Int) := by simp
  have hl : 2 ^ k < 2 ^ 60 := Nat.pow_lt_pow_right (by decide) hk
  have hp := Bit.pow_pos' k
  constructor
  · exact hp
  · rw [e]; omega

theorem wrap_pow (k : Nat) (hk : k < 60) : IntKind.i64.wrap (2 ^ k) = 2 ^ k := by
  have h := pow_bd k hk
  simp only [IntKind.wrap, IntKind.bits, IntKind.signed]
  generalize (2 : Int) ^ k = x at h
  simp
  omega

set_option maxHeartbeats 400000 in
theorem l1Bit (i : Int) (w : World) (h2 : 0 ≤ i) (h3 : i < 60) : Calls Tryd.prog 56 #[.int .i64 i] w fun e w' => e = .returned (.int .i64 (2 ^ i.toNat)) ∧ w = w' := by
  have hb := pow_bd i.toNat (by omega)
  have hw := wrap_pow i.toNat (by omega)
  go_enter Tryd.func56, Tryd.ntmps56
  go_wp2
  go_ret
  exact ⟨ret_int (by simp), rfl⟩

set_option maxHeartbeats 400000 in
theorem withM (s : Int) (i : Int) (w : World) : Calls Tryd.prog 63 #[.int .i64 s, .int .i64 i] w fun e w' => e = .returned (.int .i64 (withI s i)) ∧ w = w' := by
  cases ho : okB s
  · go_enter Tryd.func63, Tryd.ntmps63
    go_wp2_with (first | (go_at_call 92; refine (right _ _).mono ?_; rintro e w' ⟨rfl, rfl⟩) | (go_at_call 93; refine (fits _ _).mono ?_; rintro e w' ⟨rfl, rfl⟩))
    go_ret
    exact ⟨ret_int (by simp [withI, ho]), rfl⟩
  · cases hi : inB i
    · go_enter Tryd.func63, Tryd.ntmps63
      go_wp2_with (first | (go_at_call 92; refine (right _ _).mono ?_; rintro e w' ⟨rfl, rfl⟩) | (go_at_call 93; refine (fits _ _).mono ?_; rintro e w' ⟨rfl, rfl⟩))
      go_ret
      exact ⟨ret_int (by simp [withI, hi]), rfl⟩
    · have hs := (okB_iff s).1 ho
      have hi' := (inB_iff i).1 hi
      obtain ⟨h0, h1⟩ := hs
      obtain ⟨h2, h3⟩ := hi'
      have hw := wrap_pow i.toNat (by omega)
      have HB : Hid (bits .or .i64 s (2 ^ i.toNat) = withI s i) := (shl_or s i.toNat h0 h1 (by omega)).trans (by simp [withI, ho, hi])
      go_enter Tryd.func63, Tryd.ntmps63
      go_wp2_with (first | (go_at_call 92; refine (right _ _).mono ?_; rintro e w' ⟨rfl, rfl⟩) | (go_at_call 93; refine (fits _ _).mono ?_; rintro e w' ⟨rfl, rfl⟩))
      go_ret
      exact ⟨ret_int (by simpa using HB.out), rfl⟩

end Base
end Go.Proofs.YtapfmadnkaimeaaDoor
