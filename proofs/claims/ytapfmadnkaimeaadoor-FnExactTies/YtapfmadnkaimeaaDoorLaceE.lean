/-
  What the program's own LaceOk, CanTie, HandsOf and AtRound answer, in the words of LaceM; for lists of at most 2^40 knots whose words have at most 2^40 bytes.
-/
import Derived.Test.YtapfmadnkaimeaaDoorLaceD
namespace Go.Proofs.YtapfmadnkaimeaaDoor
open Go.RowKit
set_option maxRecDepth 100000
namespace Lc
open Kn (K okK)
open Bit (bit withB)

theorem ofInt_toNat (s : Int) (h0 : -9223372036854775808 ≤ s) (h1 : s ≤ 9223372036854775807) : ((BitVec.ofInt 64 s).toNat : Int) = if 0 ≤ s then s else s + 18446744073709551616 := by
  rw [BitVec.toNat_ofInt]
  split <;> omega

theorem mask_bit (n i : Nat) (hn : n ≤ 60) : (BitVec.ofInt 64 ((2 : Int) ^ n - 1)).getLsbD i = decide (i < n) := by
  have hp : 1 ≤ 2 ^ n := Nat.one_le_two_pow
  have hq : 2 ^ n ≤ 2 ^ 60 := Nat.pow_le_pow_right (by decide) hn
  have e : ((2 : Int) ^ n - 1) = ((2 ^ n - 1 : Nat) : Int) := by rw [Int.ofNat_sub hp]; simp
  have : (BitVec.ofInt 64 ((2 : Int) ^ n - 1)).toNat = 2 ^ n - 1 := by rw [e]; exact ofInt_u64 _ (by omega)
  rw [BitVec.getLsbD, this, Nat.testBit_two_pow_sub_one]

theorem wrap_zero (x : Nat) (hx : x < 18446744073709551616) (h : IntKind.i64.wrap (x : Int) = 0) : x = 0 := by
  simp only [IntKind.wrap, IntKind.bits, IntKind.signed] at h
  simp at h
  omega

theorem andNot_zero (s : Int) (n : Nat) (hn : n ≤ 60) (h0 : -9223372036854775808 ≤ s) (h1 : s ≤ 9223372036854775807) : (bits .andNot .i64 s (2 ^ n - 1) == 0) = (decide (0 ≤ s) && decide (s / 2 ^ n = 0)) := by
  have e : bits .andNot .i64 s (2 ^ n - 1) = IntKind.i64.wrap ((BitVec.ofInt 64 s &&& ~~~ BitVec.ofInt 64 ((2 : Int) ^ n - 1)).toNat : Int) := rfl
  have hq : 2 ^ n ≤ 2 ^ 60 := Nat.pow_le_pow_right (by decide) hn
  have hx := ofInt_toNat s h0 h1
  have hlt : (BitVec.ofInt 64 s &&& ~~~ BitVec.ofInt 64 ((2 : Int) ^ n - 1)).toNat < 18446744073709551616 := BitVec.isLt _
  have hz : (bits .andNot .i64 s (2 ^ n - 1) == 0) = true ↔ (BitVec.ofInt 64 s &&& ~~~ BitVec.ofInt 64 ((2 : Int) ^ n - 1)) = 0#64 := by
    rw [e, beq_iff_eq]
    constructor
    · intro h
      exact BitVec.eq_of_toNat_eq ((wrap_zero _ hlt h).trans rfl)
    · intro h; rw [h]; rfl
  have hk : (BitVec.ofInt 64 s &&& ~~~ BitVec.ofInt 64 ((2 : Int) ^ n - 1)) = 0#64 ↔ (BitVec.ofInt 64 s).toNat < 2 ^ n := by
    constructor
    · intro h
      apply Nat.lt_pow_two_of_testBit
      intro i hi
      by_cases h64 : i < 64
      · have hb := congrArg (fun v => v.getLsbD i) h
        simp only [BitVec.getLsbD_and, BitVec.getLsbD_not, mask_bit n i hn] at hb
        have : decide (i < n) = false := by simp; omega
        rw [this] at hb
        simp [h64] at hb
        exact hb
      · exact BitVec.getLsbD_of_ge _ _ (by omega)
    · intro h
      apply BitVec.eq_of_getLsbD_eq
      intro i hi
      simp only [BitVec.getLsbD_and, BitVec.getLsbD_not, mask_bit n i hn]
      by_cases hin : i < n
      · simp [hin]
      · have : (BitVec.ofInt 64 s).getLsbD i = false := Nat.testBit_lt_two_pow (Nat.lt_of_lt_of_le h (Nat.pow_le_pow_right (by decide) (by omega)))
        rw [this]; simp
  rw [Bool.eq_iff_iff, hz, hk]
  simp only [Bool.and_eq_true, decide_eq_true_eq]
  have hpi : (0 : Int) < 2 ^ n := Bit.pow_pos' n
  have hpc : ((2 ^ n : Nat) : Int) = (2 : Int) ^ n := by simp
  have hq' : ((2 ^ n : Nat) : Int) ≤ 1152921504606846976 := by omega
  constructor
  · intro h
    by_cases hs : 0 ≤ s
    · rw [if_pos hs] at hx
      refine ⟨hs, Int.ediv_eq_zero_of_lt hs (by rw [← hpc]; omega)⟩
    · rw [if_neg hs] at hx; omega
  · rintro ⟨hs, hd⟩
    rw [if_pos hs] at hx
    have h2 := Int.emod_lt_of_pos s hpi
    have h3 := Int.emod_add_mul_ediv s (2 ^ n)
    rw [hd, Int.mul_zero, Int.add_zero] at h3
    rw [h3, ← hpc] at h2
    omega

end Lc
end Go.Proofs.YtapfmadnkaimeaaDoor
