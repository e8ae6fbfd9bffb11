/-
  Plain mathematics of bits, with no program in it: the members of a set below a number, what With makes, and that the eight bytes' way of counting ones counts them; no condition beyond those written.
-/
import Derived.Laws.BitsAllLaws
import Derived.Laws.Bits128
import Derived.WalkKit
namespace Go.Proofs.YtghpmhfhenndiaaDoor.Bit

/-- bit k of s -/
def bit (s : Int) (k : Nat) : Bool := decide (s / 2 ^ k % 2 = 1)
/-- the members below k, as numbers -/
def memTo (s : Int) : Nat → List Int
  | 0 => []
  | k + 1 => memTo s k ++ if bit s k then [(k : Int)] else []

theorem memTo_succ (s : Int) (k : Nat) : memTo s (k + 1) = memTo s k ++ if bit s k then [(k : Int)] else [] := rfl
theorem memTo_le (s : Int) (k : Nat) : (memTo s k).length ≤ k := by
  induction k with
  | zero => simp [memTo]
  | succ k ih => rw [memTo_succ]; by_cases h : bit s k <;> simp [h] <;> omega

theorem pow_pos' (k : Nat) : (0 : Int) < 2 ^ k := Int.pow_pos (by decide)

theorem div_zero_up (s : Int) (k j : Nat) (h : s / 2 ^ k = 0) : s / 2 ^ (k + j) = 0 := by
  rw [Int.pow_add, ← Int.ediv_ediv_of_nonneg (Int.le_of_lt (pow_pos' k)), h]; simp

theorem bit_up (s : Int) (k j : Nat) (h : s / 2 ^ k = 0) : bit s (k + j) = false := by
  simp [bit, div_zero_up s k j h]

theorem memTo_up (s : Int) (k j : Nat) (h : s / 2 ^ k = 0) : memTo s (k + j) = memTo s k := by
  induction j with
  | zero => rfl
  | succ j ih => rw [← Nat.add_assoc, memTo_succ, bit_up s k j h, ih]; simp

theorem div_big (s : Int) (h0 : 0 ≤ s) (h1 : s < 1152921504606846976) (k : Nat) (hk : 60 ≤ k) : s / 2 ^ k = 0 := by
  have h : s / 2 ^ 60 = 0 := by
    have e : (2 : Int) ^ 60 = 1152921504606846976 := by decide
    rw [e]; omega
  have := div_zero_up s 60 (k - 60) h
  rwa [show 60 + (k - 60) = k from by omega] at this

theorem memTo_all (s : Int) (h0 : 0 ≤ s) (h1 : s < 1152921504606846976) (k : Nat) (h : s / 2 ^ k = 0) : memTo s k = memTo s 60 := by
  by_cases hk : k ≤ 60
  · have := memTo_up s k (60 - k) h
    rw [show k + (60 - k) = 60 from by omega] at this; exact this.symm
  · have h60 := div_big s h0 h1 60 (Nat.le_refl _)
    have := memTo_up s 60 (k - 60) h60
    rwa [show 60 + (k - 60) = k from by omega] at this

theorem mem_memTo (s : Int) (k : Nat) (x : Int) : x ∈ memTo s k ↔ ∃ j : Nat, j < k ∧ x = (j : Int) ∧ bit s j = true := by
  induction k with
  | zero => simp [memTo]
  | succ k ih =>
    rw [memTo_succ, List.mem_append, ih]
    constructor
    · rintro (⟨j, hj, rfl, hb⟩ | h)
      · exact ⟨j, by omega, rfl, hb⟩
      · by_cases hb : bit s k
        · simp [hb] at h; exact ⟨k, by omega, h, hb⟩
        · simp [hb] at h
    · rintro ⟨j, hj, rfl, hb⟩
      by_cases e : j = k
      · subst e; right; simp [hb]
      · left; exact ⟨j, by omega, rfl, hb⟩

/-! ### the bits of the walk -/
theorem i64_and1 (x : Int) (h0 : 0 ≤ x) (h1 : x < 9223372036854775808) : bits .and .i64 x 1 = x % 2 := by
  obtain ⟨A, rfl⟩ := Int.eq_ofNat_of_zero_le h0
  show IntKind.i64.wrap ((BitVec.ofInt 64 (A : Int) &&& BitVec.ofInt 64 (1 : Int)).toNat : Int) = _
  have e1 : (BitVec.ofInt 64 (1 : Int)).toNat = 1 := by decide
  have hA : A < 18446744073709551616 := by omega
  rw [BitVec.toNat_and, ofInt_u64 A hA, e1, Nat.and_one_is_mod]
  simp [IntKind.wrap, IntKind.bits, IntKind.signed]
  omega

theorem i64_or (a b : Int) (h1 : 0 ≤ a) (h2 : a < 9223372036854775808) (h3 : 0 ≤ b) (h4 : b < 9223372036854775808) : bits .or .i64 a b = ((a.toNat ||| b.toNat : Nat) : Int) := by
  obtain ⟨A, rfl⟩ := Int.eq_ofNat_of_zero_le h1
  obtain ⟨B, rfl⟩ := Int.eq_ofNat_of_zero_le h3
  have hx : A ||| B < 2 ^ 63 := Nat.or_lt_two_pow (by omega) (by omega)
  show IntKind.i64.wrap ((BitVec.ofInt 64 (A : Int) ||| BitVec.ofInt 64 (B : Int)).toNat : Int) = _
  have hA : A < 18446744073709551616 := by omega
  have hB : B < 18446744073709551616 := by omega
  rw [BitVec.toNat_or, ofInt_u64 A hA, ofInt_u64 B hB]
  simp [IntKind.wrap, IntKind.bits, IntKind.signed]
  omega

/-- what With makes -/
def withB (s : Int) (i : Nat) : Int := ((s.toNat ||| 2 ^ i : Nat) : Int)

theorem withB_bd (s : Int) (h0 : 0 ≤ s) (h1 : s < 1152921504606846976) (i : Nat) (hi : i < 60) : 0 ≤ withB s i ∧ withB s i < 1152921504606846976 := by
  unfold withB
  have hp : 2 ^ i < 2 ^ 60 := Nat.pow_lt_pow_right (by decide) hi
  have hx : s.toNat ||| 2 ^ i < 2 ^ 60 := Nat.or_lt_two_pow (by omega) hp
  omega

theorem bit_testBit (s : Int) (h0 : 0 ≤ s) (k : Nat) : bit s k = s.toNat.testBit k := by
  obtain ⟨A, rfl⟩ := Int.eq_ofNat_of_zero_le h0
  unfold bit
  rw [Int.toNat_natCast, Nat.testBit_eq_decide_div_mod_eq]
  have : ((A : Int) / 2 ^ k % 2 = 1) ↔ (A / 2 ^ k % 2 = 1) := by
    rw [show ((2 : Int) ^ k) = ((2 ^ k : Nat) : Int) from by simp]
    omega
  simp only [this]

theorem bit_withB (s : Int) (h0 : 0 ≤ s) (i k : Nat) : bit (withB s i) k = (decide (k = i) || bit s k) := by
  rw [bit_testBit _ (by unfold withB; omega), bit_testBit s h0]
  unfold withB
  rw [Int.toNat_natCast, Nat.testBit_or, Nat.testBit_two_pow, Bool.or_comm]
  congr 1
  simp [eq_comm]

/-! ### OnesCount64 -/
def pop : Nat → Nat → Nat
  | _, 0 => 0
  | x, n + 1 => x % 2 + pop (x / 2) n

theorem pop_byte (r q n : Nat) (hr : r < 256) : pop (r + 256 * q) (n + 8) = pop r 8 + pop q n := by
  simp only [pop]
  rw [show (r + 256 * q) / 2 / 2 / 2 / 2 / 2 / 2 / 2 / 2 = q from by omega]
  omega

theorem and_split (k a b c d : Nat) (ha : a < 2 ^ k) (hc : c < 2 ^ k) : (a + 2 ^ k * b) &&& (c + 2 ^ k * d) = (a &&& c) + 2 ^ k * (b &&& d) := by
  apply Nat.eq_of_testBit_eq
  intro j
  have hac : a &&& c < 2 ^ k := Nat.and_lt_two_pow _ hc
  rw [Nat.testBit_and, Nat.add_comm a, Nat.add_comm c, Nat.add_comm (a &&& c), Nat.testBit_two_pow_mul_add _ ha, Nat.testBit_two_pow_mul_add _ hc, Nat.testBit_two_pow_mul_add _ hac]
  split <;> simp [Nat.testBit_and]

theorem and_byte (a b c d : Nat) (ha : a < 256) (hc : c < 256) : (a + 256 * b) &&& (c + 256 * d) = (a &&& c) + 256 * (b &&& d) := and_split 8 a b c d ha hc

/-- a byte's three steps -/
theorem byte1 : ∀ r : Nat, r < 256 → (r / 2 &&& 85) + (r &&& 85) < 171 := by decide +kernel
theorem byte_all : ∀ r : Nat, r < 256 → ((((r / 2 &&& 85) + (r &&& 85)) / 4 &&& 51) + (((r / 2 &&& 85) + (r &&& 85)) &&& 51)) / 16 ≤ 4 ∧ ((((r / 2 &&& 85) + (r &&& 85)) / 4 &&& 51) + (((r / 2 &&& 85) + (r &&& 85)) &&& 51)) % 16 ≤ 4 ∧
   ((((r / 2 &&& 85) + (r &&& 85)) / 4 &&& 51) + (((r / 2 &&& 85) + (r &&& 85)) &&& 51)) / 16 + ((((r / 2 &&& 85) + (r &&& 85)) / 4 &&& 51) + (((r / 2 &&& 85) + (r &&& 85)) &&& 51)) % 16 = pop r 8 := by decide +kernel
theorem up1 : ∀ r : Nat, r < 128 → ∀ c, c < 2 → (r + 128 * c) &&& 85 = r &&& 85 := by decide +kernel
theorem up2 : ∀ r : Nat, r < 64 → ∀ c, c < 4 → (r + 64 * c) &&& 51 = r &&& 51 := by decide +kernel

/-- x >> 1 & (r's mask, the rest's mask) -/
theorem sh1 (r q m : Nat) (hr : r < 256) : (r + 256 * q) / 2 &&& (85 + 256 * m) = (r / 2 &&& 85) + 256 * (q / 2 &&& m) := by
  have e : (r + 256 * q) / 2 = (r / 2 + 128 * (q % 2)) + 256 * (q / 2) := by omega
  rw [e, and_byte _ _ _ _ (by omega) (by omega), up1 _ (by omega) _ (by omega)]
theorem sh2 (r q m : Nat) (hr : r < 256) : (r + 256 * q) / 4 &&& (51 + 256 * m) = (r / 4 &&& 51) + 256 * (q / 4 &&& m) := by
  have e : (r + 256 * q) / 4 = (r / 4 + 64 * (q % 4)) + 256 * (q / 4) := by omega
  rw [e, and_byte _ _ _ _ (by omega) (by omega), up2 _ (by omega) _ (by omega)]

/-- the masks of n bytes -/
def mk (m : Nat) : Nat → Nat
  | 0 => 0
  | n + 1 => m + 256 * mk m n

def s1 (n x : Nat) : Nat := (x / 2 &&& mk 85 n) + (x &&& mk 85 n)
def s2 (n x : Nat) : Nat := (x / 4 &&& mk 51 n) + (x &&& mk 51 n)
def s3 (n x : Nat) : Nat := (x / 16 + x) &&& mk 15 n

/-- the bytes of the third step -/
def byts : Nat → Nat → List Nat
  | 0, _ => []
  | n + 1, x => pop (x % 256) 8 :: byts n (x / 256)
def ofB : List Nat → Nat
  | [] => 0
  | b :: l => b + 256 * ofB l

theorem s1_byte (n r q : Nat) (hr : r < 256) : s1 (n + 1) (r + 256 * q) = ((r / 2 &&& 85) + (r &&& 85)) + 256 * s1 n q := by
  unfold s1; rw [mk, sh1 r q _ hr, and_byte r q 85 _ hr (by omega)]; omega
theorem s2_byte (n r q : Nat) (hr : r < 256) : s2 (n + 1) (r + 256 * q) = ((r / 4 &&& 51) + (r &&& 51)) + 256 * s2 n q := by
  unfold s2; rw [mk, sh2 r q _ hr, and_byte r q 51 _ hr (by omega)]; omega

theorem mask15 : ∀ h : Nat, h < 9 → ∀ l, l < 9 → (l + 16 * h) &&& 15 = l := by decide +kernel

theorem s3_byte (n r q : Nat) (h1 : r / 16 ≤ 4) (h2 : r % 16 ≤ 4) (h3 : q % 16 ≤ 4) : s3 (n + 1) (r + 256 * q) = (r / 16 + r % 16) + 256 * s3 n q := by
  unfold s3
  have e : (r + 256 * q) / 16 + (r + 256 * q) = ((r / 16 + r % 16) + 16 * (r / 16 + q % 16)) + 256 * (q / 16 + q) := by omega
  rw [e, mk, and_byte _ _ 15 _ (by omega) (by omega), mask15 _ (by omega) _ (by omega)]

theorem s21_low (n x : Nat) : s2 n (s1 n x) % 16 ≤ 4 := by
  cases n with
  | zero => simp [s2, mk]
  | succ n =>
    have e : x = x % 256 + 256 * (x / 256) := by omega
    have hr : x % 256 < 256 := by omega
    have hb1 := byte1 _ hr
    have hb := byte_all _ hr
    rw [e, s1_byte n _ _ hr, s2_byte n _ _ (by omega)]
    omega

theorem s321 (n x : Nat) : s3 n (s2 n (s1 n x)) = ofB (byts n x) := by
  induction n generalizing x with
  | zero => simp [s3, mk, byts, ofB]
  | succ n ih =>
    have hr : x % 256 < 256 := by omega
    have hb1 := byte1 _ hr
    have hb := byte_all _ hr
    have hlow := s21_low n (x / 256)
    have e : s1 (n + 1) x = _ := (congrArg (s1 (n + 1)) (show x = x % 256 + 256 * (x / 256) from by omega)).trans (s1_byte n _ _ hr)
    rw [e, s2_byte n _ _ (by omega), s3_byte n _ _ hb.1 hb.2.1 hlow, ih, hb.2.2]
    rfl

theorem pop8_le : ∀ r : Nat, r < 256 → pop r 8 ≤ 8 := by decide +kernel

theorem pop_bytes (n x : Nat) : pop x (8 * n) = (byts n x).sum := by
  induction n generalizing x with
  | zero => simp [pop, byts]
  | succ n ih =>
    have e : x = x % 256 + 256 * (x / 256) := by omega
    rw [show 8 * (n + 1) = 8 * n + 8 from by omega]
    conv => lhs; rw [e]
    rw [pop_byte _ _ _ (by omega), ih]
    simp [byts]


theorem dv1 (a q : Nat) (ha : a < 256) : (a + 256 * q) / 256 = q := by omega
theorem dv2 (a b q : Nat) (ha : a < 256) (hb : b < 256) : (a + 256 * (b + 256 * q)) / 65536 = q := by omega
theorem dv4 (a b c d q : Nat) (ha : a < 256) (hb : b < 256) (hc : c < 256) (hd : d < 256) : (a + 256 * (b + 256 * (c + 256 * (d + 256 * q)))) / 4294967296 = q := by omega
theorem low7 (a p b q : Nat) (h : a + b ≤ 64) : (a + 256 * p + (b + 256 * q)) % 128 = a + b := by omega
theorem fold_y (a b c d e f g h : Nat) (ha : a ≤ 8) : (a + 256 * (b + 256 * (c + 256 * (d + 256 * (e + 256 * (f + 256 * (g + 256 * h))))))) + (a + 256 * (b + 256 * (c + 256 * (d + 256 * (e + 256 * (f + 256 * (g + 256 * h))))))) / 256
    = (a + b) + 256 * ((b + c) + 256 * ((c + d) + 256 * ((d + e) + 256 * ((e + f) + 256 * ((f + g) + 256 * ((g + h) + 256 * h)))))) := by
  rw [dv1 _ _ (by omega)]; omega
theorem fold_z (a b c d e f g h : Nat) (ha : a ≤ 8) (hb : b ≤ 8) (hc : c ≤ 8) :
    ((a + b) + 256 * ((b + c) + 256 * ((c + d) + 256 * ((d + e) + 256 * ((e + f) + 256 * ((f + g) + 256 * ((g + h) + 256 * h))))))) + ((a + b) + 256 * ((b + c) + 256 * ((c + d) + 256 * ((d + e) + 256 * ((e + f) + 256 * ((f + g) + 256 * ((g + h) + 256 * h))))))) / 65536
    = (a + b + c + d) + 256 * ((b + c + d + e) + 256 * ((c + d + e + f) + 256 * ((d + e + f + g) + 256 * ((e + f + g + h) + 256 * ((f + g + h) + 256 * ((g + h) + 256 * h)))))) := by
  rw [dv2 _ _ _ (by omega) (by omega)]; omega
theorem fold_end (a b c d e f g h : Nat) (ha : a ≤ 8) (hb : b ≤ 8) (hc : c ≤ 8) (hd : d ≤ 8) (he : e ≤ 8) (hf : f ≤ 8) (hg : g ≤ 8) (hh : h ≤ 8) (z : Nat)
    (hz : z = (a + b + c + d) + 256 * ((b + c + d + e) + 256 * ((c + d + e + f) + 256 * ((d + e + f + g) + 256 * ((e + f + g + h) + 256 * ((f + g + h) + 256 * ((g + h) + 256 * h))))))) :
    (z + z / 4294967296) % 128 = a + (b + (c + (d + (e + (f + (g + h)))))) := by
  have hq : z / 4294967296 = (e + f + g + h) + 256 * ((f + g + h) + 256 * ((g + h) + 256 * h)) := by
    rw [hz]; exact dv4 _ _ _ _ _ (by omega) (by omega) (by omega) (by omega)
  rw [hq, hz, low7 _ _ _ _ (by omega)]; omega

theorem mk85 : mk 85 8 = 6148914691236517205 := by decide
theorem mk51 : mk 51 8 = 3689348814741910323 := by decide
theorem mk15 : mk 15 8 = 1085102592571150095 := by decide

theorem and_le' (a b : Nat) : a &&& b ≤ b := Nat.and_le_right

/-- the bounds and the end of the eight bytes' way -/
theorem ones_nat (x x1 x2 x3 y z : Nat) (h1 : x1 = (x / 2 &&& 6148914691236517205) + (x &&& 6148914691236517205)) (h2 : x2 = (x1 / 4 &&& 3689348814741910323) + (x1 &&& 3689348814741910323))
    (h3 : x3 = (x2 / 16 + x2) &&& 1085102592571150095) (hy : y = x3 + x3 / 256) (hz : z = y + y / 65536) : (z + z / 4294967296) % 128 = pop x 64 := by
  have e : x3 = s3 8 (s2 8 (s1 8 x)) := by rw [h3, h2, h1]; unfold s3 s2 s1; rw [mk85, mk51, mk15]
  rw [s321] at e
  rw [show (64 : Nat) = 8 * 8 from rfl, pop_bytes]
  simp only [byts, ofB, Nat.mul_zero, Nat.add_zero] at e
  simp only [byts, List.sum_cons, List.sum_nil, Nat.add_zero]
  have b0 := pop8_le (x % 256) (by omega)
  have b1 := pop8_le (x / 256 % 256) (by omega)
  have b2 := pop8_le (x / 256 / 256 % 256) (by omega)
  have b3 := pop8_le (x / 256 / 256 / 256 % 256) (by omega)
  have b4 := pop8_le (x / 256 / 256 / 256 / 256 % 256) (by omega)
  have b5 := pop8_le (x / 256 / 256 / 256 / 256 / 256 % 256) (by omega)
  have b6 := pop8_le (x / 256 / 256 / 256 / 256 / 256 / 256 % 256) (by omega)
  have b7 := pop8_le (x / 256 / 256 / 256 / 256 / 256 / 256 / 256 % 256) (by omega)
  generalize pop (x % 256) 8 = t0 at *
  generalize pop (x / 256 % 256) 8 = t1 at *
  generalize pop (x / 256 / 256 % 256) 8 = t2 at *
  generalize pop (x / 256 / 256 / 256 % 256) 8 = t3 at *
  generalize pop (x / 256 / 256 / 256 / 256 % 256) 8 = t4 at *
  generalize pop (x / 256 / 256 / 256 / 256 / 256 % 256) 8 = t5 at *
  generalize pop (x / 256 / 256 / 256 / 256 / 256 / 256 % 256) 8 = t6 at *
  generalize pop (x / 256 / 256 / 256 / 256 / 256 / 256 / 256 % 256) 8 = t7 at *
  clear h1 h2 h3
  rw [e, fold_y _ _ _ _ _ _ _ _ b0] at hy
  rw [hy, fold_z _ _ _ _ _ _ _ _ b0 b1 b2] at hz
  exact fold_end _ _ _ _ _ _ _ _ b0 b1 b2 b3 b4 b5 b6 b7 z hz

theorem pop_top (x n : Nat) : pop x (n + 1) = pop x n + x / 2 ^ n % 2 := by
  induction n generalizing x with
  | zero => simp [pop]
  | succ n ih =>
    rw [pop, ih (x / 2), pop, Nat.div_div_eq_div_mul, ← Nat.pow_succ', Nat.add_assoc]

theorem len_memTo (x k : Nat) : (memTo (x : Int) k).length = pop x k := by
  induction k with
  | zero => simp [memTo, pop]
  | succ k ih =>
    rw [memTo_succ, List.length_append, ih, pop_top]
    have hb : bit (x : Int) k = decide (x / 2 ^ k % 2 = 1) := by
      rw [bit_testBit _ (by omega), Int.toNat_natCast, Nat.testBit_eq_decide_div_mod_eq]
    rw [hb]
    by_cases h : x / 2 ^ k % 2 = 1
    · simp [h]
    · have h0 : x / 2 ^ k % 2 = 0 := by omega
      simp [h0]

theorem pop_64 (x : Nat) (h : x < 1152921504606846976) : pop x 64 = (memTo (x : Int) 60).length := by
  rw [← memTo_all (x : Int) (by omega) (by omega) 64 (div_big (x : Int) (by omega) (by omega) 64 (by omega)), len_memTo]

end Go.Proofs.YtghpmhfhenndiaaDoor.Bit
