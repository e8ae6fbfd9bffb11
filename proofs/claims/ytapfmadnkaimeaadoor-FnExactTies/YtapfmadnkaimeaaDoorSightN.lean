/-
  Plain mathematics of what hangs on what: what is below a knot is what can be gone to thread by thread; a set is closed just where it has all threads of those of it; its tips are those of it that are below no other one; for laces.
-/
import Derived.Test.YtapfmadnkaimeaaDoorSightM
namespace Go.Proofs.YtapfmadnkaimeaaDoor
open Go.RowKit
set_option maxRecDepth 100000
namespace Sg
open Kn (K okK)
open Bit (bit)
open Lc (at')

theorem bit_pow (i j : Nat) : bit (2 ^ i) j = decide (j = i) := by
  have h : ((2 : Int) ^ i).toNat = 2 ^ i := by
    rw [show ((2 : Int) ^ i) = ((2 ^ i : Nat) : Int) by simp, Int.toNat_natCast]
  rw [Bit.bit_testBit _ (Int.le_of_lt (Bit.pow_pos' i)), h, Nat.testBit_two_pow]
  exact decide_eq_decide.2 eq_comm

theorem bit_acc (f : Int) (l : List Int) (i k : Nat) (hi : i < 60) (hl : Within l) (j : Nat) : bit (accB f l i k) j = true ↔ j = i ∨ ∃ m, m < k ∧ bit f m = true ∧ bit (l.getD m 0) j = true := by
  induction k with
  | zero => unfold accB; rw [bit_pow]; simp
  | succ k ih =>
    have hb := accB_bd f l i k hi hl
    have hg := within_get hl k
    unfold accB
    cases hf : bit f k
    · simp only [Bool.false_eq_true, if_false]
      rw [ih]
      constructor
      · rintro (h | ⟨m, hm, h1, h2⟩)
        · exact .inl h
        · exact .inr ⟨m, by omega, h1, h2⟩
      · rintro (h | ⟨m, hm, h1, h2⟩)
        · exact .inl h
        · by_cases e : m = k
          · rw [e, hf] at h1; exact Bool.noConfusion h1
          · exact .inr ⟨m, by omega, h1, h2⟩
    · simp only [if_true]
      rw [bit_orB _ _ hb.1 hg.1, Bool.or_eq_true, ih]
      constructor
      · rintro ((h | ⟨m, hm, h1, h2⟩) | h)
        · exact .inl h
        · exact .inr ⟨m, by omega, h1, h2⟩
        · exact .inr ⟨k, by omega, hf, h⟩
      · rintro (h | ⟨m, hm, h1, h2⟩)
        · exact .inl (.inl h)
        · by_cases e : m = k
          · rw [e] at h2; exact .inr h2
          · exact .inl (.inr ⟨m, by omega, h1, h2⟩)

/-- what is below the i-th -/
def bel (L : List K) (i : Nat) : Int := (belows L (i + 1)).getD i 0

theorem belows_get (L : List K) (n i : Nat) (h : i < n) : (belows L n).getD i 0 = bel L i := by
  induction n with
  | zero => omega
  | succ n ih =>
    by_cases e : i = n
    · subst e; rfl
    · have hn : i < (belows L n).length := by rw [belows_len]; omega
      rw [← ih (by omega)]
      show (belows L n ++ _).getD i 0 = _
      simp [List.getD, List.getElem?_append_left hn]

theorem bel_acc (L : List K) (i : Nat) : bel L i = accB (at' L i).frm (belows L i) i i := by
  unfold bel
  show (belows L i ++ [_]).getD i 0 = _
  have := belows_len L i
  simp [List.getD, this]

theorem bel_bd (L : List K) (i : Nat) (hi : i < 60) : 0 ≤ bel L i ∧ bel L i < 1152921504606846976 := by
  rw [bel_acc]; exact accB_bd _ _ _ _ hi (belows_in L i (by omega))

/-- below a knot is it itself, and what is below those it hangs on -/
theorem bit_bel (L : List K) (i : Nat) (hi : i < 60) (j : Nat) : bit (bel L i) j = true ↔ j = i ∨ ∃ m, m < i ∧ bit (at' L i).frm m = true ∧ bit (bel L m) j = true := by
  rw [bel_acc, bit_acc _ _ _ _ hi (belows_in L i (by omega))]
  constructor
  · rintro (h | ⟨m, hm, h1, h2⟩)
    · exact .inl h
    · exact .inr ⟨m, hm, h1, by rwa [belows_get L i m hm] at h2⟩
  · rintro (h | ⟨m, hm, h1, h2⟩)
    · exact .inl h
    · exact .inr ⟨m, hm, h1, by rwa [belows_get L i m hm]⟩

/-- thread by thread -/
inductive Reach (L : List K) : Nat → Nat → Prop
  | self (i : Nat) : Reach L i i
  | step {i m j : Nat} : bit (at' L i).frm m = true → Reach L m j → Reach L i j

theorem Reach.trans {L : List K} {i m j : Nat} (h : Reach L i m) (h2 : Reach L m j) : Reach L i j := by
  induction h with
  | self => exact h2
  | step hb _ ih => exact .step hb (ih h2)

/-- threads of a lace lead to lesser numbers -/
theorem thread_lt {L : List K} (hl : Lc.laceB L = true) {i m : Nat} (hi : i < L.length) (hb : bit (at' L i).frm m = true) : m < i := by
  have hc := Lc.lace_upTo hl i hi
  have hf := Lc.ok_frm (Lc.can_ok hc)
  unfold Lc.canB at hc
  simp only [Bool.and_eq_true, decide_eq_true_eq] at hc
  have hd : (at' L i).frm / 2 ^ (L.take i).length = 0 := hc.2.1
  have hlen : (L.take i).length = i := by simp; omega
  rw [hlen] at hd
  apply Classical.byContradiction
  intro h
  rw [Lc.bit_hi _ i hf.1 hd m (by omega)] at hb
  exact Bool.noConfusion hb

theorem bel_reach {L : List K} (hl : Lc.laceB L = true) (i : Nat) (hi : i < L.length) (j : Nat) : bit (bel L i) j = true ↔ Reach L i j := by
  have h60 := ((Lc.lace_iff L).1 hl).1
  induction i using Nat.strongRecOn generalizing j with
  | _ i ih =>
    rw [bit_bel L i (by omega)]
    constructor
    · rintro (rfl | ⟨m, hm, h1, h2⟩)
      · exact .self _
      · exact .step h1 ((ih m hm (by omega) j).1 h2)
    · intro h
      cases h with
      | self => exact .inl rfl
      | step hb h2 =>
        have hm := thread_lt hl hi hb
        exact .inr ⟨_, hm, hb, (ih _ hm (by omega) j).2 h2⟩

theorem reach_le {L : List K} (hl : Lc.laceB L = true) {i j : Nat} (hi : i < L.length) (h : Reach L i j) : j ≤ i := by
  induction h with
  | self => exact Nat.le_refl _
  | step hb _ ih =>
    have hm := thread_lt hl hi hb
    have := ih (by omega)
    omega

/-- to see goes on -/
theorem bel_trans {L : List K} (hl : Lc.laceB L = true) {i m j : Nat} (hi : i < L.length) (h1 : bit (bel L i) m = true) (h2 : bit (bel L m) j = true) : bit (bel L i) j = true := by
  have r1 := (bel_reach hl i hi m).1 h1
  have hm := reach_le hl hi r1
  exact (bel_reach hl i hi j).2 (r1.trans ((bel_reach hl m (by omega) j).1 h2))

/-- none of a is outside s -/
theorem andNot_sub (a s : Int) (h0 : 0 ≤ a) (h1 : a < 9223372036854775808) (h2 : 0 ≤ s) (h3 : s < 9223372036854775808) : (bits .andNot .i64 a s == 0) = true ↔ ∀ i, bit a i = true → bit s i = true := by
  obtain ⟨A, rfl⟩ := Int.eq_ofNat_of_zero_le h0
  obtain ⟨S, rfl⟩ := Int.eq_ofNat_of_zero_le h2
  have hA : (BitVec.ofInt 64 (A : Int)).toNat = A := ofInt_u64 A (by omega)
  have hS : (BitVec.ofInt 64 (S : Int)).toNat = S := ofInt_u64 S (by omega)
  have e : bits .andNot .i64 (A : Int) (S : Int) = IntKind.i64.wrap ((BitVec.ofInt 64 (A : Int) &&& ~~~ BitVec.ofInt 64 (S : Int)).toNat : Int) := rfl
  have hz : (bits .andNot .i64 (A : Int) (S : Int) == 0) = true ↔ (BitVec.ofInt 64 (A : Int) &&& ~~~ BitVec.ofInt 64 (S : Int)) = 0#64 := by
    rw [e, beq_iff_eq]
    constructor
    · intro h
      have hlt : (BitVec.ofInt 64 (A : Int) &&& ~~~ BitVec.ofInt 64 (S : Int)).toNat < 18446744073709551616 := BitVec.isLt _
      have hw : ∀ x : Nat, x < 18446744073709551616 → IntKind.i64.wrap (x : Int) = 0 → x = 0 := by
        intro x hx hh
        simp only [IntKind.wrap, IntKind.bits, IntKind.signed] at hh
        simp at hh
        omega
      exact BitVec.eq_of_toNat_eq ((hw _ hlt h).trans rfl)
    · intro h; rw [h]; rfl
  rw [hz]
  have ba : ∀ i, (BitVec.ofInt 64 (A : Int)).getLsbD i = A.testBit i := fun i => by rw [BitVec.getLsbD, hA]
  have bs : ∀ i, (BitVec.ofInt 64 (S : Int)).getLsbD i = S.testBit i := fun i => by rw [BitVec.getLsbD, hS]
  have ta : ∀ i, bit (A : Int) i = A.testBit i := fun i => by rw [Bit.bit_testBit _ h0, Int.toNat_natCast]
  have ts : ∀ i, bit (S : Int) i = S.testBit i := fun i => by rw [Bit.bit_testBit _ h2, Int.toNat_natCast]
  constructor
  · intro h i hi
    rw [ta] at hi
    have h64 : i < 64 := by
      apply Classical.byContradiction
      intro hn
      have : A.testBit i = false := Nat.testBit_lt_two_pow (Nat.lt_of_lt_of_le (show A < 2 ^ 64 by omega) (Nat.pow_le_pow_right (by decide) (by omega)))
      rw [this] at hi; exact Bool.noConfusion hi
    have hb := congrArg (fun v => v.getLsbD i) h
    simp only [BitVec.getLsbD_and, BitVec.getLsbD_not, ba, bs, hi, h64] at hb
    rw [ts]
    simpa using hb
  · intro h
    apply BitVec.eq_of_getLsbD_eq
    intro i hi
    simp only [BitVec.getLsbD_and, BitVec.getLsbD_not, ba, bs]
    cases hA' : A.testBit i
    · simp
    · have := h i (by rw [ta]; exact hA')
      rw [ts] at this
      rw [this]; simp

theorem closed_iff (L : List K) (s : Int) (n : Nat) (hn : n ≤ 60) (h0 : 0 ≤ s) (h1 : s < 1152921504606846976) : closedTo (belows L n) s n = true ↔ ∀ i, i < n → bit s i = true → ∀ j, bit (bel L i) j = true → bit s j = true := by
  unfold closedTo
  rw [List.all_eq_true]
  constructor
  · intro h i hi hb
    have := h i (by simpa using hi)
    rw [hb, belows_get L n i hi] at this
    have hbd := bel_bd L i (by omega)
    exact (andNot_sub _ _ hbd.1 (by omega) h0 (by omega)).1 (by simpa using this)
  · intro h i hi
    have hi' : i < n := by simpa using hi
    cases hb : bit s i
    · rfl
    · rw [belows_get L n i hi']
      have hbd := bel_bd L i (by omega)
      have := (andNot_sub _ _ hbd.1 (by omega) h0 (by omega)).2 (h i hi' hb)
      simpa using this

/-- a set is closed just where it has all threads of those of it -/
theorem closed_threads {L : List K} (hl : Lc.laceB L = true) (s : Int) (h0 : 0 ≤ s) (h1 : s < 1152921504606846976) : closedTo (belows L L.length) s L.length = true ↔ ∀ i, i < L.length → bit s i = true → ∀ m, bit (at' L i).frm m = true → bit s m = true := by
  have h60 := ((Lc.lace_iff L).1 hl).1
  rw [closed_iff L s L.length h60 h0 h1]
  constructor
  · intro h i hi hb m hm
    exact h i hi hb m ((bel_reach hl i hi m).2 (.step hm (.self _)))
  · intro h i hi hb j hj
    have r := (bel_reach hl i hi j).1 hj
    clear hj
    induction r with
    | self => exact hb
    | step hm _ ih => exact ih (Nat.lt_trans (thread_lt hl hi hm) hi) (h _ hi hb _ hm)

end Sg
end Go.Proofs.YtapfmadnkaimeaaDoor
