/-
  Plain mathematics of a walk back along the threads: it goes through the numbers from the last to the first, keeps the set of those reached, and adds a reached one's threads; what it meets is what hangs below the set; for laces.
-/
import Derived.Test.YtapfmadnkaimeaaDoorSightN
namespace Go.Proofs.YtapfmadnkaimeaaDoor
open Go.RowKit
set_option maxRecDepth 100000
namespace Sg
open Kn (K okK)
open Bit (bit withB)
open Lc (at')

/-- what has been reached when all numbers from m on are done -/
structure Inv (L : List K) (s : Int) (m : Nat) (r : Int) : Prop where
  lo : 0 ≤ r
  hi : r < 1152921504606846976
  start : ∀ j, bit s j = true → bit r j = true
  sound : ∀ j, bit r j = true → bit s j = true ∨ ∃ i, i < L.length ∧ bit s i = true ∧ Reach L i j
  done : ∀ i, m ≤ i → i < L.length → bit r i = true → ∀ j, bit (at' L i).frm j = true → bit r j = true

theorem inv_start (L : List K) (s : Int) (h0 : 0 ≤ s) (h1 : s < 1152921504606846976) : Inv L s L.length s :=
  ⟨h0, h1, fun _ h => h, fun _ h => .inl h, fun i h1 h2 => by omega⟩

theorem inv_skip {L : List K} {s r : Int} {m : Nat} (h : Inv L s (m + 1) r) (hb : bit r m = false) : Inv L s m r :=
  ⟨h.lo, h.hi, h.start, h.sound, fun i hi hl hr j hj => by
    by_cases e : i = m
    · subst e; rw [hb] at hr; exact Bool.noConfusion hr
    · exact h.done i (by omega) hl hr j hj⟩

theorem inv_take {L : List K} (hl : Lc.laceB L = true) {s r : Int} {m : Nat} (hm : m < L.length) (h : Inv L s (m + 1) r) (hb : bit r m = true) : Inv L s m (orB r (at' L m).frm) := by
  have hf := frm_lace hl _ (Lc.at_mem L m hm)
  have hbd := orB_bd r (at' L m).frm h.lo h.hi hf.1 hf.2
  refine ⟨hbd.1, hbd.2, ?_, ?_, ?_⟩
  · intro j hj; rw [bit_orB _ _ h.lo hf.1, h.start j hj]; rfl
  · intro j hj
    rw [bit_orB _ _ h.lo hf.1, Bool.or_eq_true] at hj
    rcases hj with hj | hj
    · exact h.sound j hj
    · rcases h.sound m hb with hs | ⟨i, hi, hs, hr⟩
      · exact .inr ⟨m, hm, hs, .step hj (.self _)⟩
      · exact .inr ⟨i, hi, hs, hr.trans (.step hj (.self _))⟩
  · intro i hi hil hr j hj
    rw [bit_orB _ _ h.lo hf.1, Bool.or_eq_true] at hr ⊢
    by_cases e : i = m
    · subst e; exact .inr hj
    · rcases hr with hr | hr
      · exact .inl (h.done i (by omega) hil hr j hj)
      · have := thread_lt hl hm hr; omega

/-- all that hangs below one of the set has been reached -/
theorem inv_reach {L : List K} (hl : Lc.laceB L = true) {s r : Int} (h : Inv L s 0 r) {i j : Nat} (hi : i < L.length) (hb : bit r i = true) (hr : Reach L i j) : bit r j = true := by
  induction hr with
  | self => exact hb
  | step hm _ ih => exact ih (Nat.lt_trans (thread_lt hl hi hm) hi) (h.done _ (Nat.zero_le _) hi hb _ hm)

/-- those met so far are kept -/
structure Met (L : List K) (m : Nat) (r f : Int) : Prop where
  lo : 0 ≤ f
  hi : f < 1152921504606846976
  has : ∀ j, bit f j = true ↔ m ≤ j ∧ j < L.length ∧ bit r j = true

theorem met_start (L : List K) (s : Int) : Met L L.length s 0 := ⟨by omega, by omega, fun j => by rw [Lc.bit_zero]; simp; omega⟩

theorem met_skip {L : List K} {r f : Int} {m : Nat} (h : Met L (m + 1) r f) (hb : bit r m = false) : Met L m r f :=
  ⟨h.lo, h.hi, fun j => by
    rw [h.has j]
    constructor
    · rintro ⟨a, b, c⟩; exact ⟨by omega, b, c⟩
    · rintro ⟨a, b, c⟩
      refine ⟨?_, b, c⟩
      apply Classical.byContradiction
      intro hn
      obtain rfl : j = m := by omega
      rw [hb] at c; exact Bool.noConfusion c⟩

theorem met_take {L : List K} (hl : Lc.laceB L = true) {s r f : Int} {m : Nat} (hm : m < L.length) (hi : Inv L s (m + 1) r) (h : Met L (m + 1) r f) (hb : bit r m = true) : Met L m (orB r (at' L m).frm) (withB f m) := by
  have h60 := ((Lc.lace_iff L).1 hl).1
  have hf := frm_lace hl _ (Lc.at_mem L m hm)
  have hbd := Bit.withB_bd f h.lo h.hi m (by omega)
  refine ⟨hbd.1, hbd.2, fun j => ?_⟩
  rw [Bit.bit_withB f h.lo, bit_orB _ _ hi.lo hf.1]
  simp only [Bool.or_eq_true, decide_eq_true_eq]
  rw [h.has j]
  constructor
  · rintro (rfl | ⟨a, b, c⟩)
    · exact ⟨Nat.le_refl _, hm, .inl hb⟩
    · exact ⟨by omega, b, .inl c⟩
  · rintro ⟨a, b, c | c⟩
    · by_cases e : j = m
      · exact .inl e
      · exact .inr ⟨by omega, b, c⟩
    · have := thread_lt hl hm c; omega

/-- a set of one -/
def oneI (k : Int) : Int := if 0 ≤ k ∧ k < 60 then 2 ^ k.toNat else 0

theorem oneI_bd (k : Int) : 0 ≤ oneI k ∧ oneI k < 1152921504606846976 := by
  unfold oneI
  split
  · rename_i h; have := Base.pow_bd k.toNat (by omega); exact ⟨by omega, this.2⟩
  · omega

theorem bit_oneI (k : Int) (j : Nat) : bit (oneI k) j = true ↔ k = (j : Int) ∧ j < 60 := by
  unfold oneI
  split
  · rename_i h; rw [bit_pow]; simp; omega
  · rw [Lc.bit_zero]; simp; omega

/-- what the walk from one has met at its end -/
def metI (L : List K) (k : Int) : Int := if 0 ≤ k ∧ k < (L.length : Int) then bel L k.toNat else 0

theorem met_end {L : List K} (hl : Lc.laceB L = true) {k r f : Int} (hi : Inv L (oneI k) 0 r) (h : Met L 0 r f) : f = metI L k := by
  have h60 := ((Lc.lace_iff L).1 hl).1
  unfold metI
  split
  · rename_i hk
    obtain ⟨p, rfl⟩ := Int.eq_ofNat_of_zero_le hk.1
    rw [Int.toNat_natCast]
    have hp : p < L.length := by omega
    have hbd := bel_bd L p (by omega)
    refine Lc.eq_of_bits _ _ h.lo hbd.1 fun j => ?_
    rw [Bool.eq_iff_iff, h.has j, bel_reach hl p hp j]
    constructor
    · rintro ⟨_, _, c⟩
      rcases hi.sound j c with hs | ⟨i, _, hs, hr⟩
      · have := ((bit_oneI _ _).1 hs).1
        obtain rfl : p = j := by omega
        exact .self _
      · have := ((bit_oneI _ _).1 hs).1
        obtain rfl : p = i := by omega
        exact hr
    · intro hr
      have := reach_le hl hp hr
      refine ⟨Nat.zero_le _, by omega, ?_⟩
      exact inv_reach hl hi hp (hi.start p ((bit_oneI _ _).2 ⟨rfl, by omega⟩)) hr
  · rename_i hk
    refine Lc.eq_of_bits _ _ h.lo (Int.le_refl _) fun j => ?_
    rw [Lc.bit_zero, Bool.eq_false_iff]
    intro hj
    obtain ⟨_, hjl, c⟩ := (h.has j).1 hj
    rcases hi.sound j c with hs | ⟨i, hil, hs, _⟩
    · have := ((bit_oneI _ _).1 hs).1; omega
    · have := ((bit_oneI _ _).1 hs).1; omega

/-! ### closed -/
/-- all that is met is in the set, so far -/
def Kept (L : List K) (s : Int) (m : Nat) (r : Int) : Prop := ∀ j, m ≤ j → j < L.length → bit r j = true → bit s j = true

theorem kept_start (L : List K) (s r : Int) : Kept L s L.length r := fun j h1 h2 => by omega

theorem kept_skip {L : List K} {s r : Int} {m : Nat} (h : Kept L s (m + 1) r) (hb : bit r m = false) : Kept L s m r := fun j h1 h2 h3 => by
  by_cases e : j = m
  · subst e; rw [hb] at h3; exact Bool.noConfusion h3
  · exact h j (by omega) h2 h3

theorem kept_take {L : List K} (hl : Lc.laceB L = true) {s r : Int} {m : Nat} (hm : m < L.length) (hi : Inv L s (m + 1) r) (h : Kept L s (m + 1) r) (hs : bit s m = true) : Kept L s m (orB r (at' L m).frm) := fun j h1 h2 h3 => by
  have hf := frm_lace hl _ (Lc.at_mem L m hm)
  by_cases e : j = m
  · subst e; exact hs
  · rw [bit_orB _ _ hi.lo hf.1, Bool.or_eq_true] at h3
    rcases h3 with h3 | h3
    · exact h j (by omega) h2 h3
    · have := thread_lt hl hm h3; omega

theorem reach_in {L : List K} (hl : Lc.laceB L = true) {s : Int} (h : ∀ i, i < L.length → bit s i = true → ∀ m, bit (at' L i).frm m = true → bit s m = true) {i j : Nat} (hi : i < L.length) (hb : bit s i = true) (hr : Reach L i j) : bit s j = true := by
  induction hr with
  | self => exact hb
  | step hm _ ih => exact ih (Nat.lt_trans (thread_lt hl hi hm) hi) (h _ hi hb _ hm)

theorem closed_end {L : List K} (hl : Lc.laceB L = true) {s r : Int} (h0 : 0 ≤ s) (h1 : s < 1152921504606846976) (hi : Inv L s 0 r) (h : Kept L s 0 r) : closedTo (belows L L.length) s L.length = true := by
  rw [closed_threads hl s h0 h1]
  intro i hil hb m hm
  have := thread_lt hl hil hm
  exact h m (Nat.zero_le _) (by omega) (hi.done i (Nat.zero_le _) hil (hi.start i hb) m hm)

theorem closed_not {L : List K} (hl : Lc.laceB L = true) {s r : Int} (h0 : 0 ≤ s) (h1 : s < 1152921504606846976) {m j : Nat} (hi : Inv L s m r) (hr : bit r j = true) (hs : bit s j = false) : closedTo (belows L L.length) s L.length = false := by
  rw [Bool.eq_false_iff]
  intro hc
  rw [closed_threads hl s h0 h1] at hc
  rcases hi.sound j hr with h | ⟨i, hil, hb, hre⟩
  · rw [hs] at h; exact Bool.noConfusion h
  · have := reach_in hl hc hil hb hre
    rw [hs] at this; exact Bool.noConfusion this

/-! ### tips -/
theorem bit_andNot (a s : Int) (h0 : 0 ≤ a) (h1 : a < 1152921504606846976) (h2 : 0 ≤ s) (h3 : s < 1152921504606846976) (i : Nat) : bit (bits .andNot .i64 a s) i = (bit a i && !bit s i) := by
  obtain ⟨A, rfl⟩ := Int.eq_ofNat_of_zero_le h0
  obtain ⟨S, rfl⟩ := Int.eq_ofNat_of_zero_le h2
  have hA : (BitVec.ofInt 64 (A : Int)).toNat = A := ofInt_u64 A (by omega)
  have hS : (BitVec.ofInt 64 (S : Int)).toNat = S := ofInt_u64 S (by omega)
  have hx : (BitVec.ofInt 64 (A : Int) &&& ~~~ BitVec.ofInt 64 (S : Int)).toNat ≤ A := by
    rw [BitVec.toNat_and, hA]; exact Nat.and_le_left
  have e : bits .andNot .i64 (A : Int) (S : Int) = ((BitVec.ofInt 64 (A : Int) &&& ~~~ BitVec.ofInt 64 (S : Int)).toNat : Int) := by
    show IntKind.i64.wrap ((BitVec.ofInt 64 (A : Int) &&& ~~~ BitVec.ofInt 64 (S : Int)).toNat : Int) = _
    rw [IntKind.wrap_i64]; omega
  have hn : (0 : Int) ≤ ((BitVec.ofInt 64 (A : Int) &&& ~~~ BitVec.ofInt 64 (S : Int)).toNat : Int) := by omega
  rw [e, Bit.bit_testBit _ hn, Int.toNat_natCast, Bit.bit_testBit _ h0, Bit.bit_testBit _ h2, Int.toNat_natCast, Int.toNat_natCast]
  by_cases h64 : i < 64
  · show (BitVec.ofInt 64 (A : Int) &&& ~~~ BitVec.ofInt 64 (S : Int)).getLsbD i = _
    rw [BitVec.getLsbD_and, BitVec.getLsbD_not, BitVec.getLsbD, hA, BitVec.getLsbD, hS]
    simp [h64]
  · have ha : A.testBit i = false := Nat.testBit_lt_two_pow (Nat.lt_of_lt_of_le (show A < 2 ^ 64 by omega) (Nat.pow_le_pow_right (by decide) (by omega)))
    have hb : (BitVec.ofInt 64 (A : Int) &&& ~~~ BitVec.ofInt 64 (S : Int)).toNat.testBit i = false := Nat.testBit_lt_two_pow (Nat.lt_of_lt_of_le (show _ < 2 ^ 64 by omega) (Nat.pow_le_pow_right (by decide) (by omega)))
    rw [ha, hb]; rfl

theorem andNot_bd' (a s : Int) (h0 : 0 ≤ a) (h1 : a < 1152921504606846976) : 0 ≤ bits .andNot .i64 a s ∧ bits .andNot .i64 a s < 1152921504606846976 := by
  obtain ⟨A, rfl⟩ := Int.eq_ofNat_of_zero_le h0
  have hA : (BitVec.ofInt 64 (A : Int)).toNat = A := ofInt_u64 A (by omega)
  have hx : (BitVec.ofInt 64 (A : Int) &&& ~~~ BitVec.ofInt 64 s).toNat ≤ A := by
    rw [BitVec.toNat_and, hA]; exact Nat.and_le_left
  have e : bits .andNot .i64 (A : Int) s = ((BitVec.ofInt 64 (A : Int) &&& ~~~ BitVec.ofInt 64 s).toNat : Int) := by
    show IntKind.i64.wrap ((BitVec.ofInt 64 (A : Int) &&& ~~~ BitVec.ofInt 64 s).toNat : Int) = _
    rw [IntKind.wrap_i64]; omega
  rw [e]; omega

theorem tipsTo_bd (l : List Int) (s : Int) (n : Nat) (h0 : 0 ≤ s) (h1 : s < 1152921504606846976) : 0 ≤ tipsTo l s n ∧ tipsTo l s n < 1152921504606846976 := by
  induction n with
  | zero => exact ⟨h0, h1⟩
  | succ n ih =>
    unfold tipsTo
    split
    · exact andNot_bd' _ _ ih.1 ih.2
    · exact ih

theorem bit_tips (L : List K) (s : Int) (n N : Nat) (hn : n ≤ N) (hN : N ≤ 60) (h0 : 0 ≤ s) (h1 : s < 1152921504606846976) (j : Nat) : bit (tipsTo (belows L N) s n) j = true ↔ bit s j = true ∧ ∀ i, i < n → bit s i = true → j ≠ i → bit (bel L i) j = false := by
  induction n with
  | zero => unfold tipsTo; simp
  | succ n ih =>
    have ih := ih (by omega)
    have hbd := tipsTo_bd (belows L N) s n h0 h1
    have hb := bel_bd L n (by omega)
    have hp := Base.pow_bd n (by omega)
    have hg := belows_get L N n (by omega)
    unfold tipsTo
    cases hs : bit s n
    · simp only [Bool.false_eq_true, if_false]
      rw [ih]
      constructor
      · rintro ⟨a, b⟩
        refine ⟨a, fun i hi hb' hj => ?_⟩
        by_cases e : i = n
        · subst e; rw [hs] at hb'; exact Bool.noConfusion hb'
        · exact b i (by omega) hb' hj
      · rintro ⟨a, b⟩; exact ⟨a, fun i hi hb' hj => b i (by omega) hb' hj⟩
    · simp only [if_true]
      have hq := andNot_bd' (bel L n) (2 ^ n) hb.1 hb.2
      rw [hg, bit_andNot _ _ hbd.1 hbd.2 hq.1 hq.2, bit_andNot _ _ hb.1 hb.2 (by omega) hp.2, bit_pow, Bool.and_eq_true, ih]
      constructor
      · rintro ⟨⟨a, b⟩, c⟩
        refine ⟨a, fun i hi hb' hj => ?_⟩
        by_cases e : i = n
        · subst e
          rw [decide_eq_false hj] at c
          simpa using c
        · exact b i (by omega) hb' hj
      · rintro ⟨a, b⟩
        refine ⟨⟨a, fun i hi hb' hj => b i (by omega) hb' hj⟩, ?_⟩
        by_cases e : j = n
        · rw [decide_eq_true e]; simp
        · rw [b n (by omega) hs e]; rfl

/-- those of the set that no thread of a met one leads to -/
structure Unseen (L : List K) (s : Int) (m : Nat) (r u : Int) : Prop where
  lo : 0 ≤ u
  hi : u < 1152921504606846976
  has : ∀ j, bit u j = true ↔ bit s j = true ∧ ∀ i, m ≤ i → i < L.length → bit r i = true → bit (at' L i).frm j = false

theorem unseen_start (L : List K) (s r : Int) (h0 : 0 ≤ s) (h1 : s < 1152921504606846976) : Unseen L s L.length r s := ⟨h0, h1, fun j => ⟨fun h => ⟨h, fun i h1 h2 => by omega⟩, fun h => h.1⟩⟩

theorem unseen_skip {L : List K} {s r u : Int} {m : Nat} (h : Unseen L s (m + 1) r u) (hb : bit r m = false) : Unseen L s m r u :=
  ⟨h.lo, h.hi, fun j => by
    rw [h.has j]
    constructor
    · rintro ⟨a, b⟩
      refine ⟨a, fun i h1 h2 h3 => ?_⟩
      by_cases e : i = m
      · subst e; rw [hb] at h3; exact Bool.noConfusion h3
      · exact b i (by omega) h2 h3
    · rintro ⟨a, b⟩; exact ⟨a, fun i h1 h2 h3 => b i (by omega) h2 h3⟩⟩

theorem unseen_take {L : List K} (hl : Lc.laceB L = true) {s r u : Int} {m : Nat} (hm : m < L.length) (hi : Inv L s (m + 1) r) (h : Unseen L s (m + 1) r u) (hb : bit r m = true) : Unseen L s m (orB r (at' L m).frm) (bits .andNot .i64 u (at' L m).frm) := by
  have hf := frm_lace hl _ (Lc.at_mem L m hm)
  have hbd := andNot_bd' u (at' L m).frm h.lo h.hi
  refine ⟨hbd.1, hbd.2, fun j => ?_⟩
  rw [bit_andNot _ _ h.lo h.hi hf.1 hf.2, Bool.and_eq_true, h.has j]
  constructor
  · rintro ⟨⟨a, b⟩, c⟩
    refine ⟨a, fun i h1 h2 h3 => ?_⟩
    rw [bit_orB _ _ hi.lo hf.1, Bool.or_eq_true] at h3
    by_cases e : i = m
    · subst e; simpa using c
    · rcases h3 with h3 | h3
      · exact b i (by omega) h2 h3
      · have := thread_lt hl hm h3; omega
  · rintro ⟨a, b⟩
    refine ⟨⟨a, fun i h1 h2 h3 => b i (by omega) h2 (by rw [bit_orB _ _ hi.lo hf.1, h3]; rfl)⟩, ?_⟩
    rw [b m (Nat.le_refl _) hm (by rw [bit_orB _ _ hi.lo hf.1, hb]; rfl)]; rfl

theorem reach_last {L : List K} {i j : Nat} (h : Reach L i j) : j = i ∨ ∃ p, Reach L i p ∧ bit (at' L p).frm j = true := by
  induction h with
  | self => exact .inl rfl
  | @step i m j hb hr ih =>
    rcases ih with rfl | ⟨p, hp, hq⟩
    · exact .inr ⟨i, .self _, hb⟩
    · exact .inr ⟨p, .step hb hp, hq⟩

theorem tips_end {L : List K} (hl : Lc.laceB L = true) {s r u : Int} (h0 : 0 ≤ s) (h1 : s < 1152921504606846976) (hc : closedTo (belows L L.length) s L.length = true) (hi : Inv L s 0 r) (h : Unseen L s 0 r u) : u = tipsTo (belows L L.length) s L.length := by
  have h60 := ((Lc.lace_iff L).1 hl).1
  have hbd := tipsTo_bd (belows L L.length) s L.length h0 h1
  rw [closed_threads hl s h0 h1] at hc
  refine Lc.eq_of_bits _ _ h.lo hbd.1 fun j => ?_
  rw [Bool.eq_iff_iff, h.has j, bit_tips L s L.length L.length (Nat.le_refl _) h60 h0 h1 j]
  constructor
  · rintro ⟨a, b⟩
    refine ⟨a, fun i hil hs hj => ?_⟩
    rw [Bool.eq_false_iff]
    intro hbe
    rcases reach_last ((bel_reach hl i hil j).1 hbe) with e | ⟨p, hp, hq⟩
    · exact hj e
    · have hpl := reach_le hl hil hp
      have := b p (Nat.zero_le _) (by omega) (hi.start p (reach_in hl hc hil hs hp))
      rw [this] at hq; exact Bool.noConfusion hq
  · rintro ⟨a, b⟩
    refine ⟨a, fun i _ hil hr => ?_⟩
    rw [Bool.eq_false_iff]
    intro hbf
    have hs : bit s i = true := by
      rcases hi.sound i hr with h | ⟨i', hil', hs', hre⟩
      · exact h
      · exact reach_in hl hc hil' hs' hre
    have hlt := thread_lt hl hil hbf
    have := b i hil hs (by omega)
    rw [(bel_reach hl i hil j).2 (.step hbf (.self _))] at this
    exact Bool.noConfusion this

/-! ### what the walk meets, in its order -/
def visF (L : List K) : (m : Nat) → m ≤ L.length → Int → List (Fin L.length)
  | 0, _, _ => []
  | m + 1, h, r => if bit r m then ⟨m, h⟩ :: visF L m (Nat.le_of_succ_le h) (orB r (at' L m).frm) else visF L m (Nat.le_of_succ_le h) r

def vis (L : List K) (s : Int) : List (Fin L.length) := visF L L.length (Nat.le_refl _) s

theorem visF_yes (L : List K) (m : Nat) (h : m + 1 ≤ L.length) (r : Int) (hb : bit r m = true) : visF L (m + 1) h r = ⟨m, h⟩ :: visF L m (Nat.le_of_succ_le h) (orB r (at' L m).frm) := by
  show (if bit r m then _ else _) = _
  rw [hb]; rfl
theorem visF_no (L : List K) (m : Nat) (h : m + 1 ≤ L.length) (r : Int) (hb : bit r m = false) : visF L (m + 1) h r = visF L m (Nat.le_of_succ_le h) r := by
  show (if bit r m then _ else _) = _
  rw [hb]; rfl

theorem visF_len (L : List K) (m : Nat) (h : m ≤ L.length) (r : Int) : (visF L m h r).length ≤ m := by
  induction m generalizing r with
  | zero => exact Nat.le_refl _
  | succ m ih =>
    cases hb : bit r m
    · rw [visF_no L m h r hb]; have := ih (Nat.le_of_succ_le h) r; omega
    · rw [visF_yes L m h r hb]; have := ih (Nat.le_of_succ_le h) (orB r (at' L m).frm); simp; omega

theorem vis_len (L : List K) (s : Int) : (vis L s).length ≤ L.length := visF_len L _ _ s

/-- those gathered -/
def gath {n : Nat} (f : Int) (xs : List (Fin n)) : Int := xs.foldl (fun f x => withB f x.val) f
theorem gath_snoc {n : Nat} (f : Int) (xs : List (Fin n)) (x : Fin n) : gath f (xs ++ [x]) = withB (gath f xs) x.val := by simp [gath]

theorem gath_bd {n : Nat} (hn : n ≤ 60) (xs : List (Fin n)) : 0 ≤ gath 0 xs ∧ gath 0 xs < 1152921504606846976 := by
  have : ∀ (xs : List (Fin n)) (f : Int), 0 ≤ f → f < 1152921504606846976 → 0 ≤ gath f xs ∧ gath f xs < 1152921504606846976 := by
    intro xs
    induction xs with
    | nil => intro f h0 h1; exact ⟨h0, h1⟩
    | cons x xs ih =>
      intro f h0 h1
      have hx := x.isLt
      have hb := Bit.withB_bd f h0 h1 x.val (by omega)
      exact ih _ hb.1 hb.2
  exact this xs 0 (by omega) (by omega)

theorem gath_vis {L : List K} (hl : Lc.laceB L = true) (k : Int) : gath 0 (vis L (oneI k)) = metI L k := by
  have h60 := ((Lc.lace_iff L).1 hl).1
  have : ∀ (m : Nat) (h : m ≤ L.length) (r f : Int), Inv L (oneI k) m r → Met L m r f → gath f (visF L m h r) = metI L k := by
    intro m
    induction m with
    | zero => intro h r f hi hm; exact met_end hl hi hm
    | succ m ih =>
      intro h r f hi hm
      cases hb : bit r m
      · rw [visF_no L m h r hb]; exact ih _ r f (inv_skip hi hb) (met_skip hm hb)
      · rw [visF_yes L m h r hb]; exact ih _ _ _ (inv_take hl h hi hb) (met_take hl h hi hm hb)
  exact this L.length (Nat.le_refl _) (oneI k) 0 (inv_start L _ (oneI_bd k).1 (oneI_bd k).2) (met_start L _)

theorem vis_closed {L : List K} (hl : Lc.laceB L = true) (s : Int) (h0 : 0 ≤ s) (h1 : s < 1152921504606846976) : (∀ x ∈ vis L s, bit s x.val = true) ↔ closedTo (belows L L.length) s L.length = true := by
  have : ∀ (m : Nat) (h : m ≤ L.length) (r : Int), Inv L s m r → Kept L s m r → ((∀ x ∈ visF L m h r, bit s x.val = true) ↔ closedTo (belows L L.length) s L.length = true) := by
    intro m
    induction m with
    | zero => intro h r hi hk; exact ⟨fun _ => closed_end hl h0 h1 hi hk, fun _ x hx => by cases hx⟩
    | succ m ih =>
      intro h r hi hk
      cases hb : bit r m
      · rw [visF_no L m h r hb]; exact ih _ r (inv_skip hi hb) (kept_skip hk hb)
      · rw [visF_yes L m h r hb]
        cases hs : bit s m
        · constructor
          · intro hx
            have := hx ⟨m, h⟩ (List.mem_cons_self ..)
            rw [hs] at this; exact Bool.noConfusion this
          · intro hc
            rw [closed_not hl h0 h1 hi hb hs] at hc; exact Bool.noConfusion hc
        · have := ih (Nat.le_of_succ_le h) _ (inv_take hl h hi hb) (kept_take hl h hi hk hs)
          rw [← this]
          constructor
          · intro hx x hm; exact hx x (List.mem_cons_of_mem _ hm)
          · intro hx x hm
            rcases List.mem_cons.1 hm with rfl | hm
            · exact hs
            · exact hx x hm
  exact this L.length (Nat.le_refl _) s (inv_start L _ h0 h1) (kept_start L s s)

/-- what is left of a set when the threads of those are struck -/
def strike (L : List K) (u : Int) (xs : List (Fin L.length)) : Int := xs.foldl (fun u x => bits .andNot .i64 u (at' L x.val).frm) u
theorem strike_snoc (L : List K) (u : Int) (xs : List (Fin L.length)) (x : Fin L.length) : strike L u (xs ++ [x]) = bits .andNot .i64 (strike L u xs) (at' L x.val).frm := by simp [strike]

theorem strike_vis {L : List K} (hl : Lc.laceB L = true) (s : Int) (h0 : 0 ≤ s) (h1 : s < 1152921504606846976) (hc : closedTo (belows L L.length) s L.length = true) : strike L s (vis L s) = tipsTo (belows L L.length) s L.length := by
  have : ∀ (m : Nat) (h : m ≤ L.length) (r u : Int), Inv L s m r → Unseen L s m r u → strike L u (visF L m h r) = tipsTo (belows L L.length) s L.length := by
    intro m
    induction m with
    | zero => intro h r u hi hu; exact tips_end hl h0 h1 hc hi hu
    | succ m ih =>
      intro h r u hi hu
      cases hb : bit r m
      · rw [visF_no L m h r hb]; exact ih _ r u (inv_skip hi hb) (unseen_skip hu hb)
      · rw [visF_yes L m h r hb]; exact ih _ _ _ (inv_take hl h hi hb) (unseen_take hl h hi hu hb)
  exact this L.length (Nat.le_refl _) s s (inv_start L _ h0 h1) (unseen_start L s s h0 h1)

end Sg
end Go.Proofs.YtapfmadnkaimeaaDoor
