/-
  Plain mathematics of the lace, with no program in it: which knots of a set are wanted, how many hands they have, which knot may be tied, what is a lace; no condition beyond those written.
-/
import Derived.Test.YtapfmadnkaimeaaDoorMath
import Derived.Test.YtapfmadnkaimeaaDoorBase
import Derived.Test.YtapfmadnkaimeaaDoorKnotM
namespace Go.Proofs.YtapfmadnkaimeaaDoor
open Go.RowKit
set_option maxRecDepth 100000
namespace Lc
open Kn (K okK)
open Bit (bit withB)

def k0 : K := ⟨0, 0, 0, ⟨#[]⟩⟩
def at' (L : List K) (i : Nat) : K := L.getD i k0

theorem at_take (L : List K) (m i : Nat) (h : i < m) : at' (L.take m) i = at' L i := by
  unfold at'; simp [List.getD, h]
theorem at_mem (L : List K) (i : Nat) (h : i < L.length) : at' L i ∈ L := by
  unfold at'; simp [List.getD, List.getElem?_eq_getElem h]
theorem at_get (L : List K) (i : Nat) (h : i < L.length) : at' L i = L[i] := by
  unfold at'; simp [List.getD, List.getElem?_eq_getElem h]
theorem take_snoc (L : List K) (i : Nat) (h : i < L.length) : L.take (i + 1) = L.take i ++ [at' L i] := by
  rw [at_get L i h, List.take_succ_eq_append_getElem h]
theorem at_left (L M : List K) (i : Nat) (h : i < L.length) : at' (L ++ M) i = at' L i := by
  unfold at'; simp [List.getD, List.getElem?_append_left h]
theorem at_end (L : List K) (k : K) : at' (L ++ [k]) L.length = k := by
  unfold at'; simp [List.getD]

/-- of the numbers below n those of the set whose knot is wanted, as a set -/
def amongI (p : K → Bool) (L : List K) (s : Int) : Nat → Int
  | 0 => 0
  | n + 1 => if bit s n && p (at' L n) then withB (amongI p L s n) n else amongI p L s n

theorem among_bd (p : K → Bool) (L : List K) (s : Int) (n : Nat) (hn : n ≤ 60) : 0 ≤ amongI p L s n ∧ amongI p L s n < 1152921504606846976 := by
  induction n with
  | zero => simp [amongI]
  | succ n ih =>
    have := ih (by omega)
    unfold amongI
    split
    · exact Bit.withB_bd _ this.1 this.2 n (by omega)
    · exact this

theorem bit_zero (k : Nat) : bit 0 k = false := by simp [bit]

theorem bit_among (p : K → Bool) (L : List K) (s : Int) (n : Nat) (hn : n ≤ 60) (i : Nat) : bit (amongI p L s n) i = (decide (i < n) && (bit s i && p (at' L i))) := by
  induction n with
  | zero => simp [amongI, bit_zero]
  | succ n ih =>
    have hb := among_bd p L s n (by omega)
    have ih := ih (by omega)
    unfold amongI
    by_cases he : i = n
    · subst he
      cases hc : bit s i && p (at' L i)
      · simp [ih]
      · simp [Bit.bit_withB _ hb.1]
    · have : decide (i < n + 1) = decide (i < n) := decide_eq_decide.2 (by omega)
      split
      · rw [Bit.bit_withB _ hb.1, ih, this]; simp [he]
      · rw [ih, this]

theorem eq_of_bits (a b : Int) (ha : 0 ≤ a) (hb : 0 ≤ b) (h : ∀ i, bit a i = bit b i) : a = b := by
  have : a.toNat = b.toNat := by
    apply Nat.eq_of_testBit_eq
    intro i
    rw [← Bit.bit_testBit a ha, ← Bit.bit_testBit b hb]; exact h i
  omega

theorem bit_hi (s : Int) (n : Nat) (_h0 : 0 ≤ s) (h : s / 2 ^ n = 0) (i : Nat) (hi : n ≤ i) : bit s i = false := by
  have := Bit.bit_up s n (i - n) h
  rwa [show n + (i - n) = i by omega] at this

theorem div_of_bits (s : Int) (n : Nat) (h0 : 0 ≤ s) (h : ∀ i, n ≤ i → bit s i = false) : s / 2 ^ n = 0 := by
  have hp := Bit.pow_pos' n
  have hd : 0 ≤ s / 2 ^ n := Int.ediv_nonneg h0 (by omega)
  apply eq_of_bits _ 0 hd (by omega)
  intro i
  rw [bit_zero]
  have := h (n + i) (by omega)
  unfold bit at this ⊢
  rwa [Int.ediv_ediv_of_nonneg (Int.le_of_lt hp), ← Int.pow_add]

theorem bit_small (s : Int) (h1 : s < 1152921504606846976) (h0 : 0 ≤ s) (i : Nat) (hi : 60 ≤ i) : bit s i = false :=
  bit_hi s 60 h0 (Bit.div_big s h0 h1 60 (by omega)) i hi

/-- what is wanted of all is the set itself just where all of the set are there and wanted -/
theorem among_same (p : K → Bool) (L : List K) (s : Int) (hL : L.length ≤ 60) (h0 : 0 ≤ s) : amongI p L s L.length = s ↔ s / 2 ^ L.length = 0 ∧ ∀ i, i < L.length → bit s i = true → p (at' L i) = true := by
  have hb := among_bd p L s L.length hL
  constructor
  · intro h
    have hbit := fun i => bit_among p L s L.length hL i
    rw [h] at hbit
    refine ⟨div_of_bits s _ h0 fun i hi => ?_, fun i hi hs => ?_⟩
    · rw [hbit i]; simp; omega
    · have := hbit i
      rw [hs] at this
      simp at this
      exact this.2
  · rintro ⟨hd, hp⟩
    apply eq_of_bits _ _ hb.1 h0
    intro i
    rw [bit_among p L s _ hL]
    by_cases hi : i < L.length
    · cases hs : bit s i
      · simp
      · simp [hi, hp i hi hs]
    · rw [bit_hi s _ h0 hd i (by omega)]; simp

/-- those of the set that have this round, as a set -/
def roundS (L : List K) (s r : Int) : Int := amongI (fun k => decide (k.round = r)) L s L.length

/-- has the set a knot of this hand? -/
def hasHand (L : List K) (s h : Int) : Bool := (List.range L.length).any fun i => bit s i && decide ((at' L i).hand = h)
/-- how many hands those of the set have -/
def handsN (L : List K) (s : Int) : Int := (if hasHand L s 0 then 1 else 0) + (if hasHand L s 1 then 1 else 0) + (if hasHand L s 2 then 1 else 0) + (if hasHand L s 3 then 1 else 0)

theorem handsN_bd (L : List K) (s : Int) : 0 ≤ handsN L s ∧ handsN L s ≤ 4 := by
  unfold handsN
  constructor <;> (split <;> split <;> split <;> split <;> omega)

theorem hasHand_iff (L : List K) (s h : Int) : hasHand L s h = true ↔ ∃ i, i < L.length ∧ bit s i = true ∧ (at' L i).hand = h := by
  unfold hasHand
  rw [List.any_eq_true]
  constructor
  · rintro ⟨i, hi, hx⟩
    simp at hi hx
    exact ⟨i, hi, hx.1, hx.2⟩
  · rintro ⟨i, hi, h1, h2⟩
    exact ⟨i, by simpa using hi, by simp [h1, h2]⟩

/-- all numbers -/
def ALL : Int := 1152921504606846975
theorem bit_ALL (i : Nat) (hi : i < 60) : bit ALL i = true := by
  have : ∀ i : Nat, i < 60 → bit ALL i = true := by decide +kernel
  exact this i hi

/-- the numbers below n of the knots of a hand, as a set -/
def ofH (L : List K) (h : Int) (n : Nat) : Int := amongI (fun k => decide (k.hand = h)) L ALL n

theorem ofH_bd (L : List K) (h : Int) (n : Nat) (hn : n ≤ 60) : 0 ≤ ofH L h n ∧ ofH L h n < 1152921504606846976 := among_bd _ _ _ _ hn
theorem ofH_succ (L : List K) (h : Int) (n : Nat) (hn : n < 60) : ofH L h (n + 1) = if (at' L n).hand = h then withB (ofH L h n) n else ofH L h n := by
  unfold ofH
  show (if bit ALL n && decide ((at' L n).hand = h) then _ else _) = _
  rw [bit_ALL n hn]; simp

theorem i64_and (a b : Int) (h1 : 0 ≤ a) (h2 : a < 9223372036854775808) (h3 : 0 ≤ b) (h4 : b < 9223372036854775808) : bits .and .i64 a b = ((a.toNat &&& b.toNat : Nat) : Int) := by
  obtain ⟨A, rfl⟩ := Int.eq_ofNat_of_zero_le h1
  obtain ⟨B, rfl⟩ := Int.eq_ofNat_of_zero_le h3
  have hx : A &&& B ≤ A := Nat.and_le_left
  show IntKind.i64.wrap ((BitVec.ofInt 64 (A : Int) &&& BitVec.ofInt 64 (B : Int)).toNat : Int) = _
  have hA : A < 18446744073709551616 := by omega
  have hB : B < 18446744073709551616 := by omega
  rw [BitVec.toNat_and, ofInt_u64 A hA, ofInt_u64 B hB]
  simp [IntKind.wrap, IntKind.bits, IntKind.signed]
  omega

theorem and_zero_iff (a b : Int) (h1 : 0 ≤ a) (h2 : a < 9223372036854775808) (h3 : 0 ≤ b) (h4 : b < 9223372036854775808) : bits .and .i64 a b ≠ 0 ↔ ∃ i, bit a i = true ∧ bit b i = true := by
  rw [i64_and a b h1 h2 h3 h4]
  constructor
  · intro h
    apply Classical.byContradiction
    intro hn
    apply h
    have : a.toNat &&& b.toNat = 0 := by
      apply Nat.eq_of_testBit_eq
      intro i
      rw [Nat.testBit_and, Nat.zero_testBit]
      cases e1 : a.toNat.testBit i
      · rfl
      · cases e2 : b.toNat.testBit i
        · rfl
        · exact absurd ⟨i, by rw [Bit.bit_testBit a h1]; exact e1, by rw [Bit.bit_testBit b h3]; exact e2⟩ hn
    rw [this]; rfl
  · rintro ⟨i, h5, h6⟩ h
    rw [Bit.bit_testBit a h1] at h5
    rw [Bit.bit_testBit b h3] at h6
    have : (a.toNat &&& b.toNat).testBit i = true := by rw [Nat.testBit_and, h5, h6]; rfl
    have hz : a.toNat &&& b.toNat = 0 := by omega
    rw [hz, Nat.zero_testBit] at this
    exact Bool.noConfusion this

/-- how the model counts a hand -/
theorem of_and (L : List K) (h s : Int) (hL : L.length ≤ 60) (h0 : 0 ≤ s) (h1 : s < 9223372036854775808) : (bits .and .i64 (ofH L h L.length) s != 0) = hasHand L s h := by
  have hb := ofH_bd L h L.length hL
  rw [Bool.eq_iff_iff, bne_iff_ne, hasHand_iff, and_zero_iff _ _ hb.1 (by omega) h0 h1]
  constructor
  · rintro ⟨i, h2, h3⟩
    unfold ofH at h2
    rw [bit_among _ _ _ _ hL] at h2
    simp at h2
    exact ⟨i, h2.1, h3, h2.2.2⟩
  · rintro ⟨i, h2, h3, h4⟩
    refine ⟨i, ?_, h3⟩
    unfold ofH
    rw [bit_among _ _ _ _ hL, bit_ALL i (by omega)]
    simp [h2, h4]

/-- the hands of the knots of these numbers, as a set -/
def found (L : List K) (l : List Int) : Int := l.foldl (fun acc i => withB acc (at' L i.toNat).hand.toNat) 0

theorem found_snoc (L : List K) (l : List Int) (i : Int) : found L (l ++ [i]) = withB (found L l) (at' L i.toNat).hand.toNat := by
  unfold found; simp

def HandsOk (L : List K) : Prop := ∀ k ∈ L, 0 ≤ k.hand ∧ k.hand ≤ 3

theorem found_bd (L : List K) (l : List Int) (hh : HandsOk L) (hl : ∀ i ∈ l, 0 ≤ i ∧ i < (L.length : Int)) : 0 ≤ found L l ∧ found L l < 16 := by
  have key : ∀ acc : Int, 0 ≤ acc → acc < 16 → 0 ≤ l.foldl (fun acc i => withB acc (at' L i.toNat).hand.toNat) acc ∧ l.foldl (fun acc i => withB acc (at' L i.toNat).hand.toNat) acc < 16 := by
    induction l with
    | nil => intro acc h1 h2; exact ⟨h1, h2⟩
    | cons x l ih =>
      intro acc h1 h2
      have hx := hl x (by simp)
      have hk := hh _ (at_mem L x.toNat (by omega))
      have hw : 0 ≤ withB acc (at' L x.toNat).hand.toNat ∧ withB acc (at' L x.toNat).hand.toNat < 16 := by
        unfold Bit.withB
        have hp : 2 ^ (at' L x.toNat).hand.toNat < 2 ^ 4 := Nat.pow_lt_pow_right (by decide) (by omega)
        have hx : acc.toNat ||| 2 ^ (at' L x.toNat).hand.toNat < 2 ^ 4 := Nat.or_lt_two_pow (by omega) hp
        omega
      exact ih (fun i hi => hl i (by simp [hi])) _ hw.1 hw.2
  exact key 0 (by omega) (by omega)

theorem bit_found (L : List K) (l : List Int) (h : Nat) : bit (found L l) h = l.any (fun i => decide ((at' L i.toNat).hand.toNat = h)) := by
  have key : ∀ acc : Int, 0 ≤ acc → bit (l.foldl (fun acc i => withB acc (at' L i.toNat).hand.toNat) acc) h = (bit acc h || l.any (fun i => decide ((at' L i.toNat).hand.toNat = h))) := by
    induction l with
    | nil => intro acc _; simp
    | cons x l ih =>
      intro acc h1
      rw [List.foldl_cons, ih _ (by unfold Bit.withB; omega), Bit.bit_withB _ h1, List.any_cons]
      have : decide (h = (at' L x.toNat).hand.toNat) = decide ((at' L x.toNat).hand.toNat = h) := decide_eq_decide.2 eq_comm
      rw [this]
      cases bit acc h <;> cases decide ((at' L x.toNat).hand.toNat = h) <;> simp
  have := key 0 (by omega)
  rw [bit_zero] at this
  simpa [found] using this

theorem len4 (s : Int) (h0 : 0 ≤ s) (h1 : s < 16) : ((Bit.memTo s 60).length : Int) = (if bit s 0 then 1 else 0) + (if bit s 1 then 1 else 0) + (if bit s 2 then 1 else 0) + (if bit s 3 then 1 else 0) := by
  have h : s / 2 ^ 4 = 0 := by omega
  rw [show (60 : Nat) = 4 + 56 from rfl, Bit.memTo_up s 4 56 h]
  simp only [Bit.memTo, List.length_append, List.length_nil]
  cases bit s 0 <;> cases bit s 1 <;> cases bit s 2 <;> cases bit s 3 <;> rfl

theorem found_hands (L : List K) (s : Int) (hL : L.length ≤ 60) (hh : HandsOk L) (h0 : 0 ≤ s) (hd : s / 2 ^ L.length = 0) : ((Bit.memTo (found L (Bit.memTo s 60)) 60).length : Int) = handsN L s := by
  have hin : ∀ i ∈ Bit.memTo s 60, 0 ≤ i ∧ i < (L.length : Int) := by
    intro i hi
    obtain ⟨j, _, rfl, hj⟩ := (Bit.mem_memTo s 60 i).1 hi
    refine ⟨by omega, ?_⟩
    apply Classical.byContradiction
    intro hc
    rw [bit_hi s _ h0 hd j (by omega)] at hj
    exact Bool.noConfusion hj
  have hb := found_bd L _ hh hin
  have hbit : ∀ h : Nat, bit (found L (Bit.memTo s 60)) h = hasHand L s (h : Int) := by
    intro h
    rw [bit_found, Bool.eq_iff_iff, List.any_eq_true, hasHand_iff]
    constructor
    · rintro ⟨i, hi, hx⟩
      have hb := hin i hi
      obtain ⟨j, _, rfl, hj⟩ := (Bit.mem_memTo s 60 i).1 hi
      have hk := hh _ (at_mem L j (by omega))
      simp at hx
      exact ⟨j, by omega, hj, by omega⟩
    · rintro ⟨j, hj, h1, h2⟩
      refine ⟨(j : Int), (Bit.mem_memTo s 60 _).2 ⟨j, by omega, rfl, h1⟩, ?_⟩
      simp; omega
  rw [len4 _ hb.1 hb.2, hbit 0, hbit 1, hbit 2, hbit 3]
  rfl

/-- all of the set are of lesser rounds -/
def lesserB (L : List K) (f r : Int) (n : Nat) : Bool := (List.range n).all fun i => !bit f i || decide ((at' L i).round < r)

theorem lesser_iff (L : List K) (f r : Int) (n : Nat) : lesserB L f r n = true ↔ ∀ i, i < n → bit f i = true → (at' L i).round < r := by
  unfold lesserB
  rw [List.all_eq_true]
  constructor
  · intro h i hi hb
    have := h i (by simpa using hi)
    rw [hb] at this
    simpa using this
  · intro h i hi
    have hi' : i < n := by simpa using hi
    cases hb : bit f i
    · rfl
    · simpa using h i hi' hb

theorem lesser_take (L : List K) (f r : Int) (n m : Nat) (h : n ≤ m) : lesserB (L.take m) f r n = lesserB L f r n := by
  rw [Bool.eq_iff_iff, lesser_iff, lesser_iff]
  constructor
  · intro h1 i hi hb
    have := h1 i hi hb
    rwa [at_take L m i (by omega)] at this
  · intro h1 i hi hb
    rw [at_take L m i (by omega)]
    exact h1 i hi hb

/-- three hands at least of the round just before -/
def handsB (L : List K) (k : K) : Bool := decide (k.round = 0) || decide (3 ≤ handsN L (roundS L k.frm (k.round - 1)))

/-- may that knot stand behind these? -/
def canB (L : List K) (k : K) : Bool := okK k && (decide (k.frm / 2 ^ L.length = 0) && (lesserB L k.frm k.round L.length && handsB L k))

/-- is it a lace? -/
def laceB (L : List K) : Bool := decide (L.length ≤ 60) && (List.range L.length).all fun i => canB (L.take i) (at' L i)

theorem lace_iff (L : List K) : laceB L = true ↔ L.length ≤ 60 ∧ ∀ i, i < L.length → canB (L.take i) (at' L i) = true := by
  unfold laceB
  simp

theorem lace_no {L : List K} (i : Nat) (hi : i < L.length) (h : canB (L.take i) (at' L i) = false) : laceB L = false := by
  cases hl : laceB L
  · rfl
  · rw [((lace_iff L).1 hl).2 i hi] at h; exact Bool.noConfusion h

theorem lace_long {L : List K} (h : 60 < L.length) : laceB L = false := by
  cases hl : laceB L
  · rfl
  · have := ((lace_iff L).1 hl).1; omega

theorem can_ok {L : List K} {k : K} (h : canB L k = true) : okK k = true := by
  unfold canB at h
  rw [Bool.and_eq_true] at h
  exact h.1

theorem ok_hand {k : K} (h : okK k = true) : 0 ≤ k.hand ∧ k.hand ≤ 3 := by
  simp [okK, Kn.in3] at h
  exact h.1
theorem ok_frm {k : K} (h : okK k = true) : 0 ≤ k.frm ∧ k.frm < 1152921504606846976 := by
  simp [okK, Base.okB] at h
  exact h.2.2.1
theorem ok_round {k : K} (h : okK k = true) : 0 ≤ k.round ∧ k.round ≤ 19 := by
  simp [okK, Kn.in19] at h
  exact h.2.1
theorem ok_zero {k : K} (h : okK k = true) (hr : k.round = 0) : k.frm = 0 := by
  have : Kn.both0 k.round k.frm = true := by
    simp [okK] at h
    exact h.2.2.2.1
  unfold Kn.both0 at this
  rw [hr] at this
  simpa using this

/-- all ahead of the i-th are right -/
def UpTo (L : List K) (n : Nat) : Prop := ∀ i, i < n → canB (L.take i) (at' L i) = true

theorem upTo_hands {L : List K} {n : Nat} (h : UpTo L n) : HandsOk (L.take n) := by
  intro k hk
  obtain ⟨i, hi, rfl⟩ := List.getElem_of_mem hk
  have hi' : i < n ∧ i < L.length := by simp at hi; omega
  have := ok_hand (can_ok (h i hi'.1))
  rw [at_get L i hi'.2] at this
  simpa using this

theorem lace_upTo {L : List K} (h : laceB L = true) : UpTo L L.length := ((lace_iff L).1 h).2
theorem lace_of_upTo {L : List K} (hl : L.length ≤ 60) (h : UpTo L L.length) : laceB L = true := (lace_iff L).2 ⟨hl, h⟩
theorem lace_hands {L : List K} (h : laceB L = true) : HandsOk L := by
  have := upTo_hands (lace_upTo h)
  rwa [List.take_length] at this

/-- how the program says it -/
def bearsB (L : List K) (k : K) : Bool := decide (k.round = 0) || (decide (amongI (fun x => decide (x.round < k.round)) L k.frm L.length = k.frm) && decide (3 ≤ handsN L (roundS L k.frm (k.round - 1))))

theorem takes_can (L : List K) (k : K) (hL : L.length ≤ 60) : (okK k && bearsB L k) = canB L k := by
  unfold canB
  cases ho : okK k
  · rfl
  · have hf := ok_frm ho
    rw [Bool.true_and, Bool.true_and]
    by_cases hr : k.round = 0
    · have hz := ok_zero ho hr
      have h1 : lesserB L k.frm k.round L.length = true := (lesser_iff _ _ _ _).2 fun i _ hb => by rw [hz, bit_zero] at hb; exact Bool.noConfusion hb
      rw [h1]
      unfold bearsB handsB
      rw [hz]; simp [hr]
    · unfold bearsB handsB
      rw [Bool.eq_iff_iff]
      have hs := among_same (fun x => decide (x.round < k.round)) L k.frm hL hf.1
      have hl := lesser_iff L k.frm k.round L.length
      simp only [hr, decide_false, Bool.false_or, Bool.and_eq_true, decide_eq_true_eq]
      rw [hs, hl]
      simp only [decide_eq_true_eq]
      exact ⟨fun h => ⟨h.1.1, h.1.2, h.2⟩, fun h => ⟨⟨h.1, h.2.1⟩, h.2.2⟩⟩

end Lc
end Go.Proofs.YtapfmadnkaimeaaDoor
