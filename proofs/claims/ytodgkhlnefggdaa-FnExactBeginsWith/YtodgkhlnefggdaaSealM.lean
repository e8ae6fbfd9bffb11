/-
  Plain mathematics of sealing, for laces: below whom three hands nodded. No program in it.
-/
import Derived.Test.YtodgkhlnefggdaaNodM
namespace Go.Proofs.Ytodgkhlnefggdaa
open Go.RowKit
set_option maxRecDepth 100000
namespace Sl
open Kn (K okK)
open Bit (bit withB memTo)
open Lc (at' laceB setB handsN hasHand)
open Sg (isB bel)
open Nd (nodN nodS)

theorem and_bd (a b : Int) (h0 : 0 ≤ a) (h1 : a < 1152921504606846976) (h2 : 0 ≤ b) (h3 : b < 1152921504606846976) : 0 ≤ bits .and .i64 a b ∧ bits .and .i64 a b < 1152921504606846976 := by
  rw [Lc.i64_and a b h0 (by omega) h2 (by omega)]
  have := Nat.and_le_left (n := a.toNat) (m := b.toNat)
  omega
theorem bit_and (a b : Int) (h1 : 0 ≤ a) (h2 : a < 1152921504606846976) (h3 : 0 ≤ b) (h4 : b < 1152921504606846976) (i : Nat) : bit (bits .and .i64 a b) i = (bit a i && bit b i) := by
  rw [Lc.i64_and a b h1 (by omega) h3 (by omega), Bit.bit_testBit _ (by omega), Int.toNat_natCast, Nat.testBit_and, ← Bit.bit_testBit _ h1, ← Bit.bit_testBit _ h3]

/-- those below a that nod to b -/
def nodAt (L : List K) (a b : Nat) : Int := bits .and .i64 (bel L a) (nodS L b L.length)
/-- three hands of those below a nodded to b -/
def sealN (L : List K) (a b : Nat) : Bool := decide (3 ≤ handsN L (nodAt L a b))
/-- the document's Seals -/
def sealsB (L : List K) (a b : Int) : Bool := isB L a && (isB L b && sealN L a.toNat b.toNat)
/-- those of the first that seal b -/
def sealS (L : List K) (b : Nat) : Nat → Int
  | 0 => 0
  | n + 1 => if sealN L n b then withB (sealS L b n) n else sealS L b n
/-- the document's Sealers -/
def sealersI (L : List K) (s b : Int) : Int := if setB L s && isB L b then bits .and .i64 s (sealS L b.toNat L.length) else -1
/-- those of the first that a seals -/
def sealedS (L : List K) (a : Nat) : Nat → Int
  | 0 => 0
  | n + 1 => if sealN L a n then withB (sealedS L a n) n else sealedS L a n
/-- the document's SealedOf -/
def sealedI (L : List K) (a : Int) : Int := if isB L a then sealedS L a.toNat L.length else -1

theorem nodAt_bd {L : List K} (h60 : L.length ≤ 60) {a : Nat} (ha : a < 60) (b : Nat) : 0 ≤ nodAt L a b ∧ nodAt L a b < 1152921504606846976 :=
  and_bd _ _ (Sg.bel_bd L a ha).1 (Sg.bel_bd L a ha).2 (Nd.nodS_bd L b _ h60).1 (Nd.nodS_bd L b _ h60).2
theorem bit_nodAt {L : List K} (h60 : L.length ≤ 60) {a : Nat} (ha : a < 60) (b i : Nat) : bit (nodAt L a b) i = (bit (bel L a) i && (decide (i < L.length) && nodN L i b)) := by
  unfold nodAt
  rw [bit_and _ _ (Sg.bel_bd L a ha).1 (Sg.bel_bd L a ha).2 (Nd.nodS_bd L b _ h60).1 (Nd.nodS_bd L b _ h60).2, Nd.bit_nodS L b _ h60]

theorem sealS_bd (L : List K) (b n : Nat) (hn : n ≤ 60) : 0 ≤ sealS L b n ∧ sealS L b n < 1152921504606846976 := by
  induction n with
  | zero => exact ⟨Int.le_refl 0, show (0 : Int) < 1152921504606846976 by decide⟩
  | succ n ih =>
    have h := ih (by omega)
    unfold sealS; split
    · exact Bit.withB_bd _ h.1 h.2 n (by omega)
    · exact h
theorem bit_sealS (L : List K) (b n : Nat) (hn : n ≤ 60) (j : Nat) : bit (sealS L b n) j = (decide (j < n) && sealN L j b) := by
  induction n with
  | zero => show bit 0 j = _; rw [Lc.bit_zero]; simp
  | succ n ih =>
    have h := sealS_bd L b n (by omega)
    unfold sealS
    cases hd : sealN L n b
    · rw [if_neg (by simp), ih (by omega)]
      by_cases e : j = n
      · subst e; rw [hd]; simp
      · have : decide (j < n + 1) = decide (j < n) := by simp; omega
        rw [this]
    · rw [if_pos rfl, Bit.bit_withB _ h.1, ih (by omega)]
      by_cases e : j = n
      · subst e; rw [hd]; simp
      · have : decide (j < n + 1) = decide (j < n) := by simp; omega
        rw [this, decide_eq_false e, Bool.false_or]
theorem sealedS_bd (L : List K) (a n : Nat) (hn : n ≤ 60) : 0 ≤ sealedS L a n ∧ sealedS L a n < 1152921504606846976 := by
  induction n with
  | zero => exact ⟨Int.le_refl 0, show (0 : Int) < 1152921504606846976 by decide⟩
  | succ n ih =>
    have h := ih (by omega)
    unfold sealedS; split
    · exact Bit.withB_bd _ h.1 h.2 n (by omega)
    · exact h
theorem bit_sealedS (L : List K) (a n : Nat) (hn : n ≤ 60) (j : Nat) : bit (sealedS L a n) j = (decide (j < n) && sealN L a j) := by
  induction n with
  | zero => show bit 0 j = _; rw [Lc.bit_zero]; simp
  | succ n ih =>
    have h := sealedS_bd L a n (by omega)
    unfold sealedS
    cases hd : sealN L a n
    · rw [if_neg (by simp), ih (by omega)]
      by_cases e : j = n
      · subst e; rw [hd]; simp
      · have : decide (j < n + 1) = decide (j < n) := by simp; omega
        rw [this]
    · rw [if_pos rfl, Bit.bit_withB _ h.1, ih (by omega)]
      by_cases e : j = n
      · subst e; rw [hd]; simp
      · have : decide (j < n + 1) = decide (j < n) := by simp; omega
        rw [this, decide_eq_false e, Bool.false_or]

theorem has_mono {L : List K} {s t : Int} (h : ∀ i, i < L.length → bit s i = true → bit t i = true) (k : Int) (hs : hasHand L s k = true) : hasHand L t k = true := by
  obtain ⟨i, hi, hb, he⟩ := (Lc.hasHand_iff L s k).1 hs
  exact (Lc.hasHand_iff L t k).2 ⟨i, hi, h i hi hb, he⟩
theorem if_mono {a b : Bool} (h : a = true → b = true) : (if a = true then (1 : Int) else 0) ≤ if b = true then 1 else 0 := by
  cases a
  · rw [if_neg (by simp)]; split <;> omega
  · rw [if_pos rfl, if_pos (h rfl)]; exact Int.le_refl 1
theorem hands_mono {L : List K} {s t : Int} (h : ∀ i, i < L.length → bit s i = true → bit t i = true) : handsN L s ≤ handsN L t := by
  have q := fun k => if_mono (has_mono h k)
  have h0 := q 0
  have h1 := q 1
  have h2 := q 2
  have h3 := q 3
  unfold Lc.handsN
  omega
theorem hands_zero {L : List K} {s : Int} (h : ∀ i, i < L.length → bit s i = false) : handsN L s = 0 := by
  have q : ∀ k, hasHand L s k = false := fun k => by
    rw [Bool.eq_false_iff]
    intro hs
    obtain ⟨i, hi, hb, _⟩ := (Lc.hasHand_iff L s k).1 hs
    rw [h i hi] at hb; exact Bool.noConfusion hb
  unfold Lc.handsN
  rw [q 0, q 1, q 2, q 3]; rfl
/-- of two hands a set of three has one -/
theorem hands_two {L : List K} {s : Int} (h : 3 ≤ handsN L s) {x y : Int} (hx : x = 0 ∨ x = 1 ∨ x = 2 ∨ x = 3) (hy : y = 0 ∨ y = 1 ∨ y = 2 ∨ y = 3) (hne : x ≠ y) : hasHand L s x = true ∨ hasHand L s y = true := by
  unfold Lc.handsN at h
  rcases hx with rfl | rfl | rfl | rfl <;> rcases hy with rfl | rfl | rfl | rfl <;> first | exact absurd rfl hne | skip
  all_goals
    cases q0 : hasHand L s 0 <;> cases q1 : hasHand L s 1 <;> cases q2 : hasHand L s 2 <;> cases q3 : hasHand L s 3 <;> simp [q0, q1, q2, q3] at h ⊢
/-- two sets of three hands have a hand in common that is not the bad one -/
theorem hands_meet {L : List K} {s t : Int} (hs : 3 ≤ handsN L s) (ht : 3 ≤ handsN L t) (bad : Int) : ∃ k : Int, (k = 0 ∨ k = 1 ∨ k = 2 ∨ k = 3) ∧ k ≠ bad ∧ hasHand L s k = true ∧ hasHand L t k = true := by
  unfold Lc.handsN at hs ht
  by_cases b0 : bad = 0
  · subst b0
    by_cases c1 : hasHand L s 1 = true ∧ hasHand L t 1 = true
    · exact ⟨1, by simp, by decide, c1⟩
    · by_cases c2 : hasHand L s 2 = true ∧ hasHand L t 2 = true
      · exact ⟨2, by simp, by decide, c2⟩
      · refine ⟨3, by simp, by decide, ?_⟩
        cases q0 : hasHand L s 0 <;> cases q1 : hasHand L s 1 <;> cases q2 : hasHand L s 2 <;> cases q3 : hasHand L s 3 <;> simp [q0, q1, q2, q3] at hs c1 c2 ⊢
        all_goals
          cases r0 : hasHand L t 0 <;> cases r1 : hasHand L t 1 <;> cases r2 : hasHand L t 2 <;> cases r3 : hasHand L t 3 <;> simp [r0, r1, r2, r3] at ht c1 c2 ⊢
  · by_cases c0 : hasHand L s 0 = true ∧ hasHand L t 0 = true
    · exact ⟨0, by simp, fun e => b0 e.symm, c0⟩
    · by_cases b1 : bad = 1
      · subst b1
        by_cases c2 : hasHand L s 2 = true ∧ hasHand L t 2 = true
        · exact ⟨2, by simp, by decide, c2⟩
        · refine ⟨3, by simp, by decide, ?_⟩
          cases q0 : hasHand L s 0 <;> cases q1 : hasHand L s 1 <;> cases q2 : hasHand L s 2 <;> cases q3 : hasHand L s 3 <;> simp [q0, q1, q2, q3] at hs c0 c2 ⊢
          all_goals
            cases r0 : hasHand L t 0 <;> cases r1 : hasHand L t 1 <;> cases r2 : hasHand L t 2 <;> cases r3 : hasHand L t 3 <;> simp [r0, r1, r2, r3] at ht c0 c2 ⊢
      · by_cases c1 : hasHand L s 1 = true ∧ hasHand L t 1 = true
        · exact ⟨1, by simp, fun e => b1 e.symm, c1⟩
        · by_cases b2 : bad = 2
          · refine ⟨3, by simp, by omega, ?_⟩
            cases q0 : hasHand L s 0 <;> cases q1 : hasHand L s 1 <;> cases q2 : hasHand L s 2 <;> cases q3 : hasHand L s 3 <;> simp [q0, q1, q2, q3] at hs c0 c1 ⊢
            all_goals
              cases r0 : hasHand L t 0 <;> cases r1 : hasHand L t 1 <;> cases r2 : hasHand L t 2 <;> cases r3 : hasHand L t 3 <;> simp [r0, r1, r2, r3] at ht c0 c1 ⊢
          · refine ⟨2, by simp, fun e => b2 e.symm, ?_⟩
            cases q0 : hasHand L s 0 <;> cases q1 : hasHand L s 1 <;> cases q2 : hasHand L s 2 <;> cases q3 : hasHand L s 3 <;> simp [q0, q1, q2, q3] at hs c0 c1 ⊢
            all_goals
              cases r0 : hasHand L t 0 <;> cases r1 : hasHand L t 1 <;> cases r2 : hasHand L t 2 <;> cases r3 : hasHand L t 3 <;> simp [r0, r1, r2, r3] at ht c0 c1 ⊢

/-- what one seals it sees -/
theorem seal_sees {L : List K} (hl : laceB L = true) {a b : Nat} (ha : a < L.length) (hs : sealN L a b = true) : bit (bel L a) b = true := by
  have h60 := ((Lc.lace_iff L).1 hl).1
  unfold sealN at hs
  rw [decide_eq_true_eq] at hs
  apply Classical.byContradiction
  intro hn
  have hz : handsN L (nodAt L a b) = 0 := hands_zero fun i hi => by
    rw [Bool.eq_false_iff, bit_nodAt h60 (by omega)]
    intro h
    rw [Bool.and_eq_true, Bool.and_eq_true] at h
    have h2 := ((Nd.nod_iff h60 (by omega)).1 h.2.2).1
    apply hn
    exact (Sg.bel_reach hl a ha b).2 (Sg.Reach.trans ((Sg.bel_reach hl a ha i).1 h.1) ((Sg.bel_reach hl i hi b).1 h2))
  omega
theorem seal_le {L : List K} (hl : laceB L = true) {a b : Nat} (ha : a < L.length) (hs : sealN L a b = true) : b ≤ a := by
  have := seal_sees hl ha hs
  exact Sg.reach_le hl ha ((Sg.bel_reach hl a ha b).1 this)
/-- what sees one that seals, seals -/
theorem seal_up {L : List K} (hl : laceB L = true) {x a b : Nat} (hx : x < L.length) (hxa : bit (bel L x) a = true) (hs : sealN L a b = true) : sealN L x b = true := by
  have h60 := ((Lc.lace_iff L).1 hl).1
  have hax : a ≤ x := Sg.reach_le hl hx ((Sg.bel_reach hl x hx a).1 hxa)
  unfold sealN at hs ⊢
  rw [decide_eq_true_eq] at hs ⊢
  refine Int.le_trans hs (hands_mono fun i hi hb => ?_)
  rw [bit_nodAt h60 (by omega), Bool.and_eq_true] at hb ⊢
  exact ⟨(Sg.bel_reach hl x hx i).2 (Sg.Reach.trans ((Sg.bel_reach hl x hx a).1 hxa) ((Sg.bel_reach hl a (by omega) i).1 hb.1)), hb.2⟩

end Sl
end Go.Proofs.Ytodgkhlnefggdaa
