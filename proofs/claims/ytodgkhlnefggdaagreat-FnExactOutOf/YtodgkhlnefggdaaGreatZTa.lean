/-
  What the model answers for those that seal: for each knot of a lace the set of those below which three hands nodded to it; for lists of knots whose words have at most 2^40 bytes.
  Plain mathematics of sealing, for laces: below whom three hands nodded. No program in it.
  Plain mathematics of agreement: in a lace in which all hands but one see all they tied before, whoever is firm is sealed by all of the next wave, each wave has one firm leader at most, and the chains of two firm ones go the same way. No program in it.
  Plain mathematics of waves: three rounds each, and whose turn a wave is. No program in it.
  Plain mathematics of leaders, of those that are firm and of chains: what is firm is on the chain of every later leader that is firm. No program in it.
  Plain mathematics of order, of what is fresh and of tales: a tale begins with the tale of each of its chain, and the tales of two firm ones go the same way. No program in it.
  What the model's WaveOf, LeaderOf and Leads answer; for coins of at most a million numbers and lists of knots whose words have at most 2^40 bytes.
-/
import Derived.Test.YtodgkhlnefggdaaGreatNodM
import Derived.Test.YtodgkhlnefggdaaGreatSightT
import Derived.Test.YtodgkhlnefggdaaGreatRoomC
import Derived.Test.YtodgkhlnefggdaaGreatMemb
import Derived.Test.YtodgkhlnefggdaaGreatLaceA
import Derived.Test.YtodgkhlnefggdaaGreatDoubS
import Derived.Test.YtodgkhlnefggdaaGreatNodS
namespace Go.Proofs.YtodgkhlnefggdaaGreat
open Go.RowKit
set_option maxRecDepth 100000
namespace Sl
open Kn (K okK)
open Bit (bit withB memTo)
open Lc (at' laceB setB handsN hasHand)
open Sg (isB bel)
open Nd (nodN nodS)

theorem and_bd (a b : Int) (h0 : 0 ≤ a) (h1 : a < 1152921504606846976) (h2 : 0 ≤ b) (h3 : b < 1152921504606846976) : 0 ≤ bits .and .i64 a b ∧ bits .and .i64 a b < 1152921504606846976 := by
  rw [Lc.i64_and a b h0 (by omega) h2 (by omega)]
  have := Nat.and_le_left (n := a.toNat) (m := b.toNat)
  omega
theorem bit_and (a b : Int) (h1 : 0 ≤ a) (h2 : a < 1152921504606846976) (h3 : 0 ≤ b) (h4 : b < 1152921504606846976) (i : Nat) : bit (bits .and .i64 a b) i = (bit a i && bit b i) := by
  rw [Lc.i64_and a b h1 (by omega) h3 (by omega), Bit.bit_testBit _ (by omega), Int.toNat_natCast, Nat.testBit_and, ← Bit.bit_testBit _ h1, ← Bit.bit_testBit _ h3]

/-- those below a that nod to b -/
def nodAt (L : List K) (a b : Nat) : Int := bits .and .i64 (bel L a) (nodS L b L.length)
/-- three hands of those below a nodded to b -/
def sealN (L : List K) (a b : Nat) : Bool := decide (3 ≤ handsN L (nodAt L a b))
/-- the document's Seals -/
def sealsB (L : List K) (a b : Int) : Bool := isB L a && (isB L b && sealN L a.toNat b.toNat)
/-- those of the first that seal b -/
def sealS (L : List K) (b : Nat) : Nat → Int
  | 0 => 0
  | n + 1 => if sealN L n b then withB (sealS L b n) n else sealS L b n
/-- the document's Sealers -/
def sealersI (L : List K) (s b : Int) : Int := if setB L s && isB L b then bits .and .i64 s (sealS L b.toNat L.length) else -1
/-- those of the first that a seals -/
def sealedS (L : List K) (a : Nat) : Nat → Int
  | 0 => 0
  | n + 1 => if sealN L a n then withB (sealedS L a n) n else sealedS L a n
/-- the document's SealedOf -/
def sealedI (L : List K) (a : Int) : Int := if isB L a then sealedS L a.toNat L.length else -1

theorem nodAt_bd {L : List K} (h60 : L.length ≤ 60) {a : Nat} (ha : a < 60) (b : Nat) : 0 ≤ nodAt L a b ∧ nodAt L a b < 1152921504606846976 :=
  and_bd _ _ (Sg.bel_bd L a ha).1 (Sg.bel_bd L a ha).2 (Nd.nodS_bd L b _ h60).1 (Nd.nodS_bd L b _ h60).2
theorem bit_nodAt {L : List K} (h60 : L.length ≤ 60) {a : Nat} (ha : a < 60) (b i : Nat) : bit (nodAt L a b) i = (bit (bel L a) i && (decide (i < L.length) && nodN L i b)) := by
  unfold nodAt
  rw [bit_and _ _ (Sg.bel_bd L a ha).1 (Sg.bel_bd L a ha).2 (Nd.nodS_bd L b _ h60).1 (Nd.nodS_bd L b _ h60).2, Nd.bit_nodS L b _ h60]

theorem sealS_bd (L : List K) (b n : Nat) (hn : n ≤ 60) : 0 ≤ sealS L b n ∧ sealS L b n < 1152921504606846976 := by
  induction n with
  | zero => exact ⟨Int.le_refl 0, show (0 : Int) < 1152921504606846976 by decide⟩
  | succ n ih =>
    have h := ih (by omega)
    unfold sealS; split
    · exact Bit.withB_bd _ h.1 h.2 n (by omega)
    · exact h
theorem bit_sealS (L : List K) (b n : Nat) (hn : n ≤ 60) (j : Nat) : bit (sealS L b n) j = (decide (j < n) && sealN L j b) := by
  induction n with
  | zero => show bit 0 j = _; rw [Lc.bit_zero]; simp
  | succ n ih =>
    have h := sealS_bd L b n (by omega)
    unfold sealS
    cases hd : sealN L n b
    · rw [if_neg (by simp), ih (by omega)]
      by_cases e : j = n
      · subst e; rw [hd]; simp
      · have : decide (j < n + 1) = decide (j < n) := by simp; omega
        rw [this]
    · rw [if_pos rfl, Bit.bit_withB _ h.1, ih (by omega)]
      by_cases e : j = n
      · subst e; rw [hd]; simp
      · have : decide (j < n + 1) = decide (j < n) := by simp; omega
        rw [this, decide_eq_false e, Bool.false_or]
theorem sealedS_bd (L : List K) (a n : Nat) (hn : n ≤ 60) : 0 ≤ sealedS L a n ∧ sealedS L a n < 1152921504606846976 := by
  induction n with
  | zero => exact ⟨Int.le_refl 0, show (0 : Int) < 1152921504606846976 by decide⟩
  | succ n ih =>
    have h := ih (by omega)
    unfold sealedS; split
    · exact Bit.withB_bd _ h.1 h.2 n (by omega)
    · exact h
theorem bit_sealedS (L : List K) (a n : Nat) (hn : n ≤ 60) (j : Nat) : bit (sealedS L a n) j = (decide (j < n) && sealN L a j) := by
  induction n with
  | zero => show bit 0 j = _; rw [Lc.bit_zero]; simp
  | succ n ih =>
    have h := sealedS_bd L a n (by omega)
    unfold sealedS
    cases hd : sealN L a n
    · rw [if_neg (by simp), ih (by omega)]
      by_cases e : j = n
      · subst e; rw [hd]; simp
      · have : decide (j < n + 1) = decide (j < n) := by simp; omega
        rw [this]
    · rw [if_pos rfl, Bit.bit_withB _ h.1, ih (by omega)]
      by_cases e : j = n
      · subst e; rw [hd]; simp
      · have : decide (j < n + 1) = decide (j < n) := by simp; omega
        rw [this, decide_eq_false e, Bool.false_or]

theorem has_mono {L : List K} {s t : Int} (h : ∀ i, i < L.length → bit s i = true → bit t i = true) (k : Int) (hs : hasHand L s k = true) : hasHand L t k = true := by
  obtain ⟨i, hi, hb, he⟩ := (Lc.hasHand_iff L s k).1 hs
  exact (Lc.hasHand_iff L t k).2 ⟨i, hi, h i hi hb, he⟩
theorem if_mono {a b : Bool} (h : a = true → b = true) : (if a = true then (1 : Int) else 0) ≤ if b = true then 1 else 0 := by
  cases a
  · rw [if_neg (by simp)]; split <;> omega
  · rw [if_pos rfl, if_pos (h rfl)]; exact Int.le_refl 1
theorem hands_mono {L : List K} {s t : Int} (h : ∀ i, i < L.length → bit s i = true → bit t i = true) : handsN L s ≤ handsN L t := by
  have q := fun k => if_mono (has_mono h k)
  have h0 := q 0
  have h1 := q 1
  have h2 := q 2
  have h3 := q 3
  unfold Lc.handsN
  omega
theorem hands_zero {L : List K} {s : Int} (h : ∀ i, i < L.length → bit s i = false) : handsN L s = 0 := by
  have q : ∀ k, hasHand L s k = false := fun k => by
    rw [Bool.eq_false_iff]
    intro hs
    obtain ⟨i, hi, hb, _⟩ := (Lc.hasHand_iff L s k).1 hs
    rw [h i hi] at hb; exact Bool.noConfusion hb
  unfold Lc.handsN
  rw [q 0, q 1, q 2, q 3]; rfl
/-- of two hands a set of three has one -/
theorem hands_two {L : List K} {s : Int} (h : 3 ≤ handsN L s) {x y : Int} (hx : x = 0 ∨ x = 1 ∨ x = 2 ∨ x = 3) (hy : y = 0 ∨ y = 1 ∨ y = 2 ∨ y = 3) (hne : x ≠ y) : hasHand L s x = true ∨ hasHand L s y = true := by
  unfold Lc.handsN at h
  rcases hx with rfl | rfl | rfl | rfl <;> rcases hy with rfl | rfl | rfl | rfl <;> first | exact absurd rfl hne | skip
  all_goals
    cases q0 : hasHand L s 0 <;> cases q1 : hasHand L s 1 <;> cases q2 : hasHand L s 2 <;> cases q3 : hasHand L s 3 <;> simp [q0, q1, q2, q3] at h ⊢
/-- two sets of three hands have a hand in common that is not the bad one -/
theorem hands_meet {L : List K} {s t : Int} (hs : 3 ≤ handsN L s) (ht : 3 ≤ handsN L t) (bad : Int) : ∃ k : Int, (k = 0 ∨ k = 1 ∨ k = 2 ∨ k = 3) ∧ k ≠ bad ∧ hasHand L s k = true ∧ hasHand L t k = true := by
  unfold Lc.handsN at hs ht
  by_cases b0 : bad = 0
  · subst b0
    by_cases c1 : hasHand L s 1 = true ∧ hasHand L t 1 = true
    · exact ⟨1, by simp, by decide, c1⟩
    · by_cases c2 : hasHand L s 2 = true ∧ hasHand L t 2 = true
      · exact ⟨2, by simp, by decide, c2⟩
      · refine ⟨3, by simp, by decide, ?_⟩
        cases q0 : hasHand L s 0 <;> cases q1 : hasHand L s 1 <;> cases q2 : hasHand L s 2 <;> cases q3 : hasHand L s 3 <;> simp [q0, q1, q2, q3] at hs c1 c2 ⊢
        all_goals
          cases r0 : hasHand L t 0 <;> cases r1 : hasHand L t 1 <;> cases r2 : hasHand L t 2 <;> cases r3 : hasHand L t 3 <;> simp [r0, r1, r2, r3] at ht c1 c2 ⊢
  · by_cases c0 : hasHand L s 0 = true ∧ hasHand L t 0 = true
    · exact ⟨0, by simp, fun e => b0 e.symm, c0⟩
    · by_cases b1 : bad = 1
      · subst b1
        by_cases c2 : hasHand L s 2 = true ∧ hasHand L t 2 = true
        · exact ⟨2, by simp, by decide, c2⟩
        · refine ⟨3, by simp, by decide, ?_⟩
          cases q0 : hasHand L s 0 <;> cases q1 : hasHand L s 1 <;> cases q2 : hasHand L s 2 <;> cases q3 : hasHand L s 3 <;> simp [q0, q1, q2, q3] at hs c0 c2 ⊢
          all_goals
            cases r0 : hasHand L t 0 <;> cases r1 : hasHand L t 1 <;> cases r2 : hasHand L t 2 <;> cases r3 : hasHand L t 3 <;> simp [r0, r1, r2, r3] at ht c0 c2 ⊢
      · by_cases c1 : hasHand L s 1 = true ∧ hasHand L t 1 = true
        · exact ⟨1, by simp, fun e => b1 e.symm, c1⟩
        · by_cases b2 : bad = 2
          · refine ⟨3, by simp, by omega, ?_⟩
            cases q0 : hasHand L s 0 <;> cases q1 : hasHand L s 1 <;> cases q2 : hasHand L s 2 <;> cases q3 : hasHand L s 3 <;> simp [q0, q1, q2, q3] at hs c0 c1 ⊢
            all_goals
              cases r0 : hasHand L t 0 <;> cases r1 : hasHand L t 1 <;> cases r2 : hasHand L t 2 <;> cases r3 : hasHand L t 3 <;> simp [r0, r1, r2, r3] at ht c0 c1 ⊢
          · refine ⟨2, by simp, fun e => b2 e.symm, ?_⟩
            cases q0 : hasHand L s 0 <;> cases q1 : hasHand L s 1 <;> cases q2 : hasHand L s 2 <;> cases q3 : hasHand L s 3 <;> simp [q0, q1, q2, q3] at hs c0 c1 ⊢
            all_goals
              cases r0 : hasHand L t 0 <;> cases r1 : hasHand L t 1 <;> cases r2 : hasHand L t 2 <;> cases r3 : hasHand L t 3 <;> simp [r0, r1, r2, r3] at ht c0 c1 ⊢

/-- what one seals it sees -/
theorem seal_sees {L : List K} (hl : laceB L = true) {a b : Nat} (ha : a < L.length) (hs : sealN L a b = true) : bit (bel L a) b = true := by
  have h60 := ((Lc.lace_iff L).1 hl).1
  unfold sealN at hs
  rw [decide_eq_true_eq] at hs
  apply Classical.byContradiction
  intro hn
  have hz : handsN L (nodAt L a b) = 0 := hands_zero fun i hi => by
    rw [Bool.eq_false_iff, bit_nodAt h60 (by omega)]
    intro h
    rw [Bool.and_eq_true, Bool.and_eq_true] at h
    have h2 := ((Nd.nod_iff h60 (by omega)).1 h.2.2).1
    apply hn
    exact (Sg.bel_reach hl a ha b).2 (Sg.Reach.trans ((Sg.bel_reach hl a ha i).1 h.1) ((Sg.bel_reach hl i hi b).1 h2))
  omega
theorem seal_le {L : List K} (hl : laceB L = true) {a b : Nat} (ha : a < L.length) (hs : sealN L a b = true) : b ≤ a := by
  have := seal_sees hl ha hs
  exact Sg.reach_le hl ha ((Sg.bel_reach hl a ha b).1 this)
/-- what sees one that seals, seals -/
theorem seal_up {L : List K} (hl : laceB L = true) {x a b : Nat} (hx : x < L.length) (hxa : bit (bel L x) a = true) (hs : sealN L a b = true) : sealN L x b = true := by
  have h60 := ((Lc.lace_iff L).1 hl).1
  have hax : a ≤ x := Sg.reach_le hl hx ((Sg.bel_reach hl x hx a).1 hxa)
  unfold sealN at hs ⊢
  rw [decide_eq_true_eq] at hs ⊢
  refine Int.le_trans hs (hands_mono fun i hi hb => ?_)
  rw [bit_nodAt h60 (by omega), Bool.and_eq_true] at hb ⊢
  exact ⟨(Sg.bel_reach hl x hx i).2 (Sg.Reach.trans ((Sg.bel_reach hl x hx a).1 hxa) ((Sg.bel_reach hl a (by omega) i).1 hb.1)), hb.2⟩

end Sl
end Go.Proofs.YtodgkhlnefggdaaGreat

namespace Go.Proofs.YtodgkhlnefggdaaGreat
open Go.RowKit
set_option maxRecDepth 100000
namespace Ag
open Kn (K okK)
open Bit (bit withB memTo)
open Lc (at' laceB setB handsN hasHand roundS)
open Sg (isB bel)
open Db (dblN)
open Nd (nodN nodS)
open Sl (sealN sealS nodAt)

theorem thread_round {L : List K} (hl : laceB L = true) {i m : Nat} (hi : i < L.length) (hb : bit (at' L i).frm m = true) : (at' L m).round < (at' L i).round := by
  have hm := Sg.thread_lt hl hi hb
  have hc := Lc.lace_upTo hl i hi
  simp only [Lc.canB, Bool.and_eq_true] at hc
  have hle := (Lc.lesser_iff (L.take i) (at' L i).frm (at' L i).round (L.take i).length).1 hc.2.2.1 m (by simp; omega) hb
  rwa [Lc.at_take L i m hm] at hle
theorem reach_round {L : List K} (hl : laceB L = true) {i j : Nat} (hi : i < L.length) (h : Sg.Reach L i j) : j = i ∨ (at' L j).round < (at' L i).round := by
  induction h with
  | self => exact .inl rfl
  | @step i m j hb hr ih =>
    have hm := Sg.thread_lt hl hi hb
    have hr1 := thread_round hl hi hb
    rcases ih (by omega) with rfl | h
    · exact .inr hr1
    · exact .inr (by omega)
theorem sees_round {L : List K} (hl : laceB L = true) {i j : Nat} (hi : i < L.length) (h : bit (bel L i) j = true) (hne : j ≠ i) : (at' L j).round < (at' L i).round := by
  rcases reach_round hl hi ((Sg.bel_reach hl i hi j).1 h) with e | e
  · exact absurd e hne
  · exact e
theorem sees_le {L : List K} (hl : laceB L = true) {i j : Nat} (hi : i < L.length) (h : bit (bel L i) j = true) : j ≤ i := Sg.reach_le hl hi ((Sg.bel_reach hl i hi j).1 h)
theorem sees_self {L : List K} (hl : laceB L = true) {i : Nat} (hi : i < L.length) : bit (bel L i) i = true := Db.bel_self hl hi
theorem sees_trans {L : List K} (hl : laceB L = true) {i j m : Nat} (hi : i < L.length) (h : bit (bel L i) j = true) (h2 : bit (bel L j) m = true) : bit (bel L i) m = true := by
  have hj := sees_le hl hi h
  exact (Sg.bel_reach hl i hi m).2 (Sg.Reach.trans ((Sg.bel_reach hl i hi j).1 h) ((Sg.bel_reach hl j (by omega) m).1 h2))
theorem frm_sees {L : List K} (hl : laceB L = true) {i m : Nat} (hi : i < L.length) (hb : bit (at' L i).frm m = true) : bit (bel L i) m = true :=
  (Sg.bel_reach hl i hi m).2 (.step hb (.self _))

theorem bit_round (L : List K) (s r : Int) (h60 : L.length ≤ 60) (i : Nat) : bit (roundS L s r) i = (decide (i < L.length) && (bit s i && decide ((at' L i).round = r))) := Lc.bit_among _ L s L.length h60 i

/-- who hangs on something hangs on three hands of the round before -/
theorem three_before {L : List K} (hl : laceB L = true) {i : Nat} (hi : i < L.length) (hr : 0 < (at' L i).round) : 3 ≤ handsN L (roundS L (at' L i).frm ((at' L i).round - 1)) := by
  have h60 := ((Lc.lace_iff L).1 hl).1
  have hc := Lc.lace_upTo hl i hi
  simp only [Lc.canB, Bool.and_eq_true] at hc
  have hh := hc.2.2.2
  unfold Lc.handsB at hh
  rw [Bool.or_eq_true, decide_eq_true_eq, decide_eq_true_eq] at hh
  rcases hh with hh | hh
  · omega
  · have hlt : (L.take i).length = i := by simp; omega
    refine Int.le_trans hh ?_
    have key : ∀ h : Int, hasHand (L.take i) (roundS (L.take i) (at' L i).frm ((at' L i).round - 1)) h = true → hasHand L (roundS L (at' L i).frm ((at' L i).round - 1)) h = true := fun h q => by
      obtain ⟨j, hj, hb, he⟩ := (Lc.hasHand_iff _ _ _).1 q
      have hji : j < i := by omega
      rw [Lc.at_take L i j hji] at he
      rw [bit_round _ _ _ (by omega)] at hb
      simp only [Bool.and_eq_true, decide_eq_true_eq] at hb
      rw [Lc.at_take L i j hji] at hb
      refine (Lc.hasHand_iff _ _ _).2 ⟨j, by omega, ?_, he⟩
      rw [bit_round _ _ _ h60]
      simp only [Bool.and_eq_true, decide_eq_true_eq]
      exact ⟨by omega, hb.2.1, hb.2.2⟩
    have q := fun k => Sl.if_mono (key k)
    have h0 := q 0
    have h1 := q 1
    have h2 := q 2
    have h3 := q 3
    unfold Lc.handsN
    omega

theorem hands_some {L : List K} {s : Int} (h : 3 ≤ handsN L s) : ∃ i, i < L.length ∧ bit s i = true := by
  apply Classical.byContradiction
  intro hn
  have := Sl.hands_zero (L := L) (s := s) fun i hi => by
    rw [Bool.eq_false_iff]; intro hb; exact hn ⟨i, hi, hb⟩
  omega

/-- one sees three hands of each round below its own -/
theorem three_below {L : List K} (hl : laceB L = true) (q : Int) (hq : 0 ≤ q) : ∀ i, i < L.length → q < (at' L i).round → 3 ≤ handsN L (roundS L (bel L i) q) := by
  have h60 := ((Lc.lace_iff L).1 hl).1
  intro i
  induction i using Nat.strongRecOn with
  | _ i ih =>
    intro hi hr
    have h3 := three_before hl hi (by omega)
    by_cases e : (at' L i).round - 1 = q
    · rw [e] at h3
      refine Int.le_trans h3 (Sl.hands_mono fun j hj hb => ?_)
      rw [bit_round _ _ _ h60] at hb ⊢
      simp only [Bool.and_eq_true] at hb ⊢
      exact ⟨hb.1, frm_sees hl hi hb.2.1, hb.2.2⟩
    · obtain ⟨m, hm, hb⟩ := hands_some h3
      rw [bit_round _ _ _ h60] at hb
      simp only [Bool.and_eq_true, decide_eq_true_eq] at hb
      have hlt := Sg.thread_lt hl hi hb.2.1
      refine Int.le_trans (ih m hlt (by omega) (by omega)) (Sl.hands_mono fun j hj hj2 => ?_)
      rw [bit_round _ _ _ h60] at hj2 ⊢
      simp only [Bool.and_eq_true] at hj2 ⊢
      exact ⟨hj2.1, sees_trans hl hi (frm_sees hl hi hb.2.1) hj2.2.1, hj2.2.2⟩

/-- a lace in which every hand but one sees all it tied before -/
structure Good (L : List K) (bad : Int) : Prop where
  lace : laceB L = true
  one : ∀ i j, i < L.length → j < L.length → (at' L i).hand = (at' L j).hand → (at' L i).hand ≠ bad → bit (bel L i) j = true ∨ bit (bel L j) i = true

theorem Good.len {L : List K} {bad : Int} (h : Good L bad) : L.length ≤ 60 := ((Lc.lace_iff L).1 h.lace).1

/-- a hand that is not bad ties once a round -/
theorem once {L : List K} {bad : Int} (hG : Ag.Good L bad) {i j : Nat} (hi : i < L.length) (hj : j < L.length) (hh : (at' L i).hand = (at' L j).hand) (hb : (at' L i).hand ≠ bad) (hr : (at' L i).round = (at' L j).round) : i = j := by
  rcases hG.one i j hi hj hh hb with h | h
  · apply Classical.byContradiction
    intro hne
    have := sees_round hG.lace hi h (fun e => hne e.symm)
    omega
  · apply Classical.byContradiction
    intro hne
    have := sees_round hG.lace hj h hne
    omega

theorem hand_bd {L : List K} (hl : laceB L = true) {i : Nat} (hi : i < L.length) : 0 ≤ (at' L i).hand ∧ (at' L i).hand ≤ 3 := Lc.lace_hands hl _ (Lc.at_mem L i hi)
theorem round_bd {L : List K} (hl : laceB L = true) {i : Nat} (hi : i < L.length) : 0 ≤ (at' L i).round ∧ (at' L i).round ≤ 19 := Lc.ok_round (Lc.can_ok (Lc.lace_upTo hl i hi))

/-- where three hands of a round seal it, all that come later seal it -/
theorem seal_spread {L : List K} {bad : Int} (hG : Ag.Good L bad) {f : Nat} {t q : Int} (hq : 0 ≤ q) (h3 : 3 ≤ handsN L (roundS L t q)) (ht : ∀ i, i < L.length → bit t i = true → sealN L i f = true) {k : Nat} (hk : k < L.length) (hr : q < (at' L k).round) : sealN L k f = true := by
  have h60 := hG.len
  have h3k := three_below hG.lace q hq k hk hr
  obtain ⟨h, _, hne, hs, hs2⟩ := Sl.hands_meet h3 h3k bad
  obtain ⟨i, hi, hbi, hhi⟩ := (Lc.hasHand_iff _ _ _).1 hs
  obtain ⟨j, hj, hbj, hhj⟩ := (Lc.hasHand_iff _ _ _).1 hs2
  rw [bit_round _ _ _ h60] at hbi hbj
  simp only [Bool.and_eq_true, decide_eq_true_eq] at hbi hbj
  have e : i = j := once hG hi hj (by rw [hhi, hhj]) (by rw [hhi]; exact hne) (by rw [hbi.2.2, hbj.2.2])
  subst e
  exact Sl.seal_up hG.lace hk hbj.2.1 (ht i hi hbi.2.1)

/-- nobody seals two that are doubled -/
theorem seal_one {L : List K} {bad : Int} (hG : Ag.Good L bad) {x f g : Nat} (hx : x < L.length) (hf : f < L.length) (hg : g < L.length) (hd : dblN L f g = true) (h1 : sealN L x f = true) (h2 : sealN L x g = true) : False := by
  have h60 := hG.len
  unfold Sl.sealN at h1 h2
  rw [decide_eq_true_eq] at h1 h2
  obtain ⟨h, _, hne, hs, hs2⟩ := Sl.hands_meet h1 h2 bad
  obtain ⟨i, hi, hbi, hhi⟩ := (Lc.hasHand_iff _ _ _).1 hs
  obtain ⟨j, hj, hbj, hhj⟩ := (Lc.hasHand_iff _ _ _).1 hs2
  rw [Sl.bit_nodAt h60 (by omega)] at hbi hbj
  simp only [Bool.and_eq_true, decide_eq_true_eq] at hbi hbj
  have ni := (Nd.nod_iff h60 (by omega)).1 hbi.2.2
  have nj := (Nd.nod_iff h60 (by omega)).1 hbj.2.2
  have hd' : dblN L g f = true := by
    unfold Db.dblN at hd ⊢
    simp only [Bool.and_eq_true, decide_eq_true_eq, Bool.not_eq_true'] at hd ⊢
    exact ⟨hd.1.symm, hd.2.2, hd.2.1⟩
  rcases hG.one i j hi hj (by rw [hhi, hhj]) (by rw [hhi]; exact hne) with h | h
  · have := ni.2 g hg (sees_trans hG.lace hi h nj.1)
    rw [hd] at this; exact Bool.noConfusion this
  · have := nj.2 f hf (sees_trans hG.lace hj h ni.1)
    rw [hd'] at this; exact Bool.noConfusion this

/-- two of one hand and one round are doubled -/
theorem dbl_round {L : List K} (hl : laceB L = true) {f g : Nat} (hf : f < L.length) (hg : g < L.length) (hh : (at' L f).hand = (at' L g).hand) (hr : (at' L f).round = (at' L g).round) (hne : f ≠ g) : dblN L f g = true := by
  unfold Db.dblN
  simp only [Bool.and_eq_true, decide_eq_true_eq, Bool.not_eq_true']
  refine ⟨hh, ?_, ?_⟩
  · rw [Bool.eq_false_iff]; intro h
    have := sees_round hl hf h (fun e => hne e.symm); omega
  · rw [Bool.eq_false_iff]; intro h
    have := sees_round hl hg h hne; omega

/-- of one hand and round, sealed by one: the same -/
theorem seal_same {L : List K} {bad : Int} (hG : Ag.Good L bad) {x f g : Nat} (hx : x < L.length) (hf : f < L.length) (hg : g < L.length) (hh : (at' L f).hand = (at' L g).hand) (hr : (at' L f).round = (at' L g).round) (h1 : sealN L x f = true) (h2 : sealN L x g = true) : f = g := by
  apply Classical.byContradiction
  intro hne
  exact seal_one hG hx hf hg (dbl_round hG.lace hf hg hh hr hne) h1 h2

end Ag
end Go.Proofs.YtodgkhlnefggdaaGreat

namespace Go.Proofs.YtodgkhlnefggdaaGreat
open Go.RowKit
set_option maxRecDepth 100000
namespace Ch
open Kn (K okK)
open Lc (at' laceB)
open Sg (isB)
open Rm (coinsB)

/-- whose turn a wave is -/
def leadI (C : List Int) (wave : Int) : Int := if wave < (C.length : Int) then C.getD wave.toNat 0 else wave % 4
/-- does a knot lead? -/
def leadK (C : List Int) (k : K) : Bool := decide (k.round % 3 = 0) && decide (k.hand = leadI C (k.round / 3))
/-- the document's WaveOf -/
def waveI (r : Int) : Int := if Kn.in19 r then r / 3 else -1
def in6 (x : Int) : Bool := decide (0 ≤ x) && decide (x ≤ 6)
/-- the document's LeaderOf -/
def leaderI (C : List Int) (wave : Int) : Int := if coinsB C && in6 wave then leadI C wave else -1
/-- the document's Leads -/
def leadsB (L : List K) (C : List Int) (k : Int) : Bool := isB L k && (coinsB C && leadK C (at' L k.toNat))

theorem lead_iff (C : List Int) (k : K) : leadK C k = true ↔ k.round % 3 = 0 ∧ k.hand = leadI C (k.round / 3) := by
  unfold leadK; rw [Bool.and_eq_true, decide_eq_true_eq, decide_eq_true_eq]
theorem lead_hand {C : List Int} {x y : K} (hx : leadK C x = true) (hy : leadK C y = true) (hr : x.round = y.round) : x.hand = y.hand := by
  rw [((lead_iff C x).1 hx).2, ((lead_iff C y).1 hy).2, hr]
theorem lead_gap {C : List Int} {x y : K} (hx : leadK C x = true) (hy : leadK C y = true) (hr : x.round < y.round) : x.round + 3 ≤ y.round := by
  have := ((lead_iff C x).1 hx).1
  have := ((lead_iff C y).1 hy).1
  omega
theorem coins_in {C : List Int} (h : coinsB C = true) {i : Nat} (hi : i < C.length) : 0 ≤ C.getD i 0 ∧ C.getD i 0 ≤ 3 := by
  unfold Rm.coinsB Rm.coinsTo at h
  rw [Bool.and_eq_true, List.all_eq_true] at h
  have := h.1 i (by simpa using hi)
  unfold Kn.in3 at this
  simpa using this
theorem coins_len {C : List Int} (h : coinsB C = true) : C.length ≤ 6 := by
  unfold Rm.coinsB at h
  rw [Bool.and_eq_true, decide_eq_true_eq] at h
  exact h.2
theorem lead_bd {C : List Int} (h : coinsB C = true) {wave : Int} (h0 : 0 ≤ wave) : 0 ≤ leadI C wave ∧ leadI C wave ≤ 3 := by
  unfold leadI
  split
  · exact coins_in h (by omega)
  · omega

end Ch
end Go.Proofs.YtodgkhlnefggdaaGreat

namespace Go.Proofs.YtodgkhlnefggdaaGreat
open Go.RowKit
set_option maxRecDepth 100000
namespace Ch
open Kn (K okK)
open Bit (bit withB memTo)
open Lc (at' laceB setB handsN hasHand roundS)
open Sg (isB bel)
open Nd (nodN nodS)
open Sl (sealN sealS nodAt)

/-- those of a set that seal one -/
def sealAt (L : List K) (s : Int) (k : Nat) : Int := bits .and .i64 s (sealS L k L.length)
/-- firm in a set -/
def firmN (L : List K) (C : List Int) (s : Int) (k : Nat) : Bool := bit s k && (leadK C (at' L k) && decide (3 ≤ handsN L (roundS L (sealAt L s k) ((at' L k).round + 2))))

/-- what a right set is -/
structure In (L : List K) (s : Int) : Prop where
  lo : 0 ≤ s
  hi : s < 1152921504606846976
theorem bit_sealAt {L : List K} {s : Int} (h60 : L.length ≤ 60) (hs : In L s) (k i : Nat) : bit (sealAt L s k) i = (bit s i && (decide (i < L.length) && sealN L i k)) := by
  have h := Sl.sealS_bd L k _ h60
  unfold sealAt
  rw [Sl.bit_and s _ hs.lo hs.hi h.1 h.2, Sl.bit_sealS L k _ h60]

/-- what is firm is sealed by all of the next waves -/
theorem firm_sealed {L : List K} {bad : Int} (hG : Ag.Good L bad) {C : List Int} {s : Int} (hs : In L s) {f k : Nat} (hf : f < L.length) (hF : firmN L C s f = true) (hk : k < L.length) (hr : (at' L f).round + 3 ≤ (at' L k).round) : sealN L k f = true := by
  unfold firmN at hF
  simp only [Bool.and_eq_true, decide_eq_true_eq] at hF
  have hrf := (Ag.round_bd hG.lace hf).1
  refine Ag.seal_spread hG (t := sealAt L s f) (q := (at' L f).round + 2) (by omega) hF.2.2 (fun i hi hb => ?_) hk (by omega)
  rw [bit_sealAt hG.len hs] at hb
  simp only [Bool.and_eq_true] at hb
  exact hb.2.2

/-- each wave has one firm leader at most -/
theorem firm_one {L : List K} {bad : Int} (hG : Ag.Good L bad) {C : List Int} {s t : Int} (hs : In L s) (ht : In L t) {f g : Nat} (hf : f < L.length) (hg : g < L.length) (hF : firmN L C s f = true) (hF2 : firmN L C t g = true) (hr : (at' L f).round = (at' L g).round) : f = g := by
  have h60 := hG.len
  unfold firmN at hF hF2
  simp only [Bool.and_eq_true, decide_eq_true_eq] at hF hF2
  obtain ⟨h, _, hne, h1, h2⟩ := Sl.hands_meet hF.2.2 hF2.2.2 bad
  obtain ⟨i, hi, hbi, hhi⟩ := (Lc.hasHand_iff _ _ _).1 h1
  obtain ⟨j, hj, hbj, hhj⟩ := (Lc.hasHand_iff _ _ _).1 h2
  rw [Ag.bit_round _ _ _ h60] at hbi hbj
  simp only [Bool.and_eq_true, decide_eq_true_eq] at hbi hbj
  rw [bit_sealAt h60 hs] at hbi
  rw [bit_sealAt h60 ht] at hbj
  simp only [Bool.and_eq_true] at hbi hbj
  have e : i = j := Ag.once hG hi hj (by rw [hhi, hhj]) (by rw [hhi]; exact hne) (by rw [hbi.2.2, hbj.2.2, hr])
  subst e
  exact Ag.seal_same hG hi hf hg (lead_hand hF.2.1 hF2.2.1 hr) hr hbi.2.1.2.2 hbj.2.1.2.2

/-- what is firm stays firm where more is known -/
theorem firm_more {L : List K} (h60 : L.length ≤ 60) {C : List Int} {s t : Int} (hs : In L s) (ht : In L t) (hst : ∀ i, bit s i = true → bit t i = true) {f : Nat} (hF : firmN L C s f = true) : firmN L C t f = true := by
  unfold firmN at hF ⊢
  simp only [Bool.and_eq_true, decide_eq_true_eq] at hF ⊢
  refine ⟨hst f hF.1, hF.2.1, Int.le_trans hF.2.2 (Sl.hands_mono fun i hi hb => ?_)⟩
  rw [Ag.bit_round _ _ _ h60, bit_sealAt h60 hs] at hb
  rw [Ag.bit_round _ _ _ h60, bit_sealAt h60 ht]
  simp only [Bool.and_eq_true] at hb ⊢
  exact ⟨hb.1, ⟨hst i hb.2.1.1, hb.2.1.2⟩, hb.2.2⟩

/-- may x be the leader before k? -/
def earN (L : List K) (C : List Int) (k x : Nat) : Bool := bit (bel L k) x && (leadK C (at' L x) && sealN L k x)
/-- of those of the first that may, the one of the greatest round, of some the first; -1: there is none -/
def earI (L : List K) (C : List Int) (k : Nat) : Nat → Int
  | 0 => -1
  | n + 1 => if earN L C k n && (decide (earI L C k n < 0) || decide ((at' L (earI L C k n).toNat).round < (at' L n).round)) then (n : Int) else earI L C k n

theorem ear_spec (L : List K) (C : List Int) (k n : Nat) :
    (earI L C k n = -1 ∧ ∀ x, x < n → earN L C k x = false) ∨ (∃ e : Nat, earI L C k n = (e : Int) ∧ e < n ∧ earN L C k e = true ∧ ∀ x, x < n → earN L C k x = true → (at' L x).round ≤ (at' L e).round ∧ ((at' L x).round = (at' L e).round → e ≤ x)) := by
  induction n with
  | zero => exact .inl ⟨rfl, fun x hx => by omega⟩
  | succ n ih =>
    unfold earI
    rcases ih with ⟨h1, h2⟩ | ⟨e, h1, h2, h3, h4⟩
    · cases hn : earN L C k n
      · left
        rw [Bool.false_and, if_neg (by simp)]
        refine ⟨h1, fun x hx => ?_⟩
        by_cases e : x = n
        · subst e; exact hn
        · exact h2 x (by omega)
      · right
        rw [h1, Bool.true_and, if_pos (by simp)]
        refine ⟨n, rfl, by omega, hn, fun x hx hxe => ?_⟩
        by_cases e : x = n
        · subst e; exact ⟨Int.le_refl _, fun _ => Nat.le_refl _⟩
        · rw [h2 x (by omega)] at hxe; exact Bool.noConfusion hxe
    · right
      rw [h1, Int.toNat_natCast]
      cases hn : earN L C k n
      · rw [Bool.false_and, if_neg (by simp)]
        refine ⟨e, rfl, by omega, h3, fun x hx hxe => ?_⟩
        by_cases q : x = n
        · subst q; rw [hn] at hxe; exact Bool.noConfusion hxe
        · exact h4 x (by omega) hxe
      · by_cases hr : (at' L e).round < (at' L n).round
        · rw [Bool.true_and, if_pos (by simp [hr])]
          refine ⟨n, rfl, by omega, hn, fun x hx hxe => ?_⟩
          by_cases q : x = n
          · subst q; exact ⟨Int.le_refl _, fun _ => Nat.le_refl _⟩
          · have := h4 x (by omega) hxe
            exact ⟨by omega, fun _ => by omega⟩
        · rw [Bool.true_and, if_neg (by simp; omega)]
          refine ⟨e, rfl, by omega, h3, fun x hx hxe => ?_⟩
          by_cases q : x = n
          · subst q; exact ⟨by omega, fun _ => by omega⟩
          · exact h4 x (by omega) hxe

/-- the leader before one; -1: there is none -/
def earlierN (L : List K) (C : List Int) (k : Nat) : Int := earI L C k k
theorem earlier_lt (L : List K) (C : List Int) (k : Nat) : earlierN L C k < (k : Int) := by
  unfold earlierN
  rcases ear_spec L C k k with ⟨h, _⟩ | ⟨e, h, he, _⟩ <;> omega

/-- from leader to leader, with so many steps -/
def chF (L : List K) (C : List Int) : Nat → Int → List Int
  | 0, _ => []
  | f + 1, k => if k < 0 then [] else chF L C f (earlierN L C k.toNat) ++ [k]
theorem chF_enough (L : List K) (C : List Int) : ∀ (f g : Nat) (k : Int), k < (f : Int) → k < (g : Int) → chF L C f k = chF L C g k := by
  intro f
  induction f with
  | zero =>
    intro g k h1 h2
    cases g with
    | zero => rfl
    | succ g => unfold chF; rw [if_pos (by omega)]
  | succ f ih =>
    intro g k h1 h2
    cases g with
    | zero => unfold chF; rw [if_pos (by omega)]
    | succ g =>
      unfold chF
      by_cases hk : k < 0
      · rw [if_pos hk, if_pos hk]
      · rw [if_neg hk, if_neg hk]
        have := earlier_lt L C k.toNat
        rw [ih g _ (by omega) (by omega)]
/-- the chain of one -/
def chainL (L : List K) (C : List Int) (k : Int) : List Int := chF L C (k.toNat + 1) k
theorem chain_neg (L : List K) (C : List Int) {k : Int} (h : k < 0) : chainL L C k = [] := by
  unfold chainL chF; rw [if_pos h]
theorem chain_step (L : List K) (C : List Int) (k : Nat) : chainL L C (k : Int) = chainL L C (earlierN L C k) ++ [(k : Int)] := by
  have hlt := earlier_lt L C k
  have : chainL L C (k : Int) = chF L C k (earlierN L C k) ++ [(k : Int)] := by
    unfold chainL
    rw [Int.toNat_natCast]
    show (if (k : Int) < 0 then [] else chF L C k (earlierN L C (k : Int).toNat) ++ [(k : Int)]) = _
    rw [if_neg (by omega), Int.toNat_natCast]
  rw [this]
  congr 1
  unfold chainL
  exact chF_enough L C _ _ _ (by omega) (by omega)

theorem chF_len (L : List K) (C : List Int) : ∀ (f : Nat) (k : Int), (chF L C f k).length ≤ f := by
  intro f
  induction f with
  | zero => intro k; exact Nat.le_refl 0
  | succ f ih =>
    intro k
    unfold chF
    split
    · simp
    · have := ih (earlierN L C k.toNat)
      simp; omega
theorem chain_len (L : List K) (C : List Int) (k : Int) : (chainL L C k).length ≤ k.toNat + 1 := chF_len L C _ _

/-- what is firm is on the chain of each leader of a later wave, and its chain begins that one's -/
theorem chain_along {L : List K} {bad : Int} (hG : Ag.Good L bad) {C : List Int} {s : Int} (hs : In L s) {f : Nat} (hf : f < L.length) (hF : firmN L C s f = true) : ∀ k, k < L.length → leadK C (at' L k) = true → ((at' L f).round < (at' L k).round ∨ k = f) → ∃ rest, chainL L C (k : Int) = chainL L C (f : Int) ++ rest := by
  have hlf : leadK C (at' L f) = true := by
    unfold firmN at hF
    simp only [Bool.and_eq_true] at hF
    exact hF.2.1
  intro k
  induction k using Nat.strongRecOn with
  | _ k ih =>
    intro hk hlk hc
    rcases hc with hr | rfl
    · have hsl := firm_sealed hG hs hf hF hk (lead_gap hlf hlk hr)
      have hse := Sl.seal_sees hG.lace hk hsl
      have hfk : f < k := by
        have := Ag.sees_le hG.lace hk hse
        have hne : f ≠ k := by intro e; subst e; omega
        omega
      have hcand : earN L C k f = true := by unfold earN; rw [hse, hlf, hsl]; rfl
      rcases ear_spec L C k k with ⟨_, hno⟩ | ⟨e, he, hek, hec, hbest⟩
      · rw [hno f hfk] at hcand; exact Bool.noConfusion hcand
      · have hb := (hbest f hfk hcand).1
        unfold earN at hec
        simp only [Bool.and_eq_true] at hec
        have hel : e < L.length := by omega
        have hcase : (at' L f).round < (at' L e).round ∨ e = f := by
          by_cases q : (at' L f).round = (at' L e).round
          · exact .inr (Ag.seal_same hG hk hel hf (lead_hand hec.2.1 hlf q.symm) q.symm hec.2.2 hsl)
          · exact .inl (by omega)
        obtain ⟨rest, hrest⟩ := ih e hek hel hec.2.1 hcase
        refine ⟨rest ++ [(k : Int)], ?_⟩
        rw [chain_step, show earlierN L C k = (e : Int) from he, hrest, List.append_assoc]
    · exact ⟨[], by rw [List.append_nil]⟩

end Ch
end Go.Proofs.YtodgkhlnefggdaaGreat

namespace Go.Proofs.YtodgkhlnefggdaaGreat
open Go.RowKit
set_option maxRecDepth 100000
namespace Tl
open Kn (K okK)
open Bit (bit withB memTo)
open Lc (at' laceB setB handsN hasHand roundS)
open Sg (isB bel)
open Db (dblN)
open Nd (nodN nodS)
open Sl (sealN sealS nodAt)
open Ch (leadK firmN earlierN chainL In)

/-- does y stand behind x? -/
def gtB (L : List K) (y x : Int) : Bool := decide ((at' L x.toNat).round < (at' L y.toNat).round) || (decide ((at' L y.toNat).round = (at' L x.toNat).round) && decide ((at' L x.toNat).hand < (at' L y.toNat).hand))
/-- put in from behind (the list is read from its end) -/
def insR (L : List K) (x : Int) : List Int → List Int
  | [] => [x]
  | y :: r => if gtB L y x then y :: insR L x r else x :: y :: r
/-- put in from behind -/
def insB (L : List K) (out : List Int) (x : Int) : List Int := (insR L x out.reverse).reverse
/-- by rounds, then by hands, then by numbers -/
def ordL (L : List K) (m : List Int) : List Int := m.foldl (insB L) []

theorem insR_perm (L : List K) (x : Int) (l : List Int) : (insR L x l).Perm (x :: l) := by
  induction l with
  | nil => exact List.Perm.refl _
  | cons y r ih =>
    unfold insR
    split
    · exact (List.Perm.cons y ih).trans (List.Perm.swap x y r)
    · exact List.Perm.refl _
theorem insB_perm (L : List K) (out : List Int) (x : Int) : (insB L out x).Perm (x :: out) := by
  unfold insB
  exact (List.reverse_perm _).trans ((insR_perm L x out.reverse).trans (List.Perm.cons x (List.reverse_perm out)))
theorem ord_fold_perm (L : List K) : ∀ (m out : List Int), (m.foldl (insB L) out).Perm (out ++ m) := by
  intro m
  induction m with
  | nil => intro out; simp
  | cons x m ih =>
    intro out
    rw [List.foldl_cons]
    refine (ih (insB L out x)).trans ?_
    refine ((insB_perm L out x).append_right m).trans ?_
    show (x :: (out ++ m)).Perm (out ++ x :: m)
    exact List.perm_middle.symm
theorem ord_perm (L : List K) (m : List Int) : (ordL L m).Perm m := by
  have := ord_fold_perm L m []
  simpa [ordL] using this
theorem mem_ord (L : List K) (m : List Int) (x : Int) : x ∈ ordL L m ↔ x ∈ m := (ord_perm L m).mem_iff
theorem ord_nodup (L : List K) {m : List Int} (h : m.Nodup) : (ordL L m).Nodup := (ord_perm L m).nodup_iff.2 h

/-- read from its end the list falls: what stands ahead is no greater -/
def Falls (L : List K) : List Int → Prop
  | [] => True
  | y :: r => (∀ z ∈ r, gtB L z y = false) ∧ Falls L r
theorem gt_total (L : List K) {x y : Int} (h : gtB L y x = true) : gtB L x y = false := by
  unfold gtB at h ⊢
  simp only [Bool.or_eq_true, Bool.and_eq_true, decide_eq_true_eq] at h
  rw [Bool.eq_false_iff]
  intro q
  simp only [Bool.or_eq_true, Bool.and_eq_true, decide_eq_true_eq] at q
  omega
theorem gt_trans (L : List K) {x y z : Int} (h1 : gtB L y x = false) (h2 : gtB L z y = false) : gtB L z x = false := by
  unfold gtB at h1 h2 ⊢
  rw [Bool.eq_false_iff] at h1 h2 ⊢
  simp only [ne_eq, Bool.or_eq_true, Bool.and_eq_true, decide_eq_true_eq] at h1 h2 ⊢
  omega
theorem insR_mem (L : List K) (x : Int) (l : List Int) (z : Int) : z ∈ insR L x l ↔ z = x ∨ z ∈ l := by
  rw [(insR_perm L x l).mem_iff, List.mem_cons]
theorem insR_falls (L : List K) (x : Int) : ∀ l : List Int, Falls L l → Falls L (insR L x l) := by
  intro l
  induction l with
  | nil => intro _; exact ⟨fun z hz => by simp at hz, trivial⟩
  | cons y r ih =>
    rintro ⟨h1, h2⟩
    unfold insR
    cases hg : gtB L y x
    · rw [if_neg (by simp)]
      refine ⟨fun z hz => ?_, h1, h2⟩
      rcases List.mem_cons.1 hz with e | e
      · subst e; exact hg
      · exact gt_trans L hg (h1 z e)
    · rw [if_pos rfl]
      refine ⟨fun z hz => ?_, ih h2⟩
      rcases (insR_mem L x r z).1 hz with e | e
      · subst e; exact gt_total L hg
      · exact h1 z e
theorem ord_falls (L : List K) : ∀ (m out : List Int), Falls L out.reverse → Falls L (m.foldl (insB L) out).reverse := by
  intro m
  induction m with
  | nil => intro out h; exact h
  | cons x m ih =>
    intro out h
    rw [List.foldl_cons]
    refine ih _ ?_
    unfold insB
    rw [List.reverse_reverse]
    exact insR_falls L x _ h
theorem falls_get (L : List K) : ∀ l : List Int, Falls L l.reverse → ∀ i j, i < j → j < l.length → gtB L (l.getD i 0) (l.getD j 0) = false := by
  suffices H : ∀ r : List Int, Falls L r → ∀ i j, i < j → j < r.length → gtB L (r.getD j 0) (r.getD i 0) = false by
    intro l h i j hij hj
    have := H l.reverse h (l.length - 1 - j) (l.length - 1 - i) (by omega) (by simp; omega)
    have e1 : l.reverse.getD (l.length - 1 - j) 0 = l.getD j 0 := by
      simp only [List.getD, List.getElem?_reverse (show l.length - 1 - j < l.length by omega)]
      rw [show l.length - 1 - (l.length - 1 - j) = j by omega]
    have e2 : l.reverse.getD (l.length - 1 - i) 0 = l.getD i 0 := by
      simp only [List.getD, List.getElem?_reverse (show l.length - 1 - i < l.length by omega)]
      rw [show l.length - 1 - (l.length - 1 - i) = i by omega]
    rwa [e1, e2] at this
  intro r
  induction r with
  | nil => intro _ i j _ hj; simp at hj
  | cons y r ih =>
    rintro ⟨h1, h2⟩ i j hij hj
    match i, j, hij with
    | 0, j + 1, _ =>
      have hj' : j < r.length := by simpa using hj
      simp only [List.getD_cons_succ, List.getD_cons_zero]
      exact h1 _ (by simp [List.getD, List.getElem?_eq_getElem hj'])
    | i + 1, j + 1, hij =>
      simp only [List.getD_cons_succ]
      exact ih h2 i j (by omega) (by simpa using hj)
/-- in order no one stands ahead of a lesser one -/
theorem ord_get (L : List K) (m : List Int) {i j : Nat} (hij : i < j) (hj : j < (ordL L m).length) : gtB L ((ordL L m).getD i 0) ((ordL L m).getD j 0) = false :=
  falls_get L _ (ord_falls L m [] trivial) i j hij hj

/-- fresh: below k, not below the earlier one, and k nods to it -/
def fresN (L : List K) (k : Nat) (e : Int) (b : Nat) : Bool := bit (bel L k) b && (!(decide (0 ≤ e) && bit (bel L e.toNat) b) && nodN L k b)
/-- those of the first that are fresh -/
def frS (L : List K) (k : Nat) (e : Int) : Nat → Int
  | 0 => 0
  | n + 1 => if fresN L k e n then withB (frS L k e n) n else frS L k e n
theorem frS_bd (L : List K) (k : Nat) (e : Int) (n : Nat) (hn : n ≤ 60) : 0 ≤ frS L k e n ∧ frS L k e n < 1152921504606846976 := by
  induction n with
  | zero => exact ⟨Int.le_refl 0, show (0 : Int) < 1152921504606846976 by decide⟩
  | succ n ih =>
    have h := ih (by omega)
    unfold frS; split
    · exact Bit.withB_bd _ h.1 h.2 n (by omega)
    · exact h
theorem bit_frS (L : List K) (k : Nat) (e : Int) (n : Nat) (hn : n ≤ 60) (j : Nat) : bit (frS L k e n) j = (decide (j < n) && fresN L k e j) := by
  induction n with
  | zero => show bit 0 j = _; rw [Lc.bit_zero]; simp
  | succ n ih =>
    have h := frS_bd L k e n (by omega)
    unfold frS
    cases hd : fresN L k e n
    · rw [if_neg (by simp), ih (by omega)]
      by_cases q : j = n
      · subst q; rw [hd]; simp
      · have : decide (j < n + 1) = decide (j < n) := by simp; omega
        rw [this]
    · rw [if_pos rfl, Bit.bit_withB _ h.1, ih (by omega)]
      by_cases q : j = n
      · subst q; rw [hd]; simp
      · have : decide (j < n + 1) = decide (j < n) := by simp; omega
        rw [this, decide_eq_false q, Bool.false_or]
/-- what is fresh, in order -/
def freshL (L : List K) (k e : Int) : List Int := ordL L (memTo (frS L k.toNat e L.length) 60)
theorem mem_fresh {L : List K} (h60 : L.length ≤ 60) (k e x : Int) : x ∈ freshL L k e ↔ ∃ j : Nat, x = (j : Int) ∧ j < L.length ∧ fresN L k.toNat e j = true := by
  unfold freshL
  rw [mem_ord, Bit.mem_memTo]
  constructor
  · rintro ⟨j, _, rfl, hb⟩
    rw [bit_frS L _ _ _ h60, Bool.and_eq_true, decide_eq_true_eq] at hb
    exact ⟨j, rfl, hb.1, hb.2⟩
  · rintro ⟨j, rfl, hj, hf⟩
    exact ⟨j, by omega, rfl, by rw [bit_frS L _ _ _ h60, decide_eq_true hj, hf]; rfl⟩

/-- leader by leader -/
def taleF (L : List K) (e : Int) : List Int → List Int
  | [] => []
  | c :: r => freshL L c e ++ taleF L c r
/-- the tale of one -/
def taleL (L : List K) (C : List Int) (k : Int) : List Int := taleF L (-1) (chainL L C k)
theorem taleF_append (L : List K) : ∀ (a b : List Int) (e : Int), ∃ rest, taleF L e (a ++ b) = taleF L e a ++ rest := by
  intro a
  induction a with
  | nil => intro b e; exact ⟨taleF L e b, rfl⟩
  | cons c a ih =>
    intro b e
    obtain ⟨r, hr⟩ := ih b c
    exact ⟨r, by show freshL L c e ++ taleF L c (a ++ b) = (freshL L c e ++ taleF L c a) ++ r; rw [hr, List.append_assoc]⟩

/-- the tale of one that is firm begins the tale of each later leader -/
theorem tale_along {L : List K} {bad : Int} (hG : Ag.Good L bad) {C : List Int} {s : Int} (hs : In L s) {f k : Nat} (hf : f < L.length) (hF : firmN L C s f = true) (hk : k < L.length) (hlk : leadK C (at' L k) = true) (hc : (at' L f).round < (at' L k).round ∨ k = f) : ∃ rest, taleL L C (k : Int) = taleL L C (f : Int) ++ rest := by
  obtain ⟨r, hr⟩ := Ch.chain_along hG hs hf hF k hk hlk hc
  unfold taleL
  rw [hr]
  exact taleF_append L _ _ _

/-- those that are firm, of the first -/
def firmL (L : List K) (C : List Int) (s : Int) : Nat → List Int
  | 0 => []
  | n + 1 => if firmN L C s n then firmL L C s n ++ [(n : Int)] else firmL L C s n
theorem mem_firm (L : List K) (C : List Int) (s : Int) (n : Nat) (x : Int) : x ∈ firmL L C s n ↔ ∃ k : Nat, x = (k : Int) ∧ k < n ∧ firmN L C s k = true := by
  induction n with
  | zero => unfold firmL; constructor; · intro h; simp at h
            · rintro ⟨k, _, hk, _⟩; omega
  | succ n ih =>
    unfold firmL
    cases hf : firmN L C s n
    · rw [if_neg (by simp), ih]
      constructor
      · rintro ⟨k, h1, h2, h3⟩; exact ⟨k, h1, by omega, h3⟩
      · rintro ⟨k, h1, h2, h3⟩
        have : k ≠ n := by intro e; subst e; rw [hf] at h3; exact Bool.noConfusion h3
        exact ⟨k, h1, by omega, h3⟩
    · rw [if_pos rfl, List.mem_append, ih]
      constructor
      · rintro (⟨k, h1, h2, h3⟩ | h)
        · exact ⟨k, h1, by omega, h3⟩
        · exact ⟨n, by simpa using h, by omega, hf⟩
      · rintro ⟨k, h1, h2, h3⟩
        by_cases e : k = n
        · subst e; exact .inr (by simp [h1])
        · exact .inl ⟨k, h1, by omega, h3⟩
/-- of a list the one of the greatest round, of some the first; -1: there is none -/
def lastT (L : List K) (l : List Int) : Int := l.foldl (fun out x => if out < 0 ∨ (at' L out.toNat).round < (at' L x.toNat).round then x else out) (-1)
theorem lastT_snoc (L : List K) (l : List Int) (x : Int) : lastT L (l ++ [x]) = if lastT L l < 0 ∨ (at' L (lastT L l).toNat).round < (at' L x.toNat).round then x else lastT L l := by
  unfold lastT; rw [List.foldl_append]; rfl
theorem last_spec (L : List K) (C : List Int) (s : Int) (n : Nat) :
    (lastT L (firmL L C s n) = -1 ∧ ∀ k, k < n → firmN L C s k = false) ∨ (∃ f : Nat, lastT L (firmL L C s n) = (f : Int) ∧ f < n ∧ firmN L C s f = true ∧ ∀ k, k < n → firmN L C s k = true → (at' L k).round ≤ (at' L f).round ∧ ((at' L k).round = (at' L f).round → f ≤ k)) := by
  induction n with
  | zero => exact .inl ⟨rfl, fun k hk => by omega⟩
  | succ n ih =>
    unfold firmL
    cases hf : firmN L C s n
    · rw [if_neg (by simp)]
      rcases ih with ⟨h1, h2⟩ | ⟨f, h1, h2, h3, h4⟩
      · refine .inl ⟨h1, fun k hk => ?_⟩
        by_cases e : k = n
        · subst e; exact hf
        · exact h2 k (by omega)
      · refine .inr ⟨f, h1, by omega, h3, fun k hk hkf => ?_⟩
        by_cases e : k = n
        · subst e; rw [hf] at hkf; exact Bool.noConfusion hkf
        · exact h4 k (by omega) hkf
    · rw [if_pos rfl, lastT_snoc]
      rcases ih with ⟨h1, h2⟩ | ⟨f, h1, h2, h3, h4⟩
      · rw [h1, if_pos (.inl (by omega))]
        refine .inr ⟨n, rfl, by omega, hf, fun k hk hkf => ?_⟩
        by_cases e : k = n
        · subst e; exact ⟨Int.le_refl _, fun _ => Nat.le_refl _⟩
        · rw [h2 k (by omega)] at hkf; exact Bool.noConfusion hkf
      · rw [h1, Int.toNat_natCast, Int.toNat_natCast]
        by_cases hr : (at' L f).round < (at' L n).round
        · rw [if_pos (.inr hr)]
          refine .inr ⟨n, rfl, by omega, hf, fun k hk hkf => ?_⟩
          by_cases e : k = n
          · subst e; exact ⟨Int.le_refl _, fun _ => Nat.le_refl _⟩
          · have := h4 k (by omega) hkf
            exact ⟨by omega, fun _ => by omega⟩
        · rw [if_neg (by omega)]
          refine .inr ⟨f, rfl, by omega, h3, fun k hk hkf => ?_⟩
          by_cases e : k = n
          · subst e; exact ⟨by omega, fun _ => by omega⟩
          · exact h4 k (by omega) hkf

/-- what is told of a set -/
def outL (L : List K) (C : List Int) (s : Int) : List Int := if lastT L (firmL L C s L.length) < 0 then [] else taleL L C (lastT L (firmL L C s L.length))

/-- what is told of two sets goes the same way -/
theorem out_along {L : List K} {bad : Int} (hG : Ag.Good L bad) {C : List Int} {s t : Int} (hs : In L s) (ht : In L t) : (∃ r, outL L C t = outL L C s ++ r) ∨ (∃ r, outL L C s = outL L C t ++ r) := by
  unfold outL
  rcases last_spec L C s L.length with ⟨h1, _⟩ | ⟨f, h1, hf, hF, _⟩
  · left; rw [h1, if_pos (show (-1 : Int) < 0 by omega)]; exact ⟨_, rfl⟩
  · rcases last_spec L C t L.length with ⟨h2, _⟩ | ⟨g, h2, hg, hF2, _⟩
    · right; rw [h2, if_pos (show (-1 : Int) < 0 by omega)]; exact ⟨_, rfl⟩
    · rw [h1, h2, if_neg (by omega), if_neg (by omega)]
      have lf : leadK C (at' L f) = true := by unfold Ch.firmN at hF; simp only [Bool.and_eq_true] at hF; exact hF.2.1
      have lg : leadK C (at' L g) = true := by unfold Ch.firmN at hF2; simp only [Bool.and_eq_true] at hF2; exact hF2.2.1
      by_cases q1 : (at' L f).round < (at' L g).round
      · exact .inl (tale_along hG hs hf hF hg lg (.inl q1))
      · by_cases q2 : (at' L g).round < (at' L f).round
        · exact .inr (tale_along hG ht hg hF2 hf lf (.inl q2))
        · have e : f = g := Ch.firm_one hG hs ht hf hg hF hF2 (by omega)
          subst e
          exact .inl ⟨[], by rw [List.append_nil]⟩

end Tl
end Go.Proofs.YtodgkhlnefggdaaGreat

namespace Go.Proofs.YtodgkhlnefggdaaGreat
open Go.RowKit
set_option maxRecDepth 100000
namespace Ch
open Kn (K okK)
open Lc (at' RdK laceB WordsOk)
open Sg (isB)
open Rm (coinsB)

set_option maxHeartbeats 400000 in
theorem l8Leader (ao : Option Addr) (cap : Nat) (C : List Int) (wave : Int) (w : World) (h0 : 0 ≤ wave) (h1 : wave ≤ 1000) (hrd : Lst.Rd w ao C) :
    Calls Tryz.prog 88 #[.slice ao C.length cap, .int .i64 wave] w fun e w' => e = .returned (.int .i64 (leadI C wave)) ∧ w = w' := by
  obtain ⟨p, rfl⟩ := Int.eq_ofNat_of_zero_le h0
  by_cases hlt : p < C.length
  · have hi : (p : Int) < (C.length : Int) := by omega
    have HT : Hid (leadI C (p : Int) = C.getD p 0) := by show _ = _; unfold leadI; rw [if_pos hi, Int.toNat_natCast]
    rcases hrd with hrd | ⟨b, rfl, hcell⟩
    · rw [hrd] at hlt; simp at hlt
    have cj := hcell p hlt
    clear hcell
    generalize C.getD p 0 = y at cj HT
    go_enter Tryz.func88, Tryz.ntmps88
    go_wp2
    go_ret
    exact ⟨by rw [HT.out]; rfl, rfl⟩
  · have hi : ¬ (p : Int) < (C.length : Int) := by omega
    have HT : Hid (leadI C (p : Int) = (p : Int) % 4) := by show _ = _; unfold leadI; rw [if_neg hi]
    clear hrd
    go_enter Tryz.func88, Tryz.ntmps88
    go_wp2
    go_ret
    exact ⟨by rw [HT.out]; rfl, rfl⟩

theorem rd_below {w w' : World} {ao : Option Addr} {l : List Int} (h : Lst.Rd w ao l) (hao : ∀ c, ao = some ⟨c, 0, none⟩ → c < w.heap.size) (hb : Below w.heap.size w w') : Lst.Rd w' ao l := by
  rcases h with h | ⟨g, rfl, hc⟩
  · exact .inl h
  · exact .inr ⟨g, rfl, fun j hj => (hb.cell (p := ⟨g, j, none⟩) (hao g rfl)).trans (hc j hj)⟩

set_option maxHeartbeats 800000 in
theorem l8Leads (ao : Option Addr) (cap : Nat) (C : List Int) (k : K) (w : World) (h0 : 0 ≤ k.round) (h1 : k.round ≤ 1000) (hrd : Lst.Rd w ao C) (hao : ∀ c, ao = some ⟨c, 0, none⟩ → c < w.heap.size) :
    Calls Tryz.prog 70 #[.slice ao C.length cap, .agg #[.int .i64 k.hand, .int .i64 k.round, .int .i64 k.frm, .string k.word]] w fun e w' => e = .returned (.bool (leadK C k)) ∧ Below w.heap.size w w' := by
  have P0 : Hid (Below w.heap.size w (w.alloc (.cells #[.int .i64 k.hand, .int .i64 k.round, .int .i64 k.frm, .string k.word] 40)) ∧ Lc.CellsK (w.alloc (.cells #[.int .i64 k.hand, .int .i64 k.round, .int .i64 k.frm, .string k.word] 40)) w.heap.size 0 k ∧ w.heap.size < (w.alloc (.cells #[.int .i64 k.hand, .int .i64 k.round, .int .i64 k.frm, .string k.word] 40)).heap.size) :=
    ⟨(Below.refl _ _).alloc (Nat.le_refl _) _, ⟨by simp, by simp, by simp, by simp⟩, by simp⟩
  have HRD : Hid (∀ W : World, Below w.heap.size w W → Lst.Rd W ao C) := fun W hW => rd_below hrd hao hW
  clear hrd hao
  by_cases hz : k.round % 3 = 0
  · have HT : Hid (leadK C k = (k.hand == leadI C (k.round / 3))) := by show _ = _; unfold leadK; rw [decide_eq_true hz, Bool.true_and]; exact (Bool.eq_iff_iff.2 (by simp))
    have hz' : (k.round % 3 == 0) = true := by simpa using hz
    clear hz
    go_enter Tryz.func70, Tryz.ntmps70
    go_wp2_with fail
    generalize w.alloc (.cells #[.int .i64 k.hand, .int .i64 k.round, .int .i64 k.frm, .string k.word] 40) = V at P0 ⊢
    obtain ⟨B0, ⟨c0, c1, _, _⟩, hlt⟩ := P0.out
    rw [Nat.zero_add] at c1
    have HC : Hid (∀ n : Nat, Calls Tryz.prog 88 #[.slice ao C.length cap, .int .i64 (k.round / 3)] (V.drewN n) fun e w' => e = .returned (.int .i64 (leadI C (k.round / 3))) ∧ V.drewN n = w') := fun n => l8Leader ao cap C (k.round / 3) _ (by omega) (by omega) (HRD.out _ (Db.below_drewN B0 n))
    have HB0 : Hid (Below w.heap.size w V) := B0
    clear HRD P0 B0
    generalize leadI C (k.round / 3) = y at HT HC
    go_quiet (first | (go_at_call 88; exact (HC.out _).mono fun _ _ h => ⟨h.1, _, h.2.symm⟩))
    go_wp2
    go_ret
    exact ⟨by rw [HT.out]; rfl, Db.below_drewN HB0.out _⟩
  · have HT : Hid (leadK C k = false) := by show _ = _; unfold leadK; rw [decide_eq_false hz]; rfl
    have hz' : (k.round % 3 == 0) = false := by simpa using hz
    clear hz HRD
    go_enter Tryz.func70, Tryz.ntmps70
    go_wp2_with fail
    generalize w.alloc (.cells #[.int .i64 k.hand, .int .i64 k.round, .int .i64 k.frm, .string k.word] 40) = V at P0 ⊢
    obtain ⟨B0, ⟨c0, c1, _, _⟩, hlt⟩ := P0.out
    rw [Nat.zero_add] at c1
    have HB0 : Hid (Below w.heap.size w V) := B0
    clear P0 B0
    go_quiet (fail)
    go_wp2
    go_ret
    exact ⟨by rw [HT.out]; rfl, Db.below_drewN HB0.out _⟩

theorem l1In6 (x : Int) (w : World) : Calls Tryz.prog 52 #[.int .i64 x, .int .i64 0, .int .i64 6] w fun e w' => e = .returned (.bool (in6 x)) ∧ w = w' := Base.l1In x 0 6 w

end Ch
end Go.Proofs.YtodgkhlnefggdaaGreat

namespace Go.Proofs.YtodgkhlnefggdaaGreat
open Go.RowKit
set_option maxRecDepth 100000
namespace Sl
open Kn (K okK)
open Bit (bit withB)
open Lc (at' RdK WordsOk laceB setB Four ofH handsN)
open Sg (isB bel belows)
open Db (RowI)
open Nd (nodS)

/-- the table when all below b have been done, and of b those below a -/
def tabS (L : List K) (N b a i : Nat) : Int := if i < b then sealS L i N else if i = b then sealS L i a else 0

theorem sealS_low {L : List K} (hl : laceB L = true) (b n : Nat) (hn : n ≤ L.length) (h : n ≤ b) : sealS L b n = 0 := by
  induction n with
  | zero => rfl
  | succ n ih =>
    have hf : sealN L n b = false := by
      rw [Bool.eq_false_iff]
      intro hs
      have := seal_le hl (by omega) hs
      omega
    unfold sealS
    rw [hf, if_neg (by simp)]
    exact ih (by omega) (by omega)
theorem tabS_zero (L : List K) (N : Nat) : tabS L N 0 0 = fun _ => 0 := by
  funext i
  unfold tabS
  rw [if_neg (by omega)]
  split
  · rfl
  · rfl
theorem tabS_next {L : List K} (hl : laceB L = true) (b : Nat) (hb : b < L.length) (i : Nat) : tabS L L.length b L.length i = tabS L L.length (b + 1) (b + 1) i := by
  unfold tabS
  by_cases h1 : i < b
  · rw [if_pos h1, if_pos (by omega)]
  · by_cases h2 : i = b
    · rw [if_neg h1, if_pos h2, if_pos (by omega)]
    · rw [if_neg h1, if_neg h2, if_neg (by omega)]
      by_cases h3 : i = b + 1
      · rw [if_pos h3, sealS_low hl _ _ (by omega) (by omega)]
      · rw [if_neg h3]
theorem tabS_skip (L : List K) (N b a : Nat) (hp : sealN L a b = false) : tabS L N b (a + 1) = tabS L N b a := by
  funext i
  unfold tabS
  by_cases h2 : i = b
  · subst h2
    rw [if_neg (by omega), if_pos rfl, if_neg (by omega), if_pos rfl]
    show sealS L i (a + 1) = _
    conv => lhs; unfold sealS
    rw [hp, if_neg (by simp)]
  · rw [if_neg h2, if_neg h2]
theorem tabS_put (L : List K) (N b a : Nat) (hp : sealN L a b = true) : (fun i => if i = b then withB (sealS L b a) a else tabS L N b a i) = tabS L N b (a + 1) := by
  funext i
  unfold tabS
  by_cases h2 : i = b
  · subst h2
    rw [if_pos rfl, if_neg (by omega), if_pos rfl]
    show _ = sealS L i (a + 1)
    conv => rhs; unfold sealS
    rw [hp, if_pos rfl]
  · rw [if_neg h2, if_neg h2, if_neg h2]
theorem tabS_at (L : List K) (N b a : Nat) : tabS L N b a b = sealS L b a := by
  unfold tabS; rw [if_neg (by omega), if_pos rfl]
theorem rowI_eq {w : World} {g n : Nat} {D E : Nat → Int} (h : RowI w g n D) (e : ∀ i, i < n → D i = E i) : RowI w g n E := ⟨h.lt, fun i hi => by rw [← e i hi]; exact h.rd i hi, h.fr⟩
theorem four_below {w w' : World} {g : Nat} {x0 x1 x2 x3 : Int} (h : Four w g x0 x1 x2 x3) (hb : Below w.heap.size w w') : Four w' g x0 x1 x2 x3 where
  lt := Nat.lt_of_lt_of_le h.lt hb.size
  c0 := (hb.cell (p := ⟨g, 0, none⟩) h.lt).trans h.c0
  c1 := (hb.cell (p := ⟨g, 1, none⟩) h.lt).trans h.c1
  c2 := (hb.cell (p := ⟨g, 2, none⟩) h.lt).trans h.c2
  c3 := (hb.cell (p := ⟨g, 3, none⟩) h.lt).trans h.c3
  f := fun j hj => (hb.frozen (p := ⟨g, j, none⟩) h.lt).trans (h.f j hj)

/-- the table of those that seal is handed back -/
def SealPost (L : List K) (w : World) (e : Ending) (w' : World) : Prop := ∃ h O, e = .returned (.slice (some ⟨h, 0, none⟩) L.length L.length) ∧ w.heap.size ≤ h ∧ RowI w' h L.length O ∧ (∀ i, i < L.length → O i = sealS L i L.length) ∧ Below w.heap.size w w'

set_option maxHeartbeats 6400000 in
theorem l7All (g off cap : Nat) (L : List K) (bo : Option Addr) (bc : Nat) (w : World) (hl : laceB L = true) (hr : RdK w (some ⟨g, off, none⟩) L) (hrd : Lst.Rd w bo (belows L L.length)) (hbo : ∀ c, bo = some ⟨c, 0, none⟩ → c < w.heap.size) :
    Calls Tryz.prog 35 #[.slice (some ⟨g, off, none⟩) L.length cap, .slice bo L.length bc] w (SealPost L w) := by
  have hL := ((Lc.lace_iff L).1 hl).1
  have hbl := Sg.belows_len L L.length
  have H6 : Hid (Calls Tryz.prog 33 #[.slice (some ⟨g, off, none⟩) L.length cap, .slice bo L.length bc] w fun e2 w2 => ∃ h O, e2 = .returned (.slice (some ⟨h, 0, none⟩) L.length L.length) ∧ RowI w2 h L.length O ∧ (∀ i, i < L.length → O i = nodS L i L.length) ∧ Below w.heap.size w w2) := by
    have h6 := Nd.l6All (some ⟨g, off, none⟩) cap L bo bc (belows L L.length) w hL hbl (Sg.belows_in L L.length hL) hr hrd hbo
    rw [hbl] at h6
    refine h6.mono ?_
    rintro e w2 ⟨h, D, O, rfl, _, hrow, hD, hO, hb2⟩
    exact ⟨h, O, rfl, hrow, fun i hi => by rw [hO i hi, Nd.nodR_eq hl hD hi _ (Nat.le_refl _)], hb2⟩
  have hmk : ∀ W : World, (Instr.makeSlice 23 (.int .i64 (L.length : Int)) (.int .i64 (L.length : Int))).run Tryz.prog W = .ok (.slice (some ⟨W.heap.size, 0, none⟩) L.length L.length) (W.alloc (.cells (madeCells #[.int .i64 0] L.length) 2)) :=
    fun W => run_make_row' (P := Tryz.prog) 23 2 (.int .i64 0) 8 Tryz.underlying23 Memb.info2 rfl .i64 .i64 L.length (by omega) (by omega) W
  have HL : Hid (laceB L = true) := hl
  have HBEL : Hid (∀ a, a < L.length → ∀ bb, bo = some ⟨bb, 0, none⟩ → bb < w.heap.size ∧ w.cell? ⟨bb, a, none⟩ = some (.int .i64 (bel L a))) := fun a ha bb hb => by
    rcases hrd with hrd | ⟨b2, e2, hcell⟩
    · rw [hrd] at hbl; simp at hbl; omega
    · rw [hb] at e2; injection e2 with e2; injection e2 with e2; subst e2
      refine ⟨hbo bb hb, ?_⟩
      have := hcell a (by rw [hbl]; exact ha)
      rwa [Sg.belows_get L L.length a ha] at this
  have HBN : Hid (∀ a, a < L.length → ∃ bb, bo = some ⟨bb, 0, none⟩) := fun a ha => by
    rcases hrd with hrd | ⟨b2, e2, hcell⟩
    · rw [hrd] at hbl; simp at hbl; omega
    · exact ⟨b2, e2⟩
  have HHO : Hid (Lc.HandsOk L) := Lc.lace_hands hl
  clear hl hrd hbo hbl
  go_enter Tryz.func35, Tryz.ntmps35
  go_wp2_with fail
  refine H6.out.mono ?_
  rintro e w1 ⟨h6, O6, rfl, hrow6, hO6, hb1⟩
  clear H6
  have HROW : Hid (∀ i, i < L.length → w1.cell? ⟨h6, i, none⟩ = some (.int .i64 (nodS L i L.length))) := fun i hi => by rw [← hO6 i hi]; exact hrow6.rd i hi
  have hlt6 : h6 < w1.heap.size := hrow6.lt
  have hr1 := hr.below hb1
  clear hrow6 hO6
  go_wp2_with fail
  refine (Lc.l3Of _ cap L _ hL hr1 HHO.out).mono ?_
  rintro e w2 ⟨oc, rfl, hfour, hb2⟩
  have HF2 : Hid (Four w2 w1.heap.size (ofH L 0 L.length) (ofH L 1 L.length) (ofH L 2 L.length) (ofH L 3 L.length)) := hfour
  have HB2 : Hid (Below w.heap.size w w2) := hb1.trans (hb2.mono hb1.size)
  have HROW2 : Hid (∀ i, i < L.length → w2.cell? ⟨h6, i, none⟩ = some (.int .i64 (nodS L i L.length))) := fun i hi => (hb2.cell (p := ⟨h6, i, none⟩) hlt6).trans (HROW.out i hi)
  have hlt62 : h6 < w2.heap.size := Nat.lt_of_lt_of_le hlt6 hb2.size
  have HW2 : Hid (w.heap.size ≤ w2.heap.size) := HB2.out.size
  generalize w1.heap.size = of at HF2 ⊢
  clear hb1 hb2 hr1 hr HROW hlt6 hfour
  have HP : Hid (RowI (w2.alloc (.cells (madeCells #[.int .i64 0] L.length) 2)) w2.heap.size L.length (fun _ => 0) ∧ Below w2.heap.size w2 (w2.alloc (.cells (madeCells #[.int .i64 0] L.length) 2))) := ⟨Db.rowI_made _ _ _, (Below.refl _ _).alloc (Nat.le_refl _) _⟩
  generalize madeCells #[Value.int .i64 0] L.length = mc at hmk HP
  go_wp2
  clear hmk
  go_loopw [8] (fun i wr => ∃ b : Nat, b ≤ L.length ∧ i = .int .i64 b ∧ Hid (RowI wr w2.heap.size L.length (tabS L L.length b b)) ∧ Hid (Below w2.heap.size w2 wr)) (fun i _ => L.length - (intOf i).toNat)
  case atStart => exact ⟨0, by omega, rfl, by show RowI _ _ _ _; rw [tabS_zero]; exact HP.out.1, HP.out.2⟩
  case round =>
    obtain ⟨b, hb, rfl, HR, HB⟩ := hrel
    clear HP
    by_cases hlt : b < L.length
    · have hbi : (b : Int) < (L.length : Int) := by omega
      go_wp2
      go_loopw [9] (fun i wr => ∃ a : Nat, b ≤ a ∧ a ≤ L.length ∧ i = .int .i64 a ∧ Hid (RowI wr w2.heap.size L.length (tabS L L.length b a)) ∧ Hid (Below w2.heap.size w2 wr)) (fun i _ => L.length - (intOf i).toNat)
      case atStart => exact ⟨b, by omega, by omega, rfl, HR, HB⟩
      case round =>
        obtain ⟨a, hba, ha, rfl, HR, HB⟩ := hrel
        by_cases hal : a < L.length
        · have hali : (a : Int) < (L.length : Int) := by omega
          obtain ⟨bb, rfl⟩ := HBN.out a hal
          obtain ⟨hbb, cy0⟩ := HBEL.out a hal bb rfl
          have cy := (HB.out.cell (p := ⟨bb, a, none⟩) (Nat.lt_of_lt_of_le hbb HW2.out)).trans ((HB2.out.cell (p := ⟨bb, a, none⟩) hbb).trans cy0)
          have cd := (HB.out.cell (p := ⟨h6, b, none⟩) hlt62).trans (HROW2.out b hlt)
          have HSN : Hid (sealN L a b = decide (3 ≤ handsN L (bits .and .i64 (bel L a) (nodS L b L.length)))) := rfl
          have hand := nodAt_bd (L := L) hL (a := a) (by omega) b
          unfold nodAt at hand
          have HZ : Hid (bits .and .i64 (bel L a) (nodS L b L.length) = 0 → sealN L a b = false) := fun hz => by
            rw [HSN.out, hz, hands_zero (fun i _ => Lc.bit_zero i)]; rfl
          clear cy0 hbb
          generalize bel L a = y at cy HSN hand HZ
          generalize nodS L b L.length = z at cd HSN hand HZ
          generalize hyz : bits .and .i64 y z = s at HSN hand HZ
          by_cases hs : s = 0
          · have hp := HZ.out hs
            have HT2 : Hid (tabS L L.length b (a + 1) = tabS L L.length b a) := tabS_skip L L.length b a hp
            subst hs
            have HYZ : Hid (bits .and .i64 y z = 0) := hyz
            clear hp HSN HZ hand hyz
            go_wp2_with fail
            go_quiet (fail)
            rw [HYZ.out]
            go_wp2
            go_roundw
            case rel => exact ⟨a + 1, by omega, by omega, by go_num, by show RowI _ _ _ _; rw [HT2.out]; exact HR.out.drewN nq, Db.below_drewN HB.out nq⟩
            case measure => simp [intOf]; omega
          · have hs1 : (s != 0) = true := by simpa using hs
            have HYZ : Hid (bits .and .i64 y z = s) := hyz
            have HCNT : Hid (∀ W : World, Below w2.heap.size w2 W → Calls Tryz.prog 56 #[.slice (some ⟨of, 0, none⟩) 4 oc, .int .i64 s] W fun e w' => e = .returned (.int .i64 (handsN L s)) ∧ W = w') := fun W hW => Lc.l3Count of oc L s W hL hand.1 (by omega) (four_below HF2.out hW)
            have hhb := Lc.handsN_bd L s
            clear hyz HZ hs
            generalize handsN L s = hn at HSN HCNT hhb
            go_wp2_with fail
            go_quiet (fail)
            rw [HYZ.out]
            clear cy cd HYZ
            have R1 := HR.out.drewN nq
            have HB1 : Hid (Below w2.heap.size w2 (wr.drewN nq)) := Db.below_drewN HB.out nq
            clear HR HB
            generalize wr.drewN nq = V at R1 HB1 ⊢
            have HR1 : Hid (RowI V w2.heap.size L.length (tabS L L.length b a)) := R1
            clear R1
            go_wp2_with fail
            refine (HCNT.out _ HB1.out).mono ?_
            rintro e V' ⟨rfl, rfl⟩
            clear HCNT
            by_cases h3 : 3 ≤ hn
            · have hp : sealN L a b = true := by rw [HSN.out]; exact decide_eq_true h3
              have HT2 : Hid ((fun i => if i = b then withB (sealS L b a) a else tabS L L.length b a i) = tabS L L.length b (a + 1)) := tabS_put L L.length b a hp
              have e1 := HR1.out.rd b hlt
              rw [tabS_at] at e1
              have f1 := HR1.out.fr b hlt
              have hda := sealS_bd L b a (by omega)
              have HO1 : Hid (bits .or .i64 (sealS L b a) (2 ^ a) = withB (sealS L b a) a) := Base.shl_or _ a hda.1 hda.2 (by omega)
              have HR2 : Hid (RowI (V.setCell ⟨w2.heap.size, b, none⟩ (.int .i64 (withB (sealS L b a) a))) w2.heap.size L.length (tabS L L.length b (a + 1))) := by
                show RowI _ _ _ _
                rw [← HT2.out]; exact HR1.out.put b hlt _
              have HB3 : Hid (Below w2.heap.size w2 (V.setCell ⟨w2.heap.size, b, none⟩ (.int .i64 (withB (sealS L b a) a)))) := HB1.out.setCell (p := ⟨w2.heap.size, b, none⟩) (Nat.le_refl _) _
              clear HR1 HB1 HT2 HSN hp
              generalize sealS L b a = x at e1 hda HO1 HR2 HB3
              go_wp2_with fail
              go_region_with (go_at_call 38; refine (Base.l1Bit _ _ (by omega) (by omega)).mono ?_; rintro e w' ⟨rfl, rfl⟩; rw [Int.toNat_natCast])
              all_goals
                rw [HO1.out]
                go_wp2
                go_roundw
                case rel => exact ⟨a + 1, by omega, by omega, by go_num, HR2.out.drew, HB3.out.drew⟩
                case measure => simp [intOf]; omega
            · have hp : sealN L a b = false := by rw [HSN.out]; exact decide_eq_false h3
              have HT2 : Hid (tabS L L.length b (a + 1) = tabS L L.length b a) := tabS_skip L L.length b a hp
              clear hp HSN
              go_wp2
              go_roundw
              case rel => exact ⟨a + 1, by omega, by omega, by go_num, by show RowI _ _ _ _; rw [HT2.out]; exact HR1.out, HB1⟩
              case measure => simp [intOf]; omega
        · obtain rfl : a = L.length := by omega
          go_wp2
          go_roundw
          case rel => exact ⟨b + 1, by omega, by go_num, rowI_eq HR.out fun i _ => tabS_next HL.out b hlt i, HB⟩
          case measure => simp [intOf]; omega
    · obtain rfl : b = L.length := by omega
      go_wp2
      go_ret
      exact ⟨_, _, rfl, HW2.out, HR.out, fun i hi => by unfold tabS; rw [if_pos hi], HB2.out.trans (HB.out.mono HB2.out.size)⟩

/-- the model's table of those that seal, with what it stands on -/
theorem table7 (g off cap : Nat) (L : List K) (w : World) (hl : laceB L = true) (hr : RdK w (some ⟨g, off, none⟩) L) :
    Calls Tryz.prog 20 #[.slice (some ⟨g, off, none⟩) L.length cap] w fun e w' => ∃ bo bc, e = .returned (.slice bo L.length bc) ∧ Below w.heap.size w w' ∧
      Calls Tryz.prog 35 #[.slice (some ⟨g, off, none⟩) L.length cap, .slice bo L.length bc] w' (SealPost L w') := by
  have h60 := ((Lc.lace_iff L).1 hl).1
  refine (Sg.l4All (some ⟨g, off, none⟩) cap L w h60 (Sg.frm_lace hl) hr).mono ?_
  rintro e w1 ⟨bo, bc, rfl, hown, hb1⟩
  have hbl := Sg.belows_len L L.length
  refine ⟨bo, bc, by rw [hbl], hb1, ?_⟩
  exact l7All g off cap L bo bc w1 hl (hr.below hb1) (Lst.own_rd hown) (fun g' e => by subst e; exact (World.ownsRow.lt hown g' rfl).2)

end Sl
end Go.Proofs.YtodgkhlnefggdaaGreat
