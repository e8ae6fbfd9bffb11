/-
  FnSeals answers true at every code, for Seals answers as it should over every lace that is drawn; no condition.
  Plain mathematics of sealing, for laces: below whom three hands nodded. No program in it.
  What the model answers for those that seal: for each knot of a lace the set of those below which three hands nodded to it; for lists of knots whose words have at most 2^40 bytes.
  What the program's own Seals, Sealers and SealedOf answer, in the words of SealM; for lists of knots whose words have at most 2^40 bytes.
  What the laws on sealing answer, where the drawing of a room keeps its word and the program's Seals, Sealers and SealedOf answer as they should: true at every code.
  The drawing of a room keeps its word.
-/
import Derived.Test.YtdcjjopeobnpgabSlZa
import Derived.Deep.RegionHeld3
import Derived.Deep.CutBlock
import Derived.Test.YtdcjjopeobnpgabRoomXm
import Derived.Test.YtdcjjopeobnpgabRows
import Derived.WalkKit
import Derived.ProofKit
import Derived.OpenShut
import Derived.ChangeOld
import Derived.Below
namespace Go.Proofs.Ytdcjjopeobnpgab
open Go.RowKit
set_option maxRecDepth 100000
namespace Sl
open Kn (K okK)
open Bit (bit withB memTo)
open Lc (at' laceB setB handsN hasHand)
open Sg (isB bel)
open Nd (nodN nodS)

theorem and_bd (a b : Int) (h0 : 0 ≤ a) (h1 : a < 1152921504606846976) (h2 : 0 ≤ b) (h3 : b < 1152921504606846976) : 0 ≤ bits .and .i64 a b ∧ bits .and .i64 a b < 1152921504606846976 := by
  rw [Lc.i64_and a b h0 (by omega) h2 (by omega)]
  have := Nat.and_le_left (n := a.toNat) (m := b.toNat)
  omega
theorem bit_and (a b : Int) (h1 : 0 ≤ a) (h2 : a < 1152921504606846976) (h3 : 0 ≤ b) (h4 : b < 1152921504606846976) (i : Nat) : bit (bits .and .i64 a b) i = (bit a i && bit b i) := by
  rw [Lc.i64_and a b h1 (by omega) h3 (by omega), Bit.bit_testBit _ (by omega), Int.toNat_natCast, Nat.testBit_and, ← Bit.bit_testBit _ h1, ← Bit.bit_testBit _ h3]

/-- those below a that nod to b -/
def nodAt (L : List K) (a b : Nat) : Int := bits .and .i64 (bel L a) (nodS L b L.length)
/-- three hands of those below a nodded to b -/
def sealN (L : List K) (a b : Nat) : Bool := decide (3 ≤ handsN L (nodAt L a b))
/-- the document's Seals -/
def sealsB (L : List K) (a b : Int) : Bool := isB L a && (isB L b && sealN L a.toNat b.toNat)
/-- those of the first that seal b -/
def sealS (L : List K) (b : Nat) : Nat → Int
  | 0 => 0
  | n + 1 => if sealN L n b then withB (sealS L b n) n else sealS L b n
/-- the document's Sealers -/
def sealersI (L : List K) (s b : Int) : Int := if setB L s && isB L b then bits .and .i64 s (sealS L b.toNat L.length) else -1
/-- those of the first that a seals -/
def sealedS (L : List K) (a : Nat) : Nat → Int
  | 0 => 0
  | n + 1 => if sealN L a n then withB (sealedS L a n) n else sealedS L a n
/-- the document's SealedOf -/
def sealedI (L : List K) (a : Int) : Int := if isB L a then sealedS L a.toNat L.length else -1

theorem nodAt_bd {L : List K} (h60 : L.length ≤ 60) {a : Nat} (ha : a < 60) (b : Nat) : 0 ≤ nodAt L a b ∧ nodAt L a b < 1152921504606846976 :=
  and_bd _ _ (Sg.bel_bd L a ha).1 (Sg.bel_bd L a ha).2 (Nd.nodS_bd L b _ h60).1 (Nd.nodS_bd L b _ h60).2
theorem bit_nodAt {L : List K} (h60 : L.length ≤ 60) {a : Nat} (ha : a < 60) (b i : Nat) : bit (nodAt L a b) i = (bit (bel L a) i && (decide (i < L.length) && nodN L i b)) := by
  unfold nodAt
  rw [bit_and _ _ (Sg.bel_bd L a ha).1 (Sg.bel_bd L a ha).2 (Nd.nodS_bd L b _ h60).1 (Nd.nodS_bd L b _ h60).2, Nd.bit_nodS L b _ h60]

theorem sealS_bd (L : List K) (b n : Nat) (hn : n ≤ 60) : 0 ≤ sealS L b n ∧ sealS L b n < 1152921504606846976 := by
  induction n with
  | zero => exact ⟨Int.le_refl 0, show (0 : Int) < 1152921504606846976 by decide⟩
  | succ n ih =>
    have h := ih (by omega)
    unfold sealS; split
    · exact Bit.withB_bd _ h.1 h.2 n (by omega)
    · exact h
theorem bit_sealS (L : List K) (b n : Nat) (hn : n ≤ 60) (j : Nat) : bit (sealS L b n) j = (decide (j < n) && sealN L j b) := by
  induction n with
  | zero => show bit 0 j = _; rw [Lc.bit_zero]; simp
  | succ n ih =>
    have h := sealS_bd L b n (by omega)
    unfold sealS
    cases hd : sealN L n b
    · rw [if_neg (by simp), ih (by omega)]
      by_cases e : j = n
      · subst e; rw [hd]; simp
      · have : decide (j < n + 1) = decide (j < n) := by simp; omega
        rw [this]
    · rw [if_pos rfl, Bit.bit_withB _ h.1, ih (by omega)]
      by_cases e : j = n
      · subst e; rw [hd]; simp
      · have : decide (j < n + 1) = decide (j < n) := by simp; omega
        rw [this, decide_eq_false e, Bool.false_or]
theorem sealedS_bd (L : List K) (a n : Nat) (hn : n ≤ 60) : 0 ≤ sealedS L a n ∧ sealedS L a n < 1152921504606846976 := by
  induction n with
  | zero => exact ⟨Int.le_refl 0, show (0 : Int) < 1152921504606846976 by decide⟩
  | succ n ih =>
    have h := ih (by omega)
    unfold sealedS; split
    · exact Bit.withB_bd _ h.1 h.2 n (by omega)
    · exact h
theorem bit_sealedS (L : List K) (a n : Nat) (hn : n ≤ 60) (j : Nat) : bit (sealedS L a n) j = (decide (j < n) && sealN L a j) := by
  induction n with
  | zero => show bit 0 j = _; rw [Lc.bit_zero]; simp
  | succ n ih =>
    have h := sealedS_bd L a n (by omega)
    unfold sealedS
    cases hd : sealN L a n
    · rw [if_neg (by simp), ih (by omega)]
      by_cases e : j = n
      · subst e; rw [hd]; simp
      · have : decide (j < n + 1) = decide (j < n) := by simp; omega
        rw [this]
    · rw [if_pos rfl, Bit.bit_withB _ h.1, ih (by omega)]
      by_cases e : j = n
      · subst e; rw [hd]; simp
      · have : decide (j < n + 1) = decide (j < n) := by simp; omega
        rw [this, decide_eq_false e, Bool.false_or]

theorem has_mono {L : List K} {s t : Int} (h : ∀ i, i < L.length → bit s i = true → bit t i = true) (k : Int) (hs : hasHand L s k = true) : hasHand L t k = true := by
  obtain ⟨i, hi, hb, he⟩ := (Lc.hasHand_iff L s k).1 hs
  exact (Lc.hasHand_iff L t k).2 ⟨i, hi, h i hi hb, he⟩
theorem if_mono {a b : Bool} (h : a = true → b = true) : (if a = true then (1 : Int) else 0) ≤ if b = true then 1 else 0 := by
  cases a
  · rw [if_neg (by simp)]; split <;> omega
  · rw [if_pos rfl, if_pos (h rfl)]; exact Int.le_refl 1
theorem hands_mono {L : List K} {s t : Int} (h : ∀ i, i < L.length → bit s i = true → bit t i = true) : handsN L s ≤ handsN L t := by
  have q := fun k => if_mono (has_mono h k)
  have h0 := q 0
  have h1 := q 1
  have h2 := q 2
  have h3 := q 3
  unfold Lc.handsN
  omega
theorem hands_zero {L : List K} {s : Int} (h : ∀ i, i < L.length → bit s i = false) : handsN L s = 0 := by
  have q : ∀ k, hasHand L s k = false := fun k => by
    rw [Bool.eq_false_iff]
    intro hs
    obtain ⟨i, hi, hb, _⟩ := (Lc.hasHand_iff L s k).1 hs
    rw [h i hi] at hb; exact Bool.noConfusion hb
  unfold Lc.handsN
  rw [q 0, q 1, q 2, q 3]; rfl
/-- of two hands a set of three has one -/
theorem hands_two {L : List K} {s : Int} (h : 3 ≤ handsN L s) {x y : Int} (hx : x = 0 ∨ x = 1 ∨ x = 2 ∨ x = 3) (hy : y = 0 ∨ y = 1 ∨ y = 2 ∨ y = 3) (hne : x ≠ y) : hasHand L s x = true ∨ hasHand L s y = true := by
  unfold Lc.handsN at h
  rcases hx with rfl | rfl | rfl | rfl <;> rcases hy with rfl | rfl | rfl | rfl <;> first | exact absurd rfl hne | skip
  all_goals
    cases q0 : hasHand L s 0 <;> cases q1 : hasHand L s 1 <;> cases q2 : hasHand L s 2 <;> cases q3 : hasHand L s 3 <;> simp [q0, q1, q2, q3] at h ⊢
/-- two sets of three hands have a hand in common that is not the bad one -/
theorem hands_meet {L : List K} {s t : Int} (hs : 3 ≤ handsN L s) (ht : 3 ≤ handsN L t) (bad : Int) : ∃ k : Int, (k = 0 ∨ k = 1 ∨ k = 2 ∨ k = 3) ∧ k ≠ bad ∧ hasHand L s k = true ∧ hasHand L t k = true := by
  unfold Lc.handsN at hs ht
  by_cases b0 : bad = 0
  · subst b0
    by_cases c1 : hasHand L s 1 = true ∧ hasHand L t 1 = true
    · exact ⟨1, by simp, by decide, c1⟩
    · by_cases c2 : hasHand L s 2 = true ∧ hasHand L t 2 = true
      · exact ⟨2, by simp, by decide, c2⟩
      · refine ⟨3, by simp, by decide, ?_⟩
        cases q0 : hasHand L s 0 <;> cases q1 : hasHand L s 1 <;> cases q2 : hasHand L s 2 <;> cases q3 : hasHand L s 3 <;> simp [q0, q1, q2, q3] at hs c1 c2 ⊢
        all_goals
          cases r0 : hasHand L t 0 <;> cases r1 : hasHand L t 1 <;> cases r2 : hasHand L t 2 <;> cases r3 : hasHand L t 3 <;> simp [r0, r1, r2, r3] at ht c1 c2 ⊢
  · by_cases c0 : hasHand L s 0 = true ∧ hasHand L t 0 = true
    · exact ⟨0, by simp, fun e => b0 e.symm, c0⟩
    · by_cases b1 : bad = 1
      · subst b1
        by_cases c2 : hasHand L s 2 = true ∧ hasHand L t 2 = true
        · exact ⟨2, by simp, by decide, c2⟩
        · refine ⟨3, by simp, by decide, ?_⟩
          cases q0 : hasHand L s 0 <;> cases q1 : hasHand L s 1 <;> cases q2 : hasHand L s 2 <;> cases q3 : hasHand L s 3 <;> simp [q0, q1, q2, q3] at hs c0 c2 ⊢
          all_goals
            cases r0 : hasHand L t 0 <;> cases r1 : hasHand L t 1 <;> cases r2 : hasHand L t 2 <;> cases r3 : hasHand L t 3 <;> simp [r0, r1, r2, r3] at ht c0 c2 ⊢
      · by_cases c1 : hasHand L s 1 = true ∧ hasHand L t 1 = true
        · exact ⟨1, by simp, fun e => b1 e.symm, c1⟩
        · by_cases b2 : bad = 2
          · refine ⟨3, by simp, by omega, ?_⟩
            cases q0 : hasHand L s 0 <;> cases q1 : hasHand L s 1 <;> cases q2 : hasHand L s 2 <;> cases q3 : hasHand L s 3 <;> simp [q0, q1, q2, q3] at hs c0 c1 ⊢
            all_goals
              cases r0 : hasHand L t 0 <;> cases r1 : hasHand L t 1 <;> cases r2 : hasHand L t 2 <;> cases r3 : hasHand L t 3 <;> simp [r0, r1, r2, r3] at ht c0 c1 ⊢
          · refine ⟨2, by simp, fun e => b2 e.symm, ?_⟩
            cases q0 : hasHand L s 0 <;> cases q1 : hasHand L s 1 <;> cases q2 : hasHand L s 2 <;> cases q3 : hasHand L s 3 <;> simp [q0, q1, q2, q3] at hs c0 c1 ⊢
            all_goals
              cases r0 : hasHand L t 0 <;> cases r1 : hasHand L t 1 <;> cases r2 : hasHand L t 2 <;> cases r3 : hasHand L t 3 <;> simp [r0, r1, r2, r3] at ht c0 c1 ⊢

/-- what one seals it sees -/
theorem seal_sees {L : List K} (hl : laceB L = true) {a b : Nat} (ha : a < L.length) (hs : sealN L a b = true) : bit (bel L a) b = true := by
  have h60 := ((Lc.lace_iff L).1 hl).1
  unfold sealN at hs
  rw [decide_eq_true_eq] at hs
  apply Classical.byContradiction
  intro hn
  have hz : handsN L (nodAt L a b) = 0 := hands_zero fun i hi => by
    rw [Bool.eq_false_iff, bit_nodAt h60 (by omega)]
    intro h
    rw [Bool.and_eq_true, Bool.and_eq_true] at h
    have h2 := ((Nd.nod_iff h60 (by omega)).1 h.2.2).1
    apply hn
    exact (Sg.bel_reach hl a ha b).2 (Sg.Reach.trans ((Sg.bel_reach hl a ha i).1 h.1) ((Sg.bel_reach hl i hi b).1 h2))
  omega
theorem seal_le {L : List K} (hl : laceB L = true) {a b : Nat} (ha : a < L.length) (hs : sealN L a b = true) : b ≤ a := by
  have := seal_sees hl ha hs
  exact Sg.reach_le hl ha ((Sg.bel_reach hl a ha b).1 this)
/-- what sees one that seals, seals -/
theorem seal_up {L : List K} (hl : laceB L = true) {x a b : Nat} (hx : x < L.length) (hxa : bit (bel L x) a = true) (hs : sealN L a b = true) : sealN L x b = true := by
  have h60 := ((Lc.lace_iff L).1 hl).1
  have hax : a ≤ x := Sg.reach_le hl hx ((Sg.bel_reach hl x hx a).1 hxa)
  unfold sealN at hs ⊢
  rw [decide_eq_true_eq] at hs ⊢
  refine Int.le_trans hs (hands_mono fun i hi hb => ?_)
  rw [bit_nodAt h60 (by omega), Bool.and_eq_true] at hb ⊢
  exact ⟨(Sg.bel_reach hl x hx i).2 (Sg.Reach.trans ((Sg.bel_reach hl x hx a).1 hxa) ((Sg.bel_reach hl a (by omega) i).1 hb.1)), hb.2⟩

end Sl
end Go.Proofs.Ytdcjjopeobnpgab

namespace Go.Proofs.Ytdcjjopeobnpgab
open Go.RowKit
set_option maxRecDepth 100000
namespace Sl
open Kn (K okK)
open Bit (bit withB)
open Lc (at' RdK WordsOk laceB setB Four ofH handsN)
open Sg (isB bel belows)
open Db (RowI)
open Nd (nodS)

/-- the table when all below b have been done, and of b those below a -/
def tabS (L : List K) (N b a i : Nat) : Int := if i < b then sealS L i N else if i = b then sealS L i a else 0

theorem sealS_low {L : List K} (hl : laceB L = true) (b n : Nat) (hn : n ≤ L.length) (h : n ≤ b) : sealS L b n = 0 := by
  induction n with
  | zero => rfl
  | succ n ih =>
    have hf : sealN L n b = false := by
      rw [Bool.eq_false_iff]
      intro hs
      have := seal_le hl (by omega) hs
      omega
    unfold sealS
    rw [hf, if_neg (by simp)]
    exact ih (by omega) (by omega)
theorem tabS_zero (L : List K) (N : Nat) : tabS L N 0 0 = fun _ => 0 := by
  funext i
  unfold tabS
  rw [if_neg (by omega)]
  split
  · rfl
  · rfl
theorem tabS_next {L : List K} (hl : laceB L = true) (b : Nat) (hb : b < L.length) (i : Nat) : tabS L L.length b L.length i = tabS L L.length (b + 1) (b + 1) i := by
  unfold tabS
  by_cases h1 : i < b
  · rw [if_pos h1, if_pos (by omega)]
  · by_cases h2 : i = b
    · rw [if_neg h1, if_pos h2, if_pos (by omega)]
    · rw [if_neg h1, if_neg h2, if_neg (by omega)]
      by_cases h3 : i = b + 1
      · rw [if_pos h3, sealS_low hl _ _ (by omega) (by omega)]
      · rw [if_neg h3]
theorem tabS_skip (L : List K) (N b a : Nat) (hp : sealN L a b = false) : tabS L N b (a + 1) = tabS L N b a := by
  funext i
  unfold tabS
  by_cases h2 : i = b
  · subst h2
    rw [if_neg (by omega), if_pos rfl, if_neg (by omega), if_pos rfl]
    show sealS L i (a + 1) = _
    conv => lhs; unfold sealS
    rw [hp, if_neg (by simp)]
  · rw [if_neg h2, if_neg h2]
theorem tabS_put (L : List K) (N b a : Nat) (hp : sealN L a b = true) : (fun i => if i = b then withB (sealS L b a) a else tabS L N b a i) = tabS L N b (a + 1) := by
  funext i
  unfold tabS
  by_cases h2 : i = b
  · subst h2
    rw [if_pos rfl, if_neg (by omega), if_pos rfl]
    show _ = sealS L i (a + 1)
    conv => rhs; unfold sealS
    rw [hp, if_pos rfl]
  · rw [if_neg h2, if_neg h2, if_neg h2]
theorem tabS_at (L : List K) (N b a : Nat) : tabS L N b a b = sealS L b a := by
  unfold tabS; rw [if_neg (by omega), if_pos rfl]
theorem rowI_eq {w : World} {g n : Nat} {D E : Nat → Int} (h : RowI w g n D) (e : ∀ i, i < n → D i = E i) : RowI w g n E := ⟨h.lt, fun i hi => by rw [← e i hi]; exact h.rd i hi, h.fr⟩
theorem four_below {w w' : World} {g : Nat} {x0 x1 x2 x3 : Int} (h : Four w g x0 x1 x2 x3) (hb : Below w.heap.size w w') : Four w' g x0 x1 x2 x3 where
  lt := Nat.lt_of_lt_of_le h.lt hb.size
  c0 := (hb.cell (p := ⟨g, 0, none⟩) h.lt).trans h.c0
  c1 := (hb.cell (p := ⟨g, 1, none⟩) h.lt).trans h.c1
  c2 := (hb.cell (p := ⟨g, 2, none⟩) h.lt).trans h.c2
  c3 := (hb.cell (p := ⟨g, 3, none⟩) h.lt).trans h.c3
  f := fun j hj => (hb.frozen (p := ⟨g, j, none⟩) h.lt).trans (h.f j hj)

/-- the table of those that seal is handed back -/
def SealPost (L : List K) (w : World) (e : Ending) (w' : World) : Prop := ∃ h O, e = .returned (.slice (some ⟨h, 0, none⟩) L.length L.length) ∧ w.heap.size ≤ h ∧ RowI w' h L.length O ∧ (∀ i, i < L.length → O i = sealS L i L.length) ∧ Below w.heap.size w w'

set_option maxHeartbeats 6400000 in
theorem l7All (g off cap : Nat) (L : List K) (bo : Option Addr) (bc : Nat) (w : World) (hl : laceB L = true) (hr : RdK w (some ⟨g, off, none⟩) L) (hrd : Lst.Rd w bo (belows L L.length)) (hbo : ∀ c, bo = some ⟨c, 0, none⟩ → c < w.heap.size) :
    Calls Try.prog 17 #[.slice (some ⟨g, off, none⟩) L.length cap, .slice bo L.length bc] w (SealPost L w) := by
  have hL := ((Lc.lace_iff L).1 hl).1
  have hbl := Sg.belows_len L L.length
  have H6 : Hid (Calls Try.prog 21 #[.slice (some ⟨g, off, none⟩) L.length cap, .slice bo L.length bc] w fun e2 w2 => ∃ h O, e2 = .returned (.slice (some ⟨h, 0, none⟩) L.length L.length) ∧ RowI w2 h L.length O ∧ (∀ i, i < L.length → O i = nodS L i L.length) ∧ Below w.heap.size w w2) := by
    have h6 := Nd.l6All (some ⟨g, off, none⟩) cap L bo bc (belows L L.length) w hL hbl (Sg.belows_in L L.length hL) hr hrd hbo
    rw [hbl] at h6
    refine h6.mono ?_
    rintro e w2 ⟨h, D, O, rfl, _, hrow, hD, hO, hb2⟩
    exact ⟨h, O, rfl, hrow, fun i hi => by rw [hO i hi, Nd.nodR_eq hl hD hi _ (Nat.le_refl _)], hb2⟩
  have hmk : ∀ W : World, (Instr.makeSlice 36 (.int .i64 (L.length : Int)) (.int .i64 (L.length : Int))).run Try.prog W = .ok (.slice (some ⟨W.heap.size, 0, none⟩) L.length L.length) (W.alloc (.cells (madeCells #[.int .i64 0] L.length) 2)) :=
    fun W => run_make_row' (P := Try.prog) 36 2 (.int .i64 0) 8 Try.underlying36 Memb.info2 rfl .i64 .i64 L.length (by omega) (by omega) W
  have HL : Hid (laceB L = true) := hl
  have HBEL : Hid (∀ a, a < L.length → ∀ bb, bo = some ⟨bb, 0, none⟩ → bb < w.heap.size ∧ w.cell? ⟨bb, a, none⟩ = some (.int .i64 (bel L a))) := fun a ha bb hb => by
    rcases hrd with hrd | ⟨b2, e2, hcell⟩
    · rw [hrd] at hbl; simp at hbl; omega
    · rw [hb] at e2; injection e2 with e2; injection e2 with e2; subst e2
      refine ⟨hbo bb hb, ?_⟩
      have := hcell a (by rw [hbl]; exact ha)
      rwa [Sg.belows_get L L.length a ha] at this
  have HBN : Hid (∀ a, a < L.length → ∃ bb, bo = some ⟨bb, 0, none⟩) := fun a ha => by
    rcases hrd with hrd | ⟨b2, e2, hcell⟩
    · rw [hrd] at hbl; simp at hbl; omega
    · exact ⟨b2, e2⟩
  have HHO : Hid (Lc.HandsOk L) := Lc.lace_hands hl
  clear hl hrd hbo hbl
  go_enter Try.func17, Try.ntmps17
  go_wp2_with fail
  refine H6.out.mono ?_
  rintro e w1 ⟨h6, O6, rfl, hrow6, hO6, hb1⟩
  clear H6
  have HROW : Hid (∀ i, i < L.length → w1.cell? ⟨h6, i, none⟩ = some (.int .i64 (nodS L i L.length))) := fun i hi => by rw [← hO6 i hi]; exact hrow6.rd i hi
  have hlt6 : h6 < w1.heap.size := hrow6.lt
  have hr1 := hr.below hb1
  clear hrow6 hO6
  go_wp2_with fail
  refine (Lc.l3Of _ cap L _ hL hr1 HHO.out).mono ?_
  rintro e w2 ⟨oc, rfl, hfour, hb2⟩
  have HF2 : Hid (Four w2 w1.heap.size (ofH L 0 L.length) (ofH L 1 L.length) (ofH L 2 L.length) (ofH L 3 L.length)) := hfour
  have HB2 : Hid (Below w.heap.size w w2) := hb1.trans (hb2.mono hb1.size)
  have HROW2 : Hid (∀ i, i < L.length → w2.cell? ⟨h6, i, none⟩ = some (.int .i64 (nodS L i L.length))) := fun i hi => (hb2.cell (p := ⟨h6, i, none⟩) hlt6).trans (HROW.out i hi)
  have hlt62 : h6 < w2.heap.size := Nat.lt_of_lt_of_le hlt6 hb2.size
  have HW2 : Hid (w.heap.size ≤ w2.heap.size) := HB2.out.size
  generalize w1.heap.size = of at HF2 ⊢
  clear hb1 hb2 hr1 hr HROW hlt6 hfour
  have HP : Hid (RowI (w2.alloc (.cells (madeCells #[.int .i64 0] L.length) 2)) w2.heap.size L.length (fun _ => 0) ∧ Below w2.heap.size w2 (w2.alloc (.cells (madeCells #[.int .i64 0] L.length) 2))) := ⟨Db.rowI_made _ _ _, (Below.refl _ _).alloc (Nat.le_refl _) _⟩
  generalize madeCells #[Value.int .i64 0] L.length = mc at hmk HP
  go_wp2
  clear hmk
  go_loopw [8] (fun i wr => ∃ b : Nat, b ≤ L.length ∧ i = .int .i64 b ∧ Hid (RowI wr w2.heap.size L.length (tabS L L.length b b)) ∧ Hid (Below w2.heap.size w2 wr)) (fun i _ => L.length - (intOf i).toNat)
  case atStart => exact ⟨0, by omega, rfl, by show RowI _ _ _ _; rw [tabS_zero]; exact HP.out.1, HP.out.2⟩
  case round =>
    obtain ⟨b, hb, rfl, HR, HB⟩ := hrel
    clear HP
    by_cases hlt : b < L.length
    · have hbi : (b : Int) < (L.length : Int) := by omega
      go_wp2
      go_loopw [9] (fun i wr => ∃ a : Nat, b ≤ a ∧ a ≤ L.length ∧ i = .int .i64 a ∧ Hid (RowI wr w2.heap.size L.length (tabS L L.length b a)) ∧ Hid (Below w2.heap.size w2 wr)) (fun i _ => L.length - (intOf i).toNat)
      case atStart => exact ⟨b, by omega, by omega, rfl, HR, HB⟩
      case round =>
        obtain ⟨a, hba, ha, rfl, HR, HB⟩ := hrel
        by_cases hal : a < L.length
        · have hali : (a : Int) < (L.length : Int) := by omega
          obtain ⟨bb, rfl⟩ := HBN.out a hal
          obtain ⟨hbb, cy0⟩ := HBEL.out a hal bb rfl
          have cy := (HB.out.cell (p := ⟨bb, a, none⟩) (Nat.lt_of_lt_of_le hbb HW2.out)).trans ((HB2.out.cell (p := ⟨bb, a, none⟩) hbb).trans cy0)
          have cd := (HB.out.cell (p := ⟨h6, b, none⟩) hlt62).trans (HROW2.out b hlt)
          have HSN : Hid (sealN L a b = decide (3 ≤ handsN L (bits .and .i64 (bel L a) (nodS L b L.length)))) := rfl
          have hand := nodAt_bd (L := L) hL (a := a) (by omega) b
          unfold nodAt at hand
          have HZ : Hid (bits .and .i64 (bel L a) (nodS L b L.length) = 0 → sealN L a b = false) := fun hz => by
            rw [HSN.out, hz, hands_zero (fun i _ => Lc.bit_zero i)]; rfl
          clear cy0 hbb
          generalize bel L a = y at cy HSN hand HZ
          generalize nodS L b L.length = z at cd HSN hand HZ
          generalize hyz : bits .and .i64 y z = s at HSN hand HZ
          by_cases hs : s = 0
          · have hp := HZ.out hs
            have HT2 : Hid (tabS L L.length b (a + 1) = tabS L L.length b a) := tabS_skip L L.length b a hp
            subst hs
            have HYZ : Hid (bits .and .i64 y z = 0) := hyz
            clear hp HSN HZ hand hyz
            go_wp2_with fail
            go_quiet (fail)
            rw [HYZ.out]
            go_wp2
            go_roundw
            case rel => exact ⟨a + 1, by omega, by omega, by go_num, by show RowI _ _ _ _; rw [HT2.out]; exact HR.out.drewN nq, Db.below_drewN HB.out nq⟩
            case measure => simp [intOf]; omega
          · have hs1 : (s != 0) = true := by simpa using hs
            have HYZ : Hid (bits .and .i64 y z = s) := hyz
            have HCNT : Hid (∀ W : World, Below w2.heap.size w2 W → Calls Try.prog 33 #[.slice (some ⟨of, 0, none⟩) 4 oc, .int .i64 s] W fun e w' => e = .returned (.int .i64 (handsN L s)) ∧ W = w') := fun W hW => Lc.l3Count of oc L s W hL hand.1 (by omega) (four_below HF2.out hW)
            have hhb := Lc.handsN_bd L s
            clear hyz HZ hs
            generalize handsN L s = hn at HSN HCNT hhb
            go_wp2_with fail
            go_quiet (fail)
            rw [HYZ.out]
            clear cy cd HYZ
            have R1 := HR.out.drewN nq
            have HB1 : Hid (Below w2.heap.size w2 (wr.drewN nq)) := Db.below_drewN HB.out nq
            clear HR HB
            generalize wr.drewN nq = V at R1 HB1 ⊢
            have HR1 : Hid (RowI V w2.heap.size L.length (tabS L L.length b a)) := R1
            clear R1
            go_wp2_with fail
            refine (HCNT.out _ HB1.out).mono ?_
            rintro e V' ⟨rfl, rfl⟩
            clear HCNT
            by_cases h3 : 3 ≤ hn
            · have hp : sealN L a b = true := by rw [HSN.out]; exact decide_eq_true h3
              have HT2 : Hid ((fun i => if i = b then withB (sealS L b a) a else tabS L L.length b a i) = tabS L L.length b (a + 1)) := tabS_put L L.length b a hp
              have e1 := HR1.out.rd b hlt
              rw [tabS_at] at e1
              have f1 := HR1.out.fr b hlt
              have hda := sealS_bd L b a (by omega)
              have HO1 : Hid (bits .or .i64 (sealS L b a) (2 ^ a) = withB (sealS L b a) a) := Base.shl_or _ a hda.1 hda.2 (by omega)
              have HR2 : Hid (RowI (V.setCell ⟨w2.heap.size, b, none⟩ (.int .i64 (withB (sealS L b a) a))) w2.heap.size L.length (tabS L L.length b (a + 1))) := by
                show RowI _ _ _ _
                rw [← HT2.out]; exact HR1.out.put b hlt _
              have HB3 : Hid (Below w2.heap.size w2 (V.setCell ⟨w2.heap.size, b, none⟩ (.int .i64 (withB (sealS L b a) a)))) := HB1.out.setCell (p := ⟨w2.heap.size, b, none⟩) (Nat.le_refl _) _
              clear HR1 HB1 HT2 HSN hp
              generalize sealS L b a = x at e1 hda HO1 HR2 HB3
              go_wp2_with fail
              go_region_with (go_at_call 34; refine (Base.l1Bit _ _ (by omega) (by omega)).mono ?_; rintro e w' ⟨rfl, rfl⟩; rw [Int.toNat_natCast])
              all_goals
                rw [HO1.out]
                go_wp2
                go_roundw
                case rel => exact ⟨a + 1, by omega, by omega, by go_num, HR2.out.drew, HB3.out.drew⟩
                case measure => simp [intOf]; omega
            · have hp : sealN L a b = false := by rw [HSN.out]; exact decide_eq_false h3
              have HT2 : Hid (tabS L L.length b (a + 1) = tabS L L.length b a) := tabS_skip L L.length b a hp
              clear hp HSN
              go_wp2
              go_roundw
              case rel => exact ⟨a + 1, by omega, by omega, by go_num, by show RowI _ _ _ _; rw [HT2.out]; exact HR1.out, HB1⟩
              case measure => simp [intOf]; omega
        · obtain rfl : a = L.length := by omega
          go_wp2
          go_roundw
          case rel => exact ⟨b + 1, by omega, by go_num, rowI_eq HR.out fun i _ => tabS_next HL.out b hlt i, HB⟩
          case measure => simp [intOf]; omega
    · obtain rfl : b = L.length := by omega
      go_wp2
      go_ret
      exact ⟨_, _, rfl, HW2.out, HR.out, fun i hi => by unfold tabS; rw [if_pos hi], HB2.out.trans (HB.out.mono HB2.out.size)⟩

/-- the model's table of those that seal, with what it stands on -/
theorem table7 (g off cap : Nat) (L : List K) (w : World) (hl : laceB L = true) (hr : RdK w (some ⟨g, off, none⟩) L) :
    Calls Try.prog 18 #[.slice (some ⟨g, off, none⟩) L.length cap] w fun e w' => ∃ bo bc, e = .returned (.slice bo L.length bc) ∧ Below w.heap.size w w' ∧
      Calls Try.prog 17 #[.slice (some ⟨g, off, none⟩) L.length cap, .slice bo L.length bc] w' (SealPost L w') := by
  have h60 := ((Lc.lace_iff L).1 hl).1
  refine (Sg.l4All (some ⟨g, off, none⟩) cap L w h60 (Sg.frm_lace hl) hr).mono ?_
  rintro e w1 ⟨bo, bc, rfl, hown, hb1⟩
  have hbl := Sg.belows_len L L.length
  refine ⟨bo, bc, by rw [hbl], hb1, ?_⟩
  exact l7All g off cap L bo bc w1 hl (hr.below hb1) (Lst.own_rd hown) (fun g' e => by subst e; exact (World.ownsRow.lt hown g' rfl).2)

set_option maxHeartbeats 1600000 in
theorem specSeals (g off cap : Nat) (L : List K) (a b : Int) (w : World) (hcap : L.length ≤ cap) (hw : WordsOk L) (hr : RdK w (some ⟨g, off, none⟩) L) :
    Calls Try.prog 7 #[.slice (some ⟨g, off, none⟩) L.length cap, .int .i64 a, .int .i64 b] w fun e w' => e = .returned (.bool (sealsB L a b)) ∧ Below w.heap.size w w' := by
  go_enter Try.func7, Try.ntmps7
  go_wp2_with fail
  refine (Sg.l4Is g off cap L a _ hcap hw hr).mono ?_
  rintro e w1 ⟨rfl, hb1⟩
  have hr1 := hr.below hb1
  cases his : isB L a
  · have HT : Hid (sealsB L a b = false) := by show _ = _; unfold sealsB; rw [his]; rfl
    clear his
    go_wp2
    go_ret
    exact ⟨by rw [HT.out]; rfl, hb1⟩
  · have HT1 : Hid (sealsB L a b = (isB L b && sealN L a.toNat b.toNat)) := by show _ = _; unfold sealsB; rw [his]; rfl
    obtain ⟨h0, h1, hlc⟩ := Sg.isB_parts his
    clear his
    go_wp2_with fail
    refine (Sg.l4Is g off cap L b _ hcap hw hr1).mono ?_
    rintro e w2 ⟨rfl, hb2⟩
    have hr2 := hr1.below hb2
    have hB2 := hb1.trans (hb2.mono hb1.size)
    clear hb1 hb2 hr1
    cases hib : isB L b
    · have HT : Hid (sealsB L a b = false) := by show _ = _; rw [HT1.out, hib]; rfl
      clear hib HT1
      go_wp2
      go_ret
      exact ⟨by rw [HT.out]; rfl, hB2⟩
    · have HT : Hid (sealsB L a b = sealN L a.toNat b.toNat) := by show _ = _; rw [HT1.out, hib]; rfl
      obtain ⟨q0, q1, _⟩ := Sg.isB_parts hib
      have h60 := ((Lc.lace_iff L).1 hlc).1
      have HLC : Hid (laceB L = true) := hlc
      clear hib hlc HT1
      obtain ⟨p, rfl⟩ := Int.eq_ofNat_of_zero_le h0
      obtain ⟨q, rfl⟩ := Int.eq_ofNat_of_zero_le q0
      have hp : p < L.length := by omega
      have hq : q < L.length := by omega
      rw [Int.toNat_natCast, Int.toNat_natCast] at HT
      go_wp2_with fail
      refine (table7 g off cap L _ HLC.out hr2).mono ?_
      rintro e w3 ⟨bo, bc, rfl, hb3, h5⟩
      have hB3 := hB2.trans (hb3.mono hB2.size)
      clear hB2 hb3 hr2 hr
      go_wp2_with fail
      refine h5.mono ?_
      rintro e w4 ⟨h, O, rfl, _, hrow, hO, hb4⟩
      have hB4 := hB3.trans (hb4.mono hB3.size)
      have cp := hrow.rd q hq
      rw [hO q hq] at cp
      have hbd := sealS_bd L q L.length h60
      have HC := Db.has_call (sealS L q L.length) p (sealN L p q) hbd.1 hbd.2 (by omega) (by rw [bit_sealS L q _ h60 p]; simp [hp])
      clear hb4 hB3 hrow hO h5 hbd
      go_wp2_with (go_at_call 16; refine (HC _).mono ?_; rintro e w' ⟨rfl, rfl⟩)
      go_ret
      exact ⟨by rw [HT.out]; rfl, hB4⟩

end Sl
end Go.Proofs.Ytdcjjopeobnpgab

namespace Go.Proofs.Ytdcjjopeobnpgab
open Go.RowKit
set_option maxRecDepth 100000
set_option linter.unusedVariables false
namespace Sl
open Kn (K okK)
open Bit (bit withB memTo)
open Lc (at' RdK WordsOk laceB setB HandsOk handsN)
open Sg (isB bel belows seesB metI)
open Nd (nodF nodsB nodN nodS)
open Ak (onlyF)

/-- all that nod to b, as the program tells them -/
def ndI (L : List K) (b : Int) : Int := nodF L b (Memb.memI (2 ^ L.length - 1))

theorem ndI_bd (L : List K) (b : Int) : 0 ≤ ndI L b ∧ ndI L b < 1152921504606846976 := (Nd.nodF_bits L b _ (fun _ h => Nd.mem_memI h)).1
theorem bit_ndI {L : List K} (h60 : L.length ≤ 60) (b : Int) (j : Nat) : bit (ndI L b) j = nodsB L (j : Int) b := by
  have hp := Lc.pow60 L.length h60
  rw [Bool.eq_iff_iff]
  unfold ndI
  rw [(Nd.nodF_bits L b _ (fun _ h => Nd.mem_memI h)).2 j, Ak.mem_bit (by omega) (by omega), Ak.bit_all h60]
  refine ⟨fun h => h.2, fun h => ⟨?_, h⟩⟩
  unfold Nd.nodsB at h
  rw [Bool.and_eq_true] at h
  obtain ⟨_, p1, _⟩ := Sg.isB_parts h.1
  exact decide_eq_true (by omega)

/-- what the program's sealing asks -/
theorem seal_asks {L : List K} (hl : laceB L = true) (a b : Int) : decide (3 ≤ handsN L (bits .and .i64 (ndI L b) (metI L a))) = sealsB L a b := by
  have h60 := ((Lc.lace_iff L).1 hl).1
  have hn := ndI_bd L b
  have hm := Nd.met_bd h60 a
  have hbit := fun i => bit_and (ndI L b) (metI L a) hn.1 hn.2 hm.1 hm.2 i
  unfold sealsB
  cases ha : isB L a
  · have : handsN L (bits .and .i64 (ndI L b) (metI L a)) = 0 := hands_zero fun i hi => by
      rw [hbit i]
      have e : metI L a = 0 := by
        unfold Sg.metI
        rw [if_neg]
        intro h
        rw [Db.isB_lace hl, decide_eq_true h.1, decide_eq_true h.2] at ha
        exact Bool.noConfusion ha
      rw [e, Lc.bit_zero, Bool.and_false]
    rw [this]; rfl
  · obtain ⟨a0, a1, _⟩ := Sg.isB_parts ha
    cases hb : isB L b
    · have : handsN L (bits .and .i64 (ndI L b) (metI L a)) = 0 := hands_zero fun i hi => by
        rw [hbit i, bit_ndI h60]
        unfold Nd.nodsB
        rw [hb]; simp
      rw [this]; rfl
    · obtain ⟨b0, b1, _⟩ := Sg.isB_parts hb
      have hma : metI L a = bel L a.toNat := by unfold Sg.metI; rw [if_pos ⟨a0, a1⟩]
      have key : ∀ i, i < L.length → bit (bits .and .i64 (ndI L b) (metI L a)) i = bit (nodAt L a.toNat b.toNat) i := fun i hi => by
        rw [hbit i, bit_ndI h60, hma, bit_nodAt h60 (by omega), decide_eq_true hi]
        unfold Nd.nodsB
        rw [hb, Int.toNat_natCast, Db.isB_lace hl, decide_eq_true (by omega : (0 : Int) ≤ (i : Int)), decide_eq_true (by omega : (i : Int) < (L.length : Int))]
        simp only [Bool.true_and]
        exact Bool.and_comm _ _
      have e : handsN L (bits .and .i64 (ndI L b) (metI L a)) = handsN L (nodAt L a.toNat b.toNat) :=
        Int.le_antisymm (hands_mono fun i hi h => by rw [← key i hi]; exact h) (hands_mono fun i hi h => by rw [key i hi]; exact h)
      rw [e]
      rfl

set_option maxHeartbeats 1600000 in
theorem sealing1 (bl bn g off cap : Nat) (L : List K) (a b : Int) (w : World) (hlc : laceB L = true) (hg : g < w.heap.size) (hr : RdK w (some ⟨g, off, none⟩) L)
    (hbl : bl < w.heap.size) (hbn : bn < w.heap.size) (cl : w.cell? ⟨bl, 0, none⟩ = some (.slice (some ⟨g, off, none⟩) L.length cap)) (cn : w.cell? ⟨bn, 0, none⟩ = some (.int .i64 (ndI L b))) :
    Calls Try.prog 47 #[.int .i64 a, .pointer (some ⟨bl, 0, none⟩), .pointer (some ⟨bn, 0, none⟩)] w fun e w' => e = .returned (.bool (sealsB L a b)) ∧ Below w.heap.size w w' := by
  have h60 := ((Lc.lace_iff L).1 hlc).1
  have hn := ndI_bd L b
  have hm := Nd.met_bd h60 a
  have hA := and_bd _ _ hn.1 hn.2 hm.1 hm.2
  have hbit := fun i => bit_and (ndI L b) (metI L a) hn.1 hn.2 hm.1 hm.2 i
  have hd : bits .and .i64 (ndI L b) (metI L a) / 2 ^ L.length = 0 := Lc.div_of_bits _ _ hA.1 fun i hi => by
    rw [hbit i, Bool.and_eq_false_iff]
    right
    rw [Bool.eq_false_iff]
    intro h
    have := Nd.met_in hlc a i h
    omega
  have HT : Hid (decide (3 ≤ handsN L (bits .and .i64 (ndI L b) (metI L a))) = sealsB L a b) := seal_asks hlc a b
  have HB : Hid (∀ W : World, Below w.heap.size w W → Calls Try.prog 49 #[.slice (some ⟨g, off, none⟩) L.length cap, .int .i64 a] W fun e w' => e = .returned (.int .i64 (metI L a)) ∧ Below w.heap.size w w') := fun W hW =>
    (Sg.below g off cap L a W hlc (Nat.lt_of_lt_of_le hg hW.size) (hr.below hW)).mono fun _ _ h => ⟨h.1, hW.trans (h.2.mono hW.size)⟩
  have HH : Hid (∀ W : World, Below w.heap.size w W → Calls Try.prog 48 #[.slice (some ⟨g, off, none⟩) L.length cap, .int .i64 (bits .and .i64 (ndI L b) (metI L a))] W fun e w' => e = .returned (.int .i64 (handsN L (bits .and .i64 (ndI L b) (metI L a)))) ∧ Below w.heap.size w w') := fun W hW =>
    (Lc.hands g off cap L _ W h60 hA.1 hA.2 hd (Lc.lace_hands hlc) (hr.below hW)).mono fun _ _ h => ⟨h.1, hW.trans (h.2.mono hW.size)⟩
  clear hd hbit hA
  generalize ndI L b = nd at cn HT HH hn
  generalize metI L a = mt at HT HH HB hm
  generalize hbb : bits .and .i64 nd mt = bb at HT HH
  have HBB : Hid (bits .and .i64 nd mt = bb) := hbb
  clear hbb
  generalize handsN L bb = hh at HT HH
  go_enter Try.func47, Try.ntmps47
  go_wp2_with fail
  obtain ⟨X, _, F, HF, HG⟩ := Fam.fam w
  have hc1 : ∀ z, (F z).cell? ⟨bl, 0, none⟩ = some (.slice (some ⟨g, off, none⟩) L.length cap) := fun z => ((HF.out z).cell (p := ⟨bl, 0, none⟩) hbl).trans cl
  have hc2 : ∀ z, (F z).cell? ⟨bn, 0, none⟩ = some (.int .i64 nd) := fun z => ((HF.out z).cell (p := ⟨bn, 0, none⟩) hbn).trans cn
  clear cl cn
  refine Fam.region (F := F) (by kernel_rfl) (by kernel_rfl) (HG.out _ (Below.refl _ w).drew) ?_
  repeat (go_big_quiet_step (first
    | (go_at_call 49; exact (HB.out _ (HF.out _)).mono fun _ _ h => ⟨h.1, HG.out _ h.2⟩)
    | (go_at_call 48; rw [HBB.out]; exact (HH.out _ (HF.out _)).mono fun _ _ h => ⟨h.1, HG.out _ h.2⟩)))
  refine wpQuiet_nil ?_
  intro w2 hw2
  obtain ⟨z, rfl⟩ := hw2
  have HB2 : Hid (Below w.heap.size w (F z)) := HF.out z
  go_wp2
  go_ret
  exact ⟨by rw [← HT.out]; rfl, HB2.out⟩

/-- the closure that tells of whoever is asked whether it seals b -/
def SealFn (L : List K) (b : Int) (g off cap : Nat) (w : World) (e : Ending) (w' : World) : Prop :=
  ∃ bl bn, e = .returned (.func (.func 47) #[] #[.pointer (some ⟨bl, 0, none⟩), .pointer (some ⟨bn, 0, none⟩)]) ∧ bl < w'.heap.size ∧ bn < w'.heap.size ∧
    w'.cell? ⟨bl, 0, none⟩ = some (.slice (some ⟨g, off, none⟩) L.length cap) ∧ w'.cell? ⟨bn, 0, none⟩ = some (.int .i64 (ndI L b)) ∧ Below w.heap.size w w'

theorem kA {W V : World} (h : Below W.drew.heap.size W.drew V) : Below W.heap.size W V := ⟨h.os, h.tape, h.output, h.size, h.block⟩
theorem kB {W V : World} {o : Obj} (h : Below (W.drew.alloc o).heap.size (W.drew.alloc o) V) : Below W.heap.size W V := kA (((Below.refl _ W.drew).alloc (Nat.le_refl _) o).trans (h.mono (by simp)))
theorem kC {W V : World} {o : Obj} (h : Below (W.alloc o).drew.heap.size (W.alloc o).drew V) : Below W.heap.size W V := ((Below.refl _ W).alloc (Nat.le_refl _) o).trans ((kA h).mono (by simp))
theorem keepN {W V : World} {t : TypeId} {v : Value} (h : Below (W.drew.alloc (.cells #[v] t)).heap.size (W.drew.alloc (.cells #[v] t)) V) : V.cell? ⟨W.heap.size, 0, none⟩ = some v ∧ V.frozen? ⟨W.heap.size, 0, none⟩ = false ∧ W.heap.size < V.heap.size := by
  have c := Sg.boxNew W.drew v t
  have hs : W.heap.size < (W.drew.alloc (.cells #[v] t)).heap.size := by rw [World.size_alloc]; exact Nat.lt_succ_self _
  exact ⟨(h.cell (p := ⟨W.heap.size, 0, none⟩) hs).trans c.1, (h.frozen (p := ⟨W.heap.size, 0, none⟩) hs).trans c.2, Nat.lt_of_lt_of_le hs h.size⟩
theorem keepN' {W V : World} {t : TypeId} {v : Value} (h : Below (W.alloc (.cells #[v] t)).drew.heap.size (W.alloc (.cells #[v] t)).drew V) : V.cell? ⟨W.heap.size, 0, none⟩ = some v ∧ V.frozen? ⟨W.heap.size, 0, none⟩ = false ∧ W.heap.size < V.heap.size := by
  have c := Sg.boxNew W v t
  have hs : W.heap.size < (W.alloc (.cells #[v] t)).heap.size := by simp
  have h' := kA h
  exact ⟨(h'.cell (p := ⟨W.heap.size, 0, none⟩) hs).trans c.1, (h'.frozen (p := ⟨W.heap.size, 0, none⟩) hs).trans c.2, Nat.lt_of_lt_of_le hs h'.size⟩

theorem fn_new {L : List K} {b nd : Int} {g off cap bl : Nat} {w w0 V : World} {t : TypeId} (hb : w.heap.size = bl) (hn : ndI L b = nd) (B0 : Below bl w w0) (C0 : w0.cell? ⟨bl, 0, none⟩ = some (.slice (some ⟨g, off, none⟩) L.length cap)) (S0 : bl < w0.heap.size) (B1 : Below w0.heap.size w0 V) :
    SealFn L b g off cap w (.returned (.func (.func 47) #[] #[.pointer (some ⟨bl, 0, none⟩), .pointer (some ⟨V.heap.size, 0, none⟩)])) (V.alloc (.cells #[.int .i64 nd] t)) := by
  subst hb hn
  have hs := B1.size
  refine ⟨w.heap.size, V.heap.size, rfl, by simp; omega, by simp, Sg.boxCell _ ((B1.cell (p := ⟨w.heap.size, 0, none⟩) S0).trans C0), (Sg.boxNew V _ t).1, ?_⟩
  exact (B0.trans (B1.mono (Nat.le_of_lt S0))).alloc (by omega) _
theorem fn_put {L : List K} {b nd : Int} {g off cap bl : Nat} {w w0 V : World} {v : Value} (hb : w.heap.size = bl) (hn : ndI L b = nd) (B0 : Below bl w w0) (C0 : w0.cell? ⟨bl, 0, none⟩ = some (.slice (some ⟨g, off, none⟩) L.length cap)) (S0 : bl < w0.heap.size) (B1 : Below w0.heap.size w0 V) (hc : V.cell? ⟨w0.heap.size, 0, none⟩ = some v) (hv : w0.heap.size < V.heap.size) :
    SealFn L b g off cap w (.returned (.func (.func 47) #[] #[.pointer (some ⟨bl, 0, none⟩), .pointer (some ⟨w0.heap.size, 0, none⟩)])) (V.setCell ⟨w0.heap.size, 0, none⟩ (.int .i64 nd)) := by
  subst hb hn
  have hs := B1.size
  refine ⟨w.heap.size, w0.heap.size, rfl, by simp; omega, by simp; omega, (Sg.put_other V _ _ (by omega) _).trans ((B1.cell (p := ⟨w.heap.size, 0, none⟩) S0).trans C0), World.cell?_setCell_same' _ _ _ (by rw [hc]; rfl), ?_⟩
  exact (B0.trans (B1.mono (Nat.le_of_lt S0))).setCell (p := ⟨w0.heap.size, 0, none⟩) (show w.heap.size ≤ w0.heap.size by omega) _

set_option maxHeartbeats 3200000 in
theorem sealing (g off cap : Nat) (L : List K) (b : Int) (w : World) (hlc : laceB L = true) (hg : g < w.heap.size) (hr : RdK w (some ⟨g, off, none⟩) L) :
    Calls Try.prog 30 #[.slice (some ⟨g, off, none⟩) L.length cap, .int .i64 b] w (SealFn L b g off cap w) := by
  have h60 := ((Lc.lace_iff L).1 hlc).1
  have P0 : Hid (Below w.heap.size w (w.alloc (.cells #[.slice (some ⟨g, off, none⟩) L.length cap] 31)) ∧ (w.alloc (.cells #[.slice (some ⟨g, off, none⟩) L.length cap] 31)).cell? ⟨w.heap.size, 0, none⟩ = some (.slice (some ⟨g, off, none⟩) L.length cap) ∧ w.heap.size < (w.alloc (.cells #[.slice (some ⟨g, off, none⟩) L.length cap] 31)).heap.size) := ⟨(Below.refl _ _).alloc (Nat.le_refl _) _, by simp, by simp⟩
  go_enter Try.func30, Try.ntmps30
  go_wp2_with fail
  generalize w.alloc (.cells #[.slice (some ⟨g, off, none⟩) L.length cap] 31) = w0 at P0 ⊢
  obtain ⟨B0, C0, S0⟩ := P0
  have HB0 : Hid (Below w.heap.size w w0) := B0
  clear B0
  have HNC : Hid (∀ W : World, Below w0.heap.size w0 W → Calls Try.prog 45 #[.slice (some ⟨g, off, none⟩) L.length cap, .int .i64 (2 ^ L.length - 1), .int .i64 b] W fun e w' => e = .returned (.int .i64 (ndI L b)) ∧ Below W.heap.size W w') := fun W hW =>
    Nd.nodders g off cap L _ b W hlc (Nat.lt_of_lt_of_le (Nat.lt_of_lt_of_le hg HB0.out.size) hW.size) ((hr.below HB0.out).below hW)
  generalize hnd : ndI L b = nd at HNC
  have HND : Hid (ndI L b = nd) := hnd
  clear hnd
  generalize hb : w.heap.size = bl at *
  have HWB : Hid (w.heap.size = bl) := hb
  have HC0 : Hid (w0.cell? ⟨bl, 0, none⟩ = some (.slice (some ⟨g, off, none⟩) L.length cap)) := C0
  clear hb hr
  have HSB : Hid (∀ X : World, Below w0.heap.size w0 X → X.cell? ⟨bl, 0, none⟩ = some (.slice (some ⟨g, off, none⟩) L.length cap)) := fun X hX => (hX.cell (p := ⟨bl, 0, none⟩) S0).trans C0
  go_region_held3 (fun X => X.cell? ⟨bl, 0, none⟩ = some (.slice (some ⟨g, off, none⟩) L.length cap)) (first
      | exact HSB.out _ (B1.alloc B1.size _)
      | exact HSB.out _ B1
      | exact HSB.out _ (B1.setCell (p := ⟨w0.heap.size, 0, none⟩) (Nat.le_refl _) _)
      | exact HSB.out _ (Below.refl _ _).drew
      | exact HSB.out _ ((Below.refl _ _).alloc (Nat.le_refl _) _).drew
      | exact HSB.out _ ((Below.refl _ _).drew.alloc (Nat.le_refl _) _)
      | go_keep) (first
      | (go_at_call 46
         refine (Lc.all _ _ _ _ h60).mono ?_
         rintro e V0 ⟨rfl, rfl⟩)
      | (go_at_call 45
         refine (HNC.out _ (by first | exact (Below.refl _ _).drew | exact ((Below.refl _ _).alloc (Nat.le_refl _) _).drew | exact (Below.refl _ _).drew.alloc (Nat.le_refl _) _)).mono ?_
         rintro e V1 ⟨rfl, b1⟩
         (first | have HZ := keepN b1 | have HZ := keepN' b1 | skip)
         (first | (have z0 := HZ.1; have g0 := HZ.2.1; have s0 := HZ.2.2) | skip)
         (first | have B1 : Below w0.heap.size w0 V1 := kC b1 | have B1 : Below w0.heap.size w0 V1 := kB b1 | have B1 : Below w0.heap.size w0 V1 := kA b1)))
  all_goals (go_wp2)
  all_goals go_ret
  all_goals (first
    | exact fn_new HWB.out HND.out HB0.out HC0.out S0 B1
    | exact fn_put HWB.out HND.out HB0.out HC0.out S0 B1 z0 s0)

set_option maxHeartbeats 400000 in
theorem seals (g off cap : Nat) (L : List K) (a b : Int) (w : World) (hlc : laceB L = true) (hg : g < w.heap.size) (hr : RdK w (some ⟨g, off, none⟩) L) :
    Calls Try.prog 14 #[.slice (some ⟨g, off, none⟩) L.length cap, .int .i64 a, .int .i64 b] w fun e w' => e = .returned (.bool (sealsB L a b)) ∧ Below w.heap.size w w' := by
  have HLC : Hid (laceB L = true) := hlc
  clear hlc
  go_enter Try.func14, Try.ntmps14
  go_wp2_with fail
  refine (sealing g off cap L b _ HLC.out hg hr).mono ?_
  rintro e w1 ⟨bl, bn, rfl, hbl, hbn, cl, cn, hb1⟩
  have hcall := sealing1 bl bn g off cap L a b w1 HLC.out (Nat.lt_of_lt_of_le hg hb1.size) (hr.below hb1) hbl hbn cl cn
  clear cl cn hbl hbn
  go_wp2_with fail
  refine hcall.mono ?_
  rintro e w2 ⟨rfl, hb2⟩
  have B2 := hb1.trans (hb2.mono hb1.size)
  clear hcall hb1 hb2
  go_wp2
  go_ret
  exact ⟨rfl, B2⟩

theorem lace_box (w : World) (v : Value) (a : Int) (t u : TypeId) : Below w.heap.size w ((w.alloc (.cells #[v] t)).alloc (.cells #[.int .i64 a] u)) ∧ ((w.alloc (.cells #[v] t)).alloc (.cells #[.int .i64 a] u)).cell? ⟨w.heap.size, 0, none⟩ = some v ∧ ((w.alloc (.cells #[v] t)).alloc (.cells #[.int .i64 a] u)).cell? ⟨w.heap.size + 1, 0, none⟩ = some (.int .i64 a) ∧ w.heap.size + 1 < ((w.alloc (.cells #[v] t)).alloc (.cells #[.int .i64 a] u)).heap.size := by
  have c1 := Sg.boxNew (w.alloc (.cells #[v] t)) (.int .i64 a) u
  simp only [World.size_alloc] at c1
  exact ⟨((Below.refl _ _).alloc (Nat.le_refl _) _).alloc (by simp) _, Sg.boxCell _ (Sg.boxNew w v t).1, c1.1, by simp⟩

/-- of a set of the lace: the document's Sealers -/
theorem only_sealers {L : List K} {s b : Int} (hs : setB L s = true) (hb : isB L b = true) : onlyF (fun a => sealsB L a b) (Memb.memI s) = sealersI L s b := by
  obtain ⟨hl, q0, q1, qd, _, _⟩ := Lc.setB_parts hs
  have h60 := ((Lc.lace_iff L).1 hl).1
  have hF := Ak.onlyF_bits (fun a => sealsB L a b) (Memb.memI s) (fun _ h => Ak.mem_memI h)
  have hN := sealS_bd L b.toNat L.length h60
  have hA := and_bd s _ q0 q1 hN.1 hN.2
  unfold sealersI
  rw [hs, hb]
  simp only [Bool.and_self, if_true]
  refine Lc.eq_of_bits _ _ hF.1.1 hA.1 fun j => ?_
  rw [Bool.eq_iff_iff, hF.2 j, bit_and s _ q0 q1 hN.1 hN.2, bit_sealS L b.toNat L.length h60, Bool.and_eq_true, Bool.and_eq_true, decide_eq_true_eq, Ak.mem_bit q0 q1]
  constructor
  · rintro ⟨h1, h2⟩
    unfold sealsB at h2
    rw [Bool.and_eq_true, Bool.and_eq_true] at h2
    obtain ⟨_, p1, _⟩ := Sg.isB_parts h2.1
    exact ⟨h1, by omega, by have := h2.2.2; rwa [Int.toNat_natCast] at this⟩
  · rintro ⟨h1, h2, h3⟩
    refine ⟨h1, ?_⟩
    unfold sealsB
    rw [hb, Int.toNat_natCast, h3, Db.isB_lace hl]
    simp; omega
/-- of a knot: the document's SealedOf -/
theorem only_sealed {L : List K} {a : Int} (ha : isB L a = true) : onlyF (fun b => sealsB L a b) (Memb.memI (metI L a)) = sealedI L a := by
  obtain ⟨a0, a1, hl⟩ := Sg.isB_parts ha
  have h60 := ((Lc.lace_iff L).1 hl).1
  have hF := Ak.onlyF_bits (fun b => sealsB L a b) (Memb.memI (metI L a)) (fun _ h => Ak.mem_memI h)
  have hN := sealedS_bd L a.toNat L.length h60
  have hm := Nd.met_bd h60 a
  unfold sealedI
  rw [ha, if_pos rfl]
  refine Lc.eq_of_bits _ _ hF.1.1 hN.1 fun j => ?_
  rw [Bool.eq_iff_iff, hF.2 j, bit_sealedS L a.toNat L.length h60, Bool.and_eq_true, decide_eq_true_eq, Ak.mem_bit hm.1 hm.2]
  have hma : metI L a = bel L a.toNat := by unfold Sg.metI; rw [if_pos ⟨a0, a1⟩]
  constructor
  · rintro ⟨h1, h2⟩
    unfold sealsB at h2
    rw [Bool.and_eq_true, Bool.and_eq_true] at h2
    exact ⟨Nd.met_in hl a j h1, by have := h2.2.2; rwa [Int.toNat_natCast] at this⟩
  · rintro ⟨h2, h3⟩
    refine ⟨by rw [hma]; exact seal_sees hl (by omega) h3, ?_⟩
    unfold sealsB
    rw [ha, Int.toNat_natCast, h3, Db.isB_lace hl]
    simp; omega

set_option maxHeartbeats 800000 in
theorem implSeals (g off cap : Nat) (L : List K) (a b : Int) (w : World) (hlen : L.length ≤ 1099511627776) (hw : WordsOk L) (hr : RdK w (some ⟨g, off, none⟩) L) :
    Calls Try.prog 6 #[.slice (some ⟨g, off, none⟩) L.length cap, .int .i64 a, .int .i64 b] w fun e w' => e = .returned (.bool (sealsB L a b)) ∧ Below w.heap.size w w' := by
  go_enter Try.func6, Try.ntmps6
  go_wp2_with fail
  refine (Lc.laceOf g off cap L _ hlen hw hr).mono ?_
  rintro e w1 (⟨hl, g', rfl, hg', hrg, hb1⟩ | ⟨hl, rfl, hb1⟩)
  · have HLC : Hid (laceB L = true) := hl
    clear hl
    go_wp2_with fail
    refine (seals g' 0 L.length L a b _ HLC.out hg' hrg).mono ?_
    rintro e w2 ⟨rfl, hb2⟩
    have B2 := hb1.trans (hb2.mono hb1.size)
    clear hb1 hb2 hrg hg'
    go_wp2
    go_ret
    exact ⟨rfl, B2⟩
  · have HT : Hid (sealsB L a b = false) := by show _ = _; unfold sealsB Sg.isB; rw [hl]; simp
    clear hl
    go_wp2
    go_ret
    exact ⟨by rw [HT.out]; rfl, hb1⟩

end Sl
end Go.Proofs.Ytdcjjopeobnpgab

namespace Go.Proofs.Ytdcjjopeobnpgab
open Go.RowKit
set_option maxRecDepth 100000
namespace Rm
open Kn (K okK)
open Bit (bit memTo)
open Lc (at' RdK laceB flat OwnK cellsOf setB handsN)
open Sg (bel belows orB seesB belowI isB)
open Nd (nodN nodsB nodS noddersI)
open Sl (sealN sealsB sealersI sealedI sealS sealedS nodAt)
open Cur (At)

def ImplSeals : Prop := ∀ (g cap : Nat) (L : List K) (a b : Int) (w : World), L.length ≤ 1099511627776 → Lc.WordsOk L → RdK w (some ⟨g, 0, none⟩) L →
    Calls Try.prog 6 #[.slice (some ⟨g, 0, none⟩) L.length cap, .int .i64 a, .int .i64 b] w fun e w' => e = .returned (.bool (sealsB L a b)) ∧ Below w.heap.size w w'
set_option maxHeartbeats 800000 in
theorem drawSeals (HD : DrawsRoom) (a : Option Addr) (len cap : Nat) (w : World) (hl : len ≤ 4096) (hc : Cur.Code w a len) :
    Calls Try.prog 5 #[.slice a len cap] w fun e w' => ∃ v L s r, e = .returned (.tuple #[v, .int .i64 s, .int .i64 r]) ∧ Drawn w.heap.size w w' v L := by
  go_enter Try.func5, Try.ntmps5
  go_wp2_with fail
  refine (drawNods HD a len cap _ hl hc).mono ?_
  rintro e w1 ⟨v, L, s, r, rfl, hD⟩
  go_wp2
  refine bodyPost_ret (v := .tuple #[v, .int .i64 s, .int .i64 r]) (by simp [results, Try.f5, go_sem]) rfl ?_
  exact ⟨_, L, s, r, rfl, hD⟩
theorem below_pos4 {L : List K} {a : Int} (ha : isB L a = true) : 0 ≤ belowI L a := by
  obtain ⟨a0, a1, hl⟩ := Sg.isB_parts ha
  have h60 := ((Lc.lace_iff L).1 hl).1
  unfold Sg.belowI
  rw [ha, if_pos rfl]
  exact (Sg.bel_bd L _ (by omega)).1
theorem below_neg4 {L : List K} {a : Int} (ha : isB L a = false) : belowI L a = -1 := by
  unfold Sg.belowI; rw [ha]; rfl
theorem set_of {L : List K} (hl : laceB L = true) {s : Int} (h0 : 0 ≤ s) (hb : ∀ i, bit s i = true → i < L.length) : setB L s = true := by
  have hd : s / 2 ^ L.length = 0 := Lc.div_of_bits _ _ h0 fun i hi => by
    rw [Bool.eq_false_iff]; intro h; have := hb i h; omega
  rw [Lc.setB_eq, hl]
  unfold Lc.inL
  rw [decide_eq_true h0, decide_eq_true hd]; rfl

/-- two knots of a lace: what sealing asks -/
theorem seal_two {L : List K} {a b : Int} (ha : isB L a = true) (hb : isB L b = true) : setB L (belowI L a) = true ∧ setB L (noddersI L (belowI L a) b) = true ∧ Lc.handsOfI L (noddersI L (belowI L a) b) = handsN L (noddersI L (belowI L a) b) ∧ sealsB L a b = decide (3 ≤ handsN L (noddersI L (belowI L a) b)) := by
  obtain ⟨a0, a1, hl⟩ := Sg.isB_parts ha
  have h60 := ((Lc.lace_iff L).1 hl).1
  have hbd := Sg.bel_bd L a.toNat (by omega)
  have e1 : belowI L a = bel L a.toNat := by unfold Sg.belowI; rw [ha]; rfl
  have s1 : setB L (belowI L a) = true := by
    rw [e1]
    refine set_of hl hbd.1 fun i hi => ?_
    have := Sg.reach_le hl (by omega : a.toNat < L.length) ((Sg.bel_reach hl _ (by omega) i).1 hi)
    omega
  have e2 : noddersI L (belowI L a) b = nodAt L a.toNat b.toNat := by
    unfold Nd.noddersI; rw [s1, hb, e1]; rfl
  have s2 : setB L (noddersI L (belowI L a) b) = true := by
    rw [e2]
    refine set_of hl (Sl.nodAt_bd h60 (by omega) _).1 fun i hi => ?_
    rw [Sl.bit_nodAt h60 (by omega)] at hi
    simp only [Bool.and_eq_true, decide_eq_true_eq] at hi
    exact hi.2.1
  refine ⟨s1, s2, ?_, ?_⟩
  · unfold Lc.handsOfI; rw [s2]; rfl
  · rw [e2]; unfold Sl.sealsB; rw [ha, hb]; rfl
theorem seals_up {L : List K} {a b i : Int} (h : sealsB L a b = true) (hs : seesB L i a = true) : sealsB L i b = true := by
  unfold Sl.sealsB at h ⊢
  unfold Sg.seesB at hs
  simp only [Bool.and_eq_true] at h hs ⊢
  obtain ⟨i0, i1, hl⟩ := Sg.isB_parts hs.1
  exact ⟨hs.1, h.2.1, Sl.seal_up hl (by omega : i.toNat < L.length) hs.2.2 h.2.2⟩
theorem seals_no {L : List K} {a b : Int} (h : isB L a = false ∨ isB L b = false) : sealsB L a b = false := by
  unfold Sl.sealsB
  rcases h with h | h <;> rw [h] <;> simp

set_option maxHeartbeats 12800000 in
theorem sealsWalk (HI : ImplSeals) (HD : DrawsRoom) (a0 : Option Addr) (len0 cap0 : Nat) (w : World) (hcode : Cur.Code w a0 len0) :
    Calls Try.prog 3 #[.slice a0 len0 cap0] w fun e w' => e = .returned (.bool true) ∧ Below w.heap.size w w' := by
  by_cases hbig : 4096 < len0
  · have hb' : (4096 : Int) < (len0 : Int) := by omega
    go_enter Try.func3, Try.ntmps3
    go_wp2
    go_ret
    exact ⟨rfl, Below.refl _ _⟩
  · have hb' : ¬ (4096 : Int) < (len0 : Int) := by omega
    have hle0 : len0 ≤ 4096 := by omega
    have HDD : Hid DrawsRoom := HD
    have HII : Hid ImplSeals := HI
    have HCode : Hid (Cur.Code w a0 len0) := hcode
    clear hbig HD hcode HI
    go_enter Try.func3, Try.ntmps3
    go_wp2_with (first | (go_at_call 4; go_in) | fail)
    refine (drawSeals HDD.out a0 len0 cap0 _ hle0 HCode.out).mono ?_
    rintro e w1 ⟨v, L, a, b, rfl, hD1⟩
    obtain ⟨g, cp, rfl, hcp, hL1⟩ := drawn_liesS hD1
    have hB1 : Below w.heap.size w w1 := hD1.bel
    clear hD1
    go_wp2_with fail
    refine (HII.out g cp L a b _ (by have := hL1.len; omega) hL1.words hL1.rd).mono ?_
    rintro e w2 ⟨rfl, hb2⟩
    have HL2 : Hid (LiesS w2 g L) := hL1.below hb2
    have HB2 : Hid (Below w.heap.size w w2) := hB1.trans (hb2.mono hB1.size)
    clear hL1 hB1 hb2
    go_wp2_with fail
    refine (Sl.specSeals g 0 cp L a b _ hcp HL2.out.words HL2.out.rd).mono ?_
    rintro e w3 ⟨rfl, hb3⟩
    have HL3 : Hid (LiesS w3 g L) := HL2.out.below hb3
    have HB3 : Hid (Below w.heap.size w w3) := HB2.out.trans (hb3.mono HB2.out.size)
    clear HL2 HB2 hb3
    have HTWO : Hid (isB L a = true → isB L b = true → setB L (belowI L a) = true ∧ setB L (noddersI L (belowI L a) b) = true ∧ Lc.handsOfI L (noddersI L (belowI L a) b) = handsN L (noddersI L (belowI L a) b) ∧ sealsB L a b = decide (3 ≤ handsN L (noddersI L (belowI L a) b))) := fun h1 h2 => seal_two h1 h2
    have HUP : Hid (sealsB L a b = true → ∀ i : Int, seesB L i a = true → sealsB L i b = true) := fun h i hi => seals_up h hi
    have HNO : Hid (isB L a = false ∨ isB L b = false → sealsB L a b = false) := fun h => seals_no h
    generalize sealsB L a b = ib at HTWO HUP HNO ⊢
    have hcall := Sg.specBelow g 0 cp L a w3 hcp HL3.out.words HL3.out.rd
    cases hia : isB L a
    · have hib : ib = false := HNO.out (.inl hia)
      subst hib
      rw [below_neg4 hia] at hcall
      clear hia HTWO HUP HNO
      go_wp2_with fail
      refine hcall.mono ?_
      rintro e w4 ⟨rfl, hb4⟩
      have HB4 : Hid (Below w.heap.size w w4) := HB3.out.trans (hb4.mono HB3.out.size)
      clear hcall hb4 HB3 HL3
      go_wp2
      go_ret
      exact ⟨rfl, HB4.out⟩
    · have hpa := below_pos4 hia
      have HBA : Hid (∀ W : World, LiesS W g L → Calls Try.prog 8 #[.slice (some ⟨g, 0, none⟩) L.length cp, .int .i64 a] W fun e w' => e = .returned (.int .i64 (belowI L a)) ∧ Below W.heap.size W w') := fun W hW => Sg.specBelow g 0 cp L a W hcp hW.words hW.rd
      clear hcall
      have HT1 : Hid (isB L b = true → setB L (belowI L a) = true ∧ setB L (noddersI L (belowI L a) b) = true ∧ Lc.handsOfI L (noddersI L (belowI L a) b) = handsN L (noddersI L (belowI L a) b) ∧ ib = decide (3 ≤ handsN L (noddersI L (belowI L a) b))) := HTWO.out hia
      clear HTWO hia
      generalize belowI L a = ba at hpa HBA HT1
      go_wp2_with fail
      refine (HBA.out _ HL3.out).mono ?_
      rintro e w4 ⟨rfl, hb4⟩
      have HL4 : Hid (LiesS w4 g L) := HL3.out.below hb4
      have HB4 : Hid (Below w.heap.size w w4) := HB3.out.trans (hb4.mono HB3.out.size)
      clear hb4 HB3 HL3
      have hcall := Sg.specBelow g 0 cp L b w4 hcp HL4.out.words HL4.out.rd
      cases hib : isB L b
      · have hib2 : ib = false := HNO.out (.inr hib)
        subst hib2
        rw [below_neg4 hib] at hcall
        clear hib HT1 HUP HNO HBA
        go_wp2_with fail
        refine hcall.mono ?_
        rintro e w5 ⟨rfl, hb5⟩
        have HB5 : Hid (Below w.heap.size w w5) := HB4.out.trans (hb5.mono HB4.out.size)
        clear hcall hb5 HB4 HL4
        go_wp2
        go_ret
        exact ⟨rfl, HB5.out⟩
      · have hpb := below_pos4 hib
        obtain ⟨hs1, hs2, hh, hibq⟩ := HT1.out hib
        have HIBQ : Hid (ib = decide (3 ≤ handsN L (noddersI L ba b))) := hibq
        have HNB : Hid (∀ W : World, LiesS W g L → Calls Try.prog 10 #[.slice (some ⟨g, 0, none⟩) L.length cp, .int .i64 ba, .int .i64 b] W fun e w' => e = .returned (.int .i64 (noddersI L ba b)) ∧ Below W.heap.size W w') := fun W hW => Nd.specNodders g 0 cp L ba b W hcp hW.words hW.rd
        have HHB : Hid (∀ W : World, LiesS W g L → Calls Try.prog 9 #[.slice (some ⟨g, 0, none⟩) L.length cp, .int .i64 (noddersI L ba b)] W fun e w' => e = .returned (.int .i64 (handsN L (noddersI L ba b))) ∧ Below W.heap.size W w') := fun W hW => by
          have := Lc.specHandsOf g 0 cp L (noddersI L ba b) W hcp hW.words hW.rd
          rwa [hh] at this
        clear hib HT1 HNO hs1 hs2 hh hibq
        generalize belowI L b = bb at hpb hcall
        generalize noddersI L ba b = nn at HNB HHB HIBQ
        generalize handsN L nn = hn at HHB HIBQ
        go_wp2_with fail
        refine hcall.mono ?_
        rintro e w5 ⟨rfl, hb5⟩
        have HL5 : Hid (LiesS w5 g L) := HL4.out.below hb5
        have HB5 : Hid (Below w.heap.size w w5) := HB4.out.trans (hb5.mono HB4.out.size)
        clear hb5 HB4 HL4 hcall
        go_wp2_with fail
        refine (HBA.out _ HL5.out).mono ?_
        rintro e w6 ⟨rfl, hb6⟩
        have HL6 : Hid (LiesS w6 g L) := HL5.out.below hb6
        have HB6 : Hid (Below w.heap.size w w6) := HB5.out.trans (hb6.mono HB5.out.size)
        clear hb6 HB5 HL5 HBA
        go_wp2_with fail
        refine (HNB.out _ HL6.out).mono ?_
        rintro e w7 ⟨rfl, hb7⟩
        have HL7 : Hid (LiesS w7 g L) := HL6.out.below hb7
        have HB7 : Hid (Below w.heap.size w w7) := HB6.out.trans (hb7.mono HB6.out.size)
        clear hb7 HB6 HL6 HNB
        go_wp2_with fail
        refine (HHB.out _ HL7.out).mono ?_
        rintro e w8 ⟨rfl, hb8⟩
        have HL8 : Hid (LiesS w8 g L) := HL7.out.below hb8
        have HB8 : Hid (Below w.heap.size w w8) := HB7.out.trans (hb8.mono HB7.out.size)
        clear hb8 HB7 HL7 HHB
        have hql := HL8.out.len
        by_cases h3 : 3 ≤ hn
        · have hib2 : ib = true := by rw [HIBQ.out]; exact decide_eq_true h3
          subst hib2
          have HUPX : Hid (∀ i : Int, seesB L i a = true → sealsB L i b = true) := HUP.out rfl
          clear HIBQ HUP
          go_wp2
          go_loopw [7] (fun iv wr => ∃ i : Nat, i ≤ L.length ∧ iv = .int .i64 (i : Int) ∧ Hid (LiesS wr g L) ∧ Hid (Below w.heap.size w wr)) (fun iv _ => L.length - (intOf iv).toNat)
          case atStart => exact ⟨0, by omega, rfl, HL8, HB8⟩
          case round =>
            obtain ⟨i, hi, rfl, HL, HB⟩ := hrel
            clear HL8 HB8
            by_cases hil : i < L.length
            · have hii : (i : Int) < (L.length : Int) := by omega
              have HX : Hid (seesB L (i : Int) a = true → sealsB L (i : Int) b = true) := HUPX.out (i : Int)
              have hcS := Sg.specSees g 0 cp L (i : Int) a wr hcp HL.out.words HL.out.rd
              have HCI : Hid (∀ W : World, LiesS W g L → Calls Try.prog 6 #[.slice (some ⟨g, 0, none⟩) L.length cp, .int .i64 (i : Int), .int .i64 b] W fun e w' => e = .returned (.bool (sealsB L (i : Int) b)) ∧ Below W.heap.size W w') := fun W hW => HII.out g cp L (i : Int) b W (by have := hW.len; omega) hW.words hW.rd
              generalize sealsB L (i : Int) b = xs at HX HCI
              cases hse : seesB L (i : Int) a
              · rw [hse] at hcS
                clear hse HX HCI
                go_wp2_with fail
                refine hcS.mono ?_
                rintro e w9 ⟨rfl, hb9⟩
                have HL9 : Hid (LiesS w9 g L) := HL.out.below hb9
                have HB9 : Hid (Below w.heap.size w w9) := HB.out.trans (hb9.mono HB.out.size)
                clear hcS hb9 HL HB
                go_wp2
                go_roundw
                case rel => exact ⟨i + 1, by omega, by go_num, HL9, HB9⟩
                case measure => simp [intOf]; omega
              · rw [hse] at hcS
                have hxs : xs = true := HX.out hse
                subst hxs
                clear hse HX
                go_wp2_with fail
                refine hcS.mono ?_
                rintro e w9 ⟨rfl, hb9⟩
                have HL9 : Hid (LiesS w9 g L) := HL.out.below hb9
                have HB9 : Hid (Below w.heap.size w w9) := HB.out.trans (hb9.mono HB.out.size)
                clear hcS hb9 HL HB
                go_wp2_with fail
                refine (HCI.out _ HL9.out).mono ?_
                rintro e w10 ⟨rfl, hb10⟩
                have HL10 : Hid (LiesS w10 g L) := HL9.out.below hb10
                have HB10 : Hid (Below w.heap.size w w10) := HB9.out.trans (hb10.mono HB9.out.size)
                clear hb10 HL9 HB9 HCI
                go_wp2
                go_roundw
                case rel => exact ⟨i + 1, by omega, by go_num, HL10, HB10⟩
                case measure => simp [intOf]; omega
            · obtain rfl : i = L.length := by omega
              go_wp2
              go_ret
              exact ⟨rfl, HB.out⟩
        · have hib2 : ib = false := by rw [HIBQ.out]; exact decide_eq_false h3
          subst hib2
          clear HIBQ HUP
          go_wp2
          go_loopw [7] (fun iv wr => iv = .int .i64 0 ∧ Hid (Below w.heap.size w wr)) (fun _ _ => 0)
          case atStart => exact ⟨rfl, HB8⟩
          case round =>
            obtain ⟨rfl, HB⟩ := hrel
            clear HL8 HB8
            by_cases hz : (0 : Int) < (L.length : Int)
            · go_wp2
              go_ret
              exact ⟨rfl, HB.out⟩
            · go_wp2
              go_ret
              exact ⟨rfl, HB.out⟩

theorem seal_in {L : List K} {s b : Int} (hs : setB L s = true) (hb : isB L b = true) {i : Nat} (hi : i < L.length) : inJ (sealersI L s b) (i : Int) = (inJ s (i : Int) && sealsB L (i : Int) b) := by
  obtain ⟨hl, q0, q1, qd, _, _⟩ := Lc.setB_parts hs
  have h60 := ((Lc.lace_iff L).1 hl).1
  have hN := Sl.sealS_bd L b.toNat L.length h60
  have hii : isB L (i : Int) = true := by rw [isB_iff hl]; omega
  have e : sealersI L s b = bits .and .i64 s (sealS L b.toNat L.length) := by unfold Sl.sealersI; rw [hs, hb]; rfl
  have hbd := Sl.and_bd s _ q0 q1 hN.1 hN.2
  rw [← e] at hbd
  rw [inJ_at hbd.1 hbd.2 i (by omega), inJ_at q0 q1 i (by omega), e, Sl.bit_and s _ q0 q1 hN.1 hN.2, Sl.bit_sealS L b.toNat _ h60]
  unfold Sl.sealsB
  rw [hii, hb, Int.toNat_natCast, decide_eq_true hi]
  rfl
theorem sealers_pos {L : List K} {s b : Int} (hs : setB L s = true) (hb : isB L b = true) : 0 ≤ sealersI L s b := by
  obtain ⟨hl, q0, q1, qd, _, _⟩ := Lc.setB_parts hs
  have h60 := ((Lc.lace_iff L).1 hl).1
  have hN := Sl.sealS_bd L b.toNat L.length h60
  have e : sealersI L s b = bits .and .i64 s (sealS L b.toNat L.length) := by unfold Sl.sealersI; rw [hs, hb]; rfl
  rw [e]
  exact (Sl.and_bd s _ q0 q1 hN.1 hN.2).1
theorem sealed_in {Q : List K} {a : Int} (ha : isB Q a = true) {i : Nat} (hi : i < Q.length) : inJ (sealedI Q a) (i : Int) = sealsB Q a (i : Int) := by
  obtain ⟨a0, a1, hl⟩ := Sg.isB_parts ha
  have h60 := ((Lc.lace_iff Q).1 hl).1
  have e : sealedI Q a = sealedS Q a.toNat Q.length := by unfold Sl.sealedI; rw [ha]; rfl
  have hbd := Sl.sealedS_bd Q a.toNat Q.length h60
  have hii : isB Q (i : Int) = true := by rw [isB_iff hl]; omega
  rw [e, inJ_at hbd.1 hbd.2 i (by omega), Sl.bit_sealedS Q a.toNat _ h60]
  unfold Sl.sealsB
  rw [ha, hii, Int.toNat_natCast, decide_eq_true hi]
  rfl
theorem sealed_pos {Q : List K} {a : Int} (ha : isB Q a = true) : 0 ≤ sealedI Q a := by
  obtain ⟨a0, a1, hl⟩ := Sg.isB_parts ha
  have h60 := ((Lc.lace_iff Q).1 hl).1
  unfold Sl.sealedI; rw [ha, if_pos rfl]
  exact (Sl.sealedS_bd Q a.toNat Q.length h60).1
theorem sealed_sub {Q : List K} {a : Int} (ha : isB Q a = true) : (bits .andNot .i64 (sealedI Q a) (belowI Q a) == 0) = true := by
  obtain ⟨a0, a1, hl⟩ := Sg.isB_parts ha
  have h60 := ((Lc.lace_iff Q).1 hl).1
  have hbd := Sl.sealedS_bd Q a.toNat Q.length h60
  have hbe := Sg.bel_bd Q a.toNat (by omega)
  have e : sealedI Q a = sealedS Q a.toNat Q.length := by unfold Sl.sealedI; rw [ha]; rfl
  have e2 : belowI Q a = bel Q a.toNat := by unfold Sg.belowI; rw [ha]; rfl
  rw [e, e2]
  refine (Sg.andNot_sub _ _ hbd.1 (by omega) hbe.1 (by omega)).2 fun i hi => ?_
  rw [Sl.bit_sealedS Q a.toNat _ h60, Bool.and_eq_true] at hi
  exact Sl.seal_sees hl (by omega : a.toNat < Q.length) hi.2

end Rm
end Go.Proofs.Ytdcjjopeobnpgab

namespace Go.Proofs.Ytdcjjopeobnpgab
open Go.RowKit
namespace Rm

theorem drawsBad : DrawsBad := fun c a len cap ao cp L co nc cc go nh hc bad w hl hca hlc hr hn => l18DrawBad c a len cap ao cp L co nc cc go nh hc bad w hl hca hlc hr hn
theorem drawsRoom : DrawsRoom := fun c a len cap w hl hc => l18Draw' (l18DrawActs' drawsBad (l18DrawAct' drawsBad)) c a len cap w hl hc

end Rm
end Go.Proofs.Ytdcjjopeobnpgab

namespace Go.Proofs.Ytdcjjopeobnpgab.fnSeals
open Go.ChangeShapes Go.WideShapes Go.ChangeAt Go.RowKit
set_option linter.unusedVariables false
set_option maxRecDepth 100000

theorem own : ownKnob Try.prog.godebug = none := by kernel_rfl
theorem laidOut : laidOutB Try.prog = true := by kernel_rfl

/-- what is told of a slice of integers that came in: it is nil, or it leads to a row of cells that hold these -/
def IsRow (k : IntKind) (w : World) (a : Option Addr) (len cap : Nat) (zs : List Int) : Prop :=
  (a = none ∧ len = 0 ∧ cap = 0 ∧ zs = []) ∨
  ∃ x, a = some x ∧ len ≤ cap ∧ cap ≤ maxLen ∧ zs.length = cap ∧ (∀ i, i < zs.length → w.cell? (x.add i) = some (.int k (zs.getD i 0))) ∧ ∀ n ∈ zs, (Lit.int k n).wf = true

theorem code_of {w : World} {a : Option Addr} {len cap : Nat} {zs : List Int} (h : IsRow .u8 w a len cap zs) : Cur.Code w a len := by
  rcases h with ⟨_, h, _, _⟩ | ⟨x, rfl, hl, _, hz, hcell, hwz⟩
  · exact .inl h
  · by_cases h0 : len = 0
    · exact .inl h0
    · obtain ⟨b, off, spot⟩ := x
      have hc := hcell 0 (by omega)
      have hspot : spot = none := by simpa [Addr.add] using World.cell?_spot hc
      subst hspot
      refine .inr ⟨b, off, rfl, ?_, fun j hj => ?_⟩
      · have := block_lt_of_cell hc; simpa [Addr.add] using this
      · have hcj := hcell j (by omega)
        have hj' : j < zs.length := by omega
        have hw := hwz (zs.getD j 0) (by simp [List.getD, List.getElem?_eq_getElem hj'])
        refine ⟨zs.getD j 0, ?_, ?_⟩
        · by_cases hj0 : j = 0
          · subst hj0; simpa [Addr.add] using hcj
          · simpa [Addr.add, hj0] using hcj
        simpa [Lit.wf, IntKind.min, IntKind.max, IntKind.signed, IntKind.bits] using hw

theorem lifted (os : Os) (started : os.Started) (H : Type) (enc : TypeId × Value → H) :
    ReturnsInHanded {} Try.checked os 3 .any (Rows.fnSealsSpec.pre6 enc Try.prog Try.f3 Rows.fnSealsRow.domain false) (Rows.fnSealsSpec.post enc Try.prog Try.f3 false true false false) := by
  refine returnsInHanded_of_change (C := Try.checked) own started (by kernel_rfl) Try.func3
    (ChangeSpec.witness6 (enc := enc) (C := Try.checked) false ⟨#[], #[.slice none 0 0], []⟩ 8 (by kernel_rfl) (by kernel_rfl) (by kernel_rfl) (by kernel_rfl)) ?_
  intro W base args ds gs before hval0 hW hcnd _
  have hval : ∀ (j : Nat) t v, Try.f3.params[j]? = some t → args[j]? = some v → Value.okWide Try.prog W .any base t v := hval0
  have hW' := hW
  obtain ⟨p, q, hA0, hV, rfl, hfz, hnd⟩ := hW
  have hA : DataW.TrodAll enc Try.prog W 0 (fun _ => true) true Try.f3.params.toList args.toList ds p := hA0
  rw [Try.params3] at hA hval
  obtain ⟨v0, vs0, d0, ds0, p0, q0, hargs, rfl, rfl, h0, r0⟩ := trodAll_cons hA
  obtain ⟨rfl, rfl, rfl⟩ := trodAll_nil r0
  obtain rfl : args = #[v0] := by cases args; simp_all
  obtain ⟨rfl, rfl⟩ := trodVars_none hV
  obtain ⟨a0, len0, cap0, rfl⟩ := okWide_slice Try.underlying22 (hval 0 22 v0 rfl rfl)
  have k0 := h0
  have lt0 : ∀ x ∈ p0, x.block < W.heap.size := by obtain ⟨m, hm⟩ := k0; exact DataW.trod_lt m _ _ _ hm
  obtain ⟨z0, w0⟩ : ∃ zs, IsRow .u8 W a0 len0 cap0 zs := by
    obtain ⟨fuel, hf⟩ := h0
    rcases open_ints Try.underlying22 Try.underlying5 (by kernel_rfl) hf with ⟨hcs, _⟩ | ⟨x, l, c, zs, hcs, _, hl, hm, hz, _, hcell, hwz⟩
    · simp [Value.cells] at hcs
      obtain ⟨rfl, rfl, rfl⟩ := hcs
      exact ⟨[], .inl ⟨rfl, rfl, rfl, rfl⟩⟩
    · simp [Value.cells] at hcs
      obtain ⟨rfl, rfl, rfl⟩ := hcs
      exact ⟨zs, .inr ⟨_, rfl, hl, hm, by simpa using hz, hcell, hwz⟩⟩
  clear hA0 hval0
  simp only [List.append_nil] at hW'
  refine (Rm.sealsWalk (fun g cap L a b w h1 h2 h3 => Sl.implSeals g 0 cap L a b w h1 h2 h3) Rm.drawsRoom a0 len0 cap0 W (code_of w0)).mono fun e W' ⟨he, bel⟩ => ?_
  subst he
  exact ⟨_, rfl, _, _, _, [], _, [], hW', trodAll_mk1 (shut_bool Try.underlying4 _), (trodAll_cons_mk (Below.trod laidOut (by kernel_rfl) (of_decide_eq_true (by kernel_rfl)) k0 bel lt0) trodAll_mk0), rfl, bel.frame _, fun h => by cases h⟩

theorem over : Rows.fnSealsRow.holds Try.pinned (OpenSpec.ofChange Rows.fnSealsSpec) :=
  OpenClaim.holds_of_wide 3 Try.f3 rfl rfl rfl rfl rfl rfl rfl ⟨rfl, rfl, rfl, rfl, rfl⟩ rfl rfl rfl rfl rfl (by kernel_rfl) Try.func3 (by kernel_rfl)
    (of_decide_eq_true (by kernel_rfl)) (by unfold Func.isWrapper; first | (rw [if_pos (by decide +kernel)]; kernel_rfl) | (rw [if_neg (by decide +kernel)]; exact ⟨rfl, rfl⟩))
    (fun os started H enc _ => lifted os started H enc)

theorem proved : Rows.FnSealsSaid :=
  over
end Go.Proofs.Ytdcjjopeobnpgab.fnSeals
