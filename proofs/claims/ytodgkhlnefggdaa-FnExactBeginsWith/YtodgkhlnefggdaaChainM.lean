/-
  Plain mathematics of leaders, of those that are firm and of chains: what is firm is on the chain of every later leader that is firm. No program in it.
-/
import Derived.Test.YtodgkhlnefggdaaAgreeM
import Derived.Test.YtodgkhlnefggdaaWaveM
namespace Go.Proofs.Ytodgkhlnefggdaa
open Go.RowKit
set_option maxRecDepth 100000
namespace Ch
open Kn (K okK)
open Bit (bit withB memTo)
open Lc (at' laceB setB handsN hasHand roundS)
open Sg (isB bel)
open Nd (nodN nodS)
open Sl (sealN sealS nodAt)

/-- those of a set that seal one -/
def sealAt (L : List K) (s : Int) (k : Nat) : Int := bits .and .i64 s (sealS L k L.length)
/-- firm in a set -/
def firmN (L : List K) (C : List Int) (s : Int) (k : Nat) : Bool := bit s k && (leadK C (at' L k) && decide (3 ≤ handsN L (roundS L (sealAt L s k) ((at' L k).round + 2))))

/-- what a right set is -/
structure In (L : List K) (s : Int) : Prop where
  lo : 0 ≤ s
  hi : s < 1152921504606846976
theorem bit_sealAt {L : List K} {s : Int} (h60 : L.length ≤ 60) (hs : In L s) (k i : Nat) : bit (sealAt L s k) i = (bit s i && (decide (i < L.length) && sealN L i k)) := by
  have h := Sl.sealS_bd L k _ h60
  unfold sealAt
  rw [Sl.bit_and s _ hs.lo hs.hi h.1 h.2, Sl.bit_sealS L k _ h60]

/-- what is firm is sealed by all of the next waves -/
theorem firm_sealed {L : List K} {bad : Int} (hG : Ag.Good L bad) {C : List Int} {s : Int} (hs : In L s) {f k : Nat} (hf : f < L.length) (hF : firmN L C s f = true) (hk : k < L.length) (hr : (at' L f).round + 3 ≤ (at' L k).round) : sealN L k f = true := by
  unfold firmN at hF
  simp only [Bool.and_eq_true, decide_eq_true_eq] at hF
  have hrf := (Ag.round_bd hG.lace hf).1
  refine Ag.seal_spread hG (t := sealAt L s f) (q := (at' L f).round + 2) (by omega) hF.2.2 (fun i hi hb => ?_) hk (by omega)
  rw [bit_sealAt hG.len hs] at hb
  simp only [Bool.and_eq_true] at hb
  exact hb.2.2

/-- each wave has one firm leader at most -/
theorem firm_one {L : List K} {bad : Int} (hG : Ag.Good L bad) {C : List Int} {s t : Int} (hs : In L s) (ht : In L t) {f g : Nat} (hf : f < L.length) (hg : g < L.length) (hF : firmN L C s f = true) (hF2 : firmN L C t g = true) (hr : (at' L f).round = (at' L g).round) : f = g := by
  have h60 := hG.len
  unfold firmN at hF hF2
  simp only [Bool.and_eq_true, decide_eq_true_eq] at hF hF2
  obtain ⟨h, _, hne, h1, h2⟩ := Sl.hands_meet hF.2.2 hF2.2.2 bad
  obtain ⟨i, hi, hbi, hhi⟩ := (Lc.hasHand_iff _ _ _).1 h1
  obtain ⟨j, hj, hbj, hhj⟩ := (Lc.hasHand_iff _ _ _).1 h2
  rw [Ag.bit_round _ _ _ h60] at hbi hbj
  simp only [Bool.and_eq_true, decide_eq_true_eq] at hbi hbj
  rw [bit_sealAt h60 hs] at hbi
  rw [bit_sealAt h60 ht] at hbj
  simp only [Bool.and_eq_true] at hbi hbj
  have e : i = j := Ag.once hG hi hj (by rw [hhi, hhj]) (by rw [hhi]; exact hne) (by rw [hbi.2.2, hbj.2.2, hr])
  subst e
  exact Ag.seal_same hG hi hf hg (lead_hand hF.2.1 hF2.2.1 hr) hr hbi.2.1.2.2 hbj.2.1.2.2

/-- what is firm stays firm where more is known -/
theorem firm_more {L : List K} (h60 : L.length ≤ 60) {C : List Int} {s t : Int} (hs : In L s) (ht : In L t) (hst : ∀ i, bit s i = true → bit t i = true) {f : Nat} (hF : firmN L C s f = true) : firmN L C t f = true := by
  unfold firmN at hF ⊢
  simp only [Bool.and_eq_true, decide_eq_true_eq] at hF ⊢
  refine ⟨hst f hF.1, hF.2.1, Int.le_trans hF.2.2 (Sl.hands_mono fun i hi hb => ?_)⟩
  rw [Ag.bit_round _ _ _ h60, bit_sealAt h60 hs] at hb
  rw [Ag.bit_round _ _ _ h60, bit_sealAt h60 ht]
  simp only [Bool.and_eq_true] at hb ⊢
  exact ⟨hb.1, ⟨hst i hb.2.1.1, hb.2.1.2⟩, hb.2.2⟩

/-- may x be the leader before k? -/
def earN (L : List K) (C : List Int) (k x : Nat) : Bool := bit (bel L k) x && (leadK C (at' L x) && sealN L k x)
/-- of those of the first that may, the one of the greatest round, of some the first; -1: there is none -/
def earI (L : List K) (C : List Int) (k : Nat) : Nat → Int
  | 0 => -1
  | n + 1 => if earN L C k n && (decide (earI L C k n < 0) || decide ((at' L (earI L C k n).toNat).round < (at' L n).round)) then (n : Int) else earI L C k n

theorem ear_spec (L : List K) (C : List Int) (k n : Nat) :
    (earI L C k n = -1 ∧ ∀ x, x < n → earN L C k x = false) ∨ (∃ e : Nat, earI L C k n = (e : Int) ∧ e < n ∧ earN L C k e = true ∧ ∀ x, x < n → earN L C k x = true → (at' L x).round ≤ (at' L e).round ∧ ((at' L x).round = (at' L e).round → e ≤ x)) := by
  induction n with
  | zero => exact .inl ⟨rfl, fun x hx => by omega⟩
  | succ n ih =>
    unfold earI
    rcases ih with ⟨h1, h2⟩ | ⟨e, h1, h2, h3, h4⟩
    · cases hn : earN L C k n
      · left
        rw [Bool.false_and, if_neg (by simp)]
        refine ⟨h1, fun x hx => ?_⟩
        by_cases e : x = n
        · subst e; exact hn
        · exact h2 x (by omega)
      · right
        rw [h1, Bool.true_and, if_pos (by simp)]
        refine ⟨n, rfl, by omega, hn, fun x hx hxe => ?_⟩
        by_cases e : x = n
        · subst e; exact ⟨Int.le_refl _, fun _ => Nat.le_refl _⟩
        · rw [h2 x (by omega)] at hxe; exact Bool.noConfusion hxe
    · right
      rw [h1, Int.toNat_natCast]
      cases hn : earN L C k n
      · rw [Bool.false_and, if_neg (by simp)]
        refine ⟨e, rfl, by omega, h3, fun x hx hxe => ?_⟩
        by_cases q : x = n
        · subst q; rw [hn] at hxe; exact Bool.noConfusion hxe
        · exact h4 x (by omega) hxe
      · by_cases hr : (at' L e).round < (at' L n).round
        · rw [Bool.true_and, if_pos (by simp [hr])]
          refine ⟨n, rfl, by omega, hn, fun x hx hxe => ?_⟩
          by_cases q : x = n
          · subst q; exact ⟨Int.le_refl _, fun _ => Nat.le_refl _⟩
          · have := h4 x (by omega) hxe
            exact ⟨by omega, fun _ => by omega⟩
        · rw [Bool.true_and, if_neg (by simp; omega)]
          refine ⟨e, rfl, by omega, h3, fun x hx hxe => ?_⟩
          by_cases q : x = n
          · subst q; exact ⟨by omega, fun _ => by omega⟩
          · exact h4 x (by omega) hxe

/-- the leader before one; -1: there is none -/
def earlierN (L : List K) (C : List Int) (k : Nat) : Int := earI L C k k
theorem earlier_lt (L : List K) (C : List Int) (k : Nat) : earlierN L C k < (k : Int) := by
  unfold earlierN
  rcases ear_spec L C k k with ⟨h, _⟩ | ⟨e, h, he, _⟩ <;> omega

/-- from leader to leader, with so many steps -/
def chF (L : List K) (C : List Int) : Nat → Int → List Int
  | 0, _ => []
  | f + 1, k => if k < 0 then [] else chF L C f (earlierN L C k.toNat) ++ [k]
theorem chF_enough (L : List K) (C : List Int) : ∀ (f g : Nat) (k : Int), k < (f : Int) → k < (g : Int) → chF L C f k = chF L C g k := by
  intro f
  induction f with
  | zero =>
    intro g k h1 h2
    cases g with
    | zero => rfl
    | succ g => unfold chF; rw [if_pos (by omega)]
  | succ f ih =>
    intro g k h1 h2
    cases g with
    | zero => unfold chF; rw [if_pos (by omega)]
    | succ g =>
      unfold chF
      by_cases hk : k < 0
      · rw [if_pos hk, if_pos hk]
      · rw [if_neg hk, if_neg hk]
        have := earlier_lt L C k.toNat
        rw [ih g _ (by omega) (by omega)]
/-- the chain of one -/
def chainL (L : List K) (C : List Int) (k : Int) : List Int := chF L C (k.toNat + 1) k
theorem chain_neg (L : List K) (C : List Int) {k : Int} (h : k < 0) : chainL L C k = [] := by
  unfold chainL chF; rw [if_pos h]
theorem chain_step (L : List K) (C : List Int) (k : Nat) : chainL L C (k : Int) = chainL L C (earlierN L C k) ++ [(k : Int)] := by
  have hlt := earlier_lt L C k
  have : chainL L C (k : Int) = chF L C k (earlierN L C k) ++ [(k : Int)] := by
    unfold chainL
    rw [Int.toNat_natCast]
    show (if (k : Int) < 0 then [] else chF L C k (earlierN L C (k : Int).toNat) ++ [(k : Int)]) = _
    rw [if_neg (by omega), Int.toNat_natCast]
  rw [this]
  congr 1
  unfold chainL
  exact chF_enough L C _ _ _ (by omega) (by omega)

theorem chF_len (L : List K) (C : List Int) : ∀ (f : Nat) (k : Int), (chF L C f k).length ≤ f := by
  intro f
  induction f with
  | zero => intro k; exact Nat.le_refl 0
  | succ f ih =>
    intro k
    unfold chF
    split
    · simp
    · have := ih (earlierN L C k.toNat)
      simp; omega
theorem chain_len (L : List K) (C : List Int) (k : Int) : (chainL L C k).length ≤ k.toNat + 1 := chF_len L C _ _

/-- what is firm is on the chain of each leader of a later wave, and its chain begins that one's -/
theorem chain_along {L : List K} {bad : Int} (hG : Ag.Good L bad) {C : List Int} {s : Int} (hs : In L s) {f : Nat} (hf : f < L.length) (hF : firmN L C s f = true) : ∀ k, k < L.length → leadK C (at' L k) = true → ((at' L f).round < (at' L k).round ∨ k = f) → ∃ rest, chainL L C (k : Int) = chainL L C (f : Int) ++ rest := by
  have hlf : leadK C (at' L f) = true := by
    unfold firmN at hF
    simp only [Bool.and_eq_true] at hF
    exact hF.2.1
  intro k
  induction k using Nat.strongRecOn with
  | _ k ih =>
    intro hk hlk hc
    rcases hc with hr | rfl
    · have hsl := firm_sealed hG hs hf hF hk (lead_gap hlf hlk hr)
      have hse := Sl.seal_sees hG.lace hk hsl
      have hfk : f < k := by
        have := Ag.sees_le hG.lace hk hse
        have hne : f ≠ k := by intro e; subst e; omega
        omega
      have hcand : earN L C k f = true := by unfold earN; rw [hse, hlf, hsl]; rfl
      rcases ear_spec L C k k with ⟨_, hno⟩ | ⟨e, he, hek, hec, hbest⟩
      · rw [hno f hfk] at hcand; exact Bool.noConfusion hcand
      · have hb := (hbest f hfk hcand).1
        unfold earN at hec
        simp only [Bool.and_eq_true] at hec
        have hel : e < L.length := by omega
        have hcase : (at' L f).round < (at' L e).round ∨ e = f := by
          by_cases q : (at' L f).round = (at' L e).round
          · exact .inr (Ag.seal_same hG hk hel hf (lead_hand hec.2.1 hlf q.symm) q.symm hec.2.2 hsl)
          · exact .inl (by omega)
        obtain ⟨rest, hrest⟩ := ih e hek hel hec.2.1 hcase
        refine ⟨rest ++ [(k : Int)], ?_⟩
        rw [chain_step, show earlierN L C k = (e : Int) from he, hrest, List.append_assoc]
    · exact ⟨[], by rw [List.append_nil]⟩

end Ch
end Go.Proofs.Ytodgkhlnefggdaa
