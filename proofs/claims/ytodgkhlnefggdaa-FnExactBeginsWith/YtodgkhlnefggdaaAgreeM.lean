/-
  Plain mathematics of agreement: in a lace in which all hands but one see all they tied before, whoever is firm is sealed by all of the next wave, each wave has one firm leader at most, and the chains of two firm ones go the same way. No program in it.
-/
import Derived.Test.YtodgkhlnefggdaaSealM
namespace Go.Proofs.Ytodgkhlnefggdaa
open Go.RowKit
set_option maxRecDepth 100000
namespace Ag
open Kn (K okK)
open Bit (bit withB memTo)
open Lc (at' laceB setB handsN hasHand roundS)
open Sg (isB bel)
open Db (dblN)
open Nd (nodN nodS)
open Sl (sealN sealS nodAt)

theorem thread_round {L : List K} (hl : laceB L = true) {i m : Nat} (hi : i < L.length) (hb : bit (at' L i).frm m = true) : (at' L m).round < (at' L i).round := by
  have hm := Sg.thread_lt hl hi hb
  have hc := Lc.lace_upTo hl i hi
  simp only [Lc.canB, Bool.and_eq_true] at hc
  have hle := (Lc.lesser_iff (L.take i) (at' L i).frm (at' L i).round (L.take i).length).1 hc.2.2.1 m (by simp; omega) hb
  rwa [Lc.at_take L i m hm] at hle
theorem reach_round {L : List K} (hl : laceB L = true) {i j : Nat} (hi : i < L.length) (h : Sg.Reach L i j) : j = i ∨ (at' L j).round < (at' L i).round := by
  induction h with
  | self => exact .inl rfl
  | @step i m j hb hr ih =>
    have hm := Sg.thread_lt hl hi hb
    have hr1 := thread_round hl hi hb
    rcases ih (by omega) with rfl | h
    · exact .inr hr1
    · exact .inr (by omega)
theorem sees_round {L : List K} (hl : laceB L = true) {i j : Nat} (hi : i < L.length) (h : bit (bel L i) j = true) (hne : j ≠ i) : (at' L j).round < (at' L i).round := by
  rcases reach_round hl hi ((Sg.bel_reach hl i hi j).1 h) with e | e
  · exact absurd e hne
  · exact e
theorem sees_le {L : List K} (hl : laceB L = true) {i j : Nat} (hi : i < L.length) (h : bit (bel L i) j = true) : j ≤ i := Sg.reach_le hl hi ((Sg.bel_reach hl i hi j).1 h)
theorem sees_self {L : List K} (hl : laceB L = true) {i : Nat} (hi : i < L.length) : bit (bel L i) i = true := Db.bel_self hl hi
theorem sees_trans {L : List K} (hl : laceB L = true) {i j m : Nat} (hi : i < L.length) (h : bit (bel L i) j = true) (h2 : bit (bel L j) m = true) : bit (bel L i) m = true := by
  have hj := sees_le hl hi h
  exact (Sg.bel_reach hl i hi m).2 (Sg.Reach.trans ((Sg.bel_reach hl i hi j).1 h) ((Sg.bel_reach hl j (by omega) m).1 h2))
theorem frm_sees {L : List K} (hl : laceB L = true) {i m : Nat} (hi : i < L.length) (hb : bit (at' L i).frm m = true) : bit (bel L i) m = true :=
  (Sg.bel_reach hl i hi m).2 (.step hb (.self _))

theorem bit_round (L : List K) (s r : Int) (h60 : L.length ≤ 60) (i : Nat) : bit (roundS L s r) i = (decide (i < L.length) && (bit s i && decide ((at' L i).round = r))) := Lc.bit_among _ L s L.length h60 i

/-- who hangs on something hangs on three hands of the round before -/
theorem three_before {L : List K} (hl : laceB L = true) {i : Nat} (hi : i < L.length) (hr : 0 < (at' L i).round) : 3 ≤ handsN L (roundS L (at' L i).frm ((at' L i).round - 1)) := by
  have h60 := ((Lc.lace_iff L).1 hl).1
  have hc := Lc.lace_upTo hl i hi
  simp only [Lc.canB, Bool.and_eq_true] at hc
  have hh := hc.2.2.2
  unfold Lc.handsB at hh
  rw [Bool.or_eq_true, decide_eq_true_eq, decide_eq_true_eq] at hh
  rcases hh with hh | hh
  · omega
  · have hlt : (L.take i).length = i := by simp; omega
    refine Int.le_trans hh ?_
    have key : ∀ h : Int, hasHand (L.take i) (roundS (L.take i) (at' L i).frm ((at' L i).round - 1)) h = true → hasHand L (roundS L (at' L i).frm ((at' L i).round - 1)) h = true := fun h q => by
      obtain ⟨j, hj, hb, he⟩ := (Lc.hasHand_iff _ _ _).1 q
      have hji : j < i := by omega
      rw [Lc.at_take L i j hji] at he
      rw [bit_round _ _ _ (by omega)] at hb
      simp only [Bool.and_eq_true, decide_eq_true_eq] at hb
      rw [Lc.at_take L i j hji] at hb
      refine (Lc.hasHand_iff _ _ _).2 ⟨j, by omega, ?_, he⟩
      rw [bit_round _ _ _ h60]
      simp only [Bool.and_eq_true, decide_eq_true_eq]
      exact ⟨by omega, hb.2.1, hb.2.2⟩
    have q := fun k => Sl.if_mono (key k)
    have h0 := q 0
    have h1 := q 1
    have h2 := q 2
    have h3 := q 3
    unfold Lc.handsN
    omega

theorem hands_some {L : List K} {s : Int} (h : 3 ≤ handsN L s) : ∃ i, i < L.length ∧ bit s i = true := by
  apply Classical.byContradiction
  intro hn
  have := Sl.hands_zero (L := L) (s := s) fun i hi => by
    rw [Bool.eq_false_iff]; intro hb; exact hn ⟨i, hi, hb⟩
  omega

/-- one sees three hands of each round below its own -/
theorem three_below {L : List K} (hl : laceB L = true) (q : Int) (hq : 0 ≤ q) : ∀ i, i < L.length → q < (at' L i).round → 3 ≤ handsN L (roundS L (bel L i) q) := by
  have h60 := ((Lc.lace_iff L).1 hl).1
  intro i
  induction i using Nat.strongRecOn with
  | _ i ih =>
    intro hi hr
    have h3 := three_before hl hi (by omega)
    by_cases e : (at' L i).round - 1 = q
    · rw [e] at h3
      refine Int.le_trans h3 (Sl.hands_mono fun j hj hb => ?_)
      rw [bit_round _ _ _ h60] at hb ⊢
      simp only [Bool.and_eq_true] at hb ⊢
      exact ⟨hb.1, frm_sees hl hi hb.2.1, hb.2.2⟩
    · obtain ⟨m, hm, hb⟩ := hands_some h3
      rw [bit_round _ _ _ h60] at hb
      simp only [Bool.and_eq_true, decide_eq_true_eq] at hb
      have hlt := Sg.thread_lt hl hi hb.2.1
      refine Int.le_trans (ih m hlt (by omega) (by omega)) (Sl.hands_mono fun j hj hj2 => ?_)
      rw [bit_round _ _ _ h60] at hj2 ⊢
      simp only [Bool.and_eq_true] at hj2 ⊢
      exact ⟨hj2.1, sees_trans hl hi (frm_sees hl hi hb.2.1) hj2.2.1, hj2.2.2⟩

/-- a lace in which every hand but one sees all it tied before -/
structure Good (L : List K) (bad : Int) : Prop where
  lace : laceB L = true
  one : ∀ i j, i < L.length → j < L.length → (at' L i).hand = (at' L j).hand → (at' L i).hand ≠ bad → bit (bel L i) j = true ∨ bit (bel L j) i = true

theorem Good.len {L : List K} {bad : Int} (h : Good L bad) : L.length ≤ 60 := ((Lc.lace_iff L).1 h.lace).1

/-- a hand that is not bad ties once a round -/
theorem once {L : List K} {bad : Int} (hG : Ag.Good L bad) {i j : Nat} (hi : i < L.length) (hj : j < L.length) (hh : (at' L i).hand = (at' L j).hand) (hb : (at' L i).hand ≠ bad) (hr : (at' L i).round = (at' L j).round) : i = j := by
  rcases hG.one i j hi hj hh hb with h | h
  · apply Classical.byContradiction
    intro hne
    have := sees_round hG.lace hi h (fun e => hne e.symm)
    omega
  · apply Classical.byContradiction
    intro hne
    have := sees_round hG.lace hj h hne
    omega

theorem hand_bd {L : List K} (hl : laceB L = true) {i : Nat} (hi : i < L.length) : 0 ≤ (at' L i).hand ∧ (at' L i).hand ≤ 3 := Lc.lace_hands hl _ (Lc.at_mem L i hi)
theorem round_bd {L : List K} (hl : laceB L = true) {i : Nat} (hi : i < L.length) : 0 ≤ (at' L i).round ∧ (at' L i).round ≤ 19 := Lc.ok_round (Lc.can_ok (Lc.lace_upTo hl i hi))

/-- where three hands of a round seal it, all that come later seal it -/
theorem seal_spread {L : List K} {bad : Int} (hG : Ag.Good L bad) {f : Nat} {t q : Int} (hq : 0 ≤ q) (h3 : 3 ≤ handsN L (roundS L t q)) (ht : ∀ i, i < L.length → bit t i = true → sealN L i f = true) {k : Nat} (hk : k < L.length) (hr : q < (at' L k).round) : sealN L k f = true := by
  have h60 := hG.len
  have h3k := three_below hG.lace q hq k hk hr
  obtain ⟨h, _, hne, hs, hs2⟩ := Sl.hands_meet h3 h3k bad
  obtain ⟨i, hi, hbi, hhi⟩ := (Lc.hasHand_iff _ _ _).1 hs
  obtain ⟨j, hj, hbj, hhj⟩ := (Lc.hasHand_iff _ _ _).1 hs2
  rw [bit_round _ _ _ h60] at hbi hbj
  simp only [Bool.and_eq_true, decide_eq_true_eq] at hbi hbj
  have e : i = j := once hG hi hj (by rw [hhi, hhj]) (by rw [hhi]; exact hne) (by rw [hbi.2.2, hbj.2.2])
  subst e
  exact Sl.seal_up hG.lace hk hbj.2.1 (ht i hi hbi.2.1)

/-- nobody seals two that are doubled -/
theorem seal_one {L : List K} {bad : Int} (hG : Ag.Good L bad) {x f g : Nat} (hx : x < L.length) (hf : f < L.length) (hg : g < L.length) (hd : dblN L f g = true) (h1 : sealN L x f = true) (h2 : sealN L x g = true) : False := by
  have h60 := hG.len
  unfold Sl.sealN at h1 h2
  rw [decide_eq_true_eq] at h1 h2
  obtain ⟨h, _, hne, hs, hs2⟩ := Sl.hands_meet h1 h2 bad
  obtain ⟨i, hi, hbi, hhi⟩ := (Lc.hasHand_iff _ _ _).1 hs
  obtain ⟨j, hj, hbj, hhj⟩ := (Lc.hasHand_iff _ _ _).1 hs2
  rw [Sl.bit_nodAt h60 (by omega)] at hbi hbj
  simp only [Bool.and_eq_true, decide_eq_true_eq] at hbi hbj
  have ni := (Nd.nod_iff h60 (by omega)).1 hbi.2.2
  have nj := (Nd.nod_iff h60 (by omega)).1 hbj.2.2
  have hd' : dblN L g f = true := by
    unfold Db.dblN at hd ⊢
    simp only [Bool.and_eq_true, decide_eq_true_eq, Bool.not_eq_true'] at hd ⊢
    exact ⟨hd.1.symm, hd.2.2, hd.2.1⟩
  rcases hG.one i j hi hj (by rw [hhi, hhj]) (by rw [hhi]; exact hne) with h | h
  · have := ni.2 g hg (sees_trans hG.lace hi h nj.1)
    rw [hd] at this; exact Bool.noConfusion this
  · have := nj.2 f hf (sees_trans hG.lace hj h ni.1)
    rw [hd'] at this; exact Bool.noConfusion this

/-- two of one hand and one round are doubled -/
theorem dbl_round {L : List K} (hl : laceB L = true) {f g : Nat} (hf : f < L.length) (hg : g < L.length) (hh : (at' L f).hand = (at' L g).hand) (hr : (at' L f).round = (at' L g).round) (hne : f ≠ g) : dblN L f g = true := by
  unfold Db.dblN
  simp only [Bool.and_eq_true, decide_eq_true_eq, Bool.not_eq_true']
  refine ⟨hh, ?_, ?_⟩
  · rw [Bool.eq_false_iff]; intro h
    have := sees_round hl hf h (fun e => hne e.symm); omega
  · rw [Bool.eq_false_iff]; intro h
    have := sees_round hl hg h hne; omega

/-- of one hand and round, sealed by one: the same -/
theorem seal_same {L : List K} {bad : Int} (hG : Ag.Good L bad) {x f g : Nat} (hx : x < L.length) (hf : f < L.length) (hg : g < L.length) (hh : (at' L f).hand = (at' L g).hand) (hr : (at' L f).round = (at' L g).round) (h1 : sealN L x f = true) (h2 : sealN L x g = true) : f = g := by
  apply Classical.byContradiction
  intro hne
  exact seal_one hG hx hf hg (dbl_round hG.lace hf hg hh hr hne) h1 h2

end Ag
end Go.Proofs.Ytodgkhlnefggdaa
