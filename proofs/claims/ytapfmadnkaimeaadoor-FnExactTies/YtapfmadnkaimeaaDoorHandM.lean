/-
  Plain mathematics of hands: what is kept, forgotten or learned leaves a right hand right. No program in it.
-/
import Derived.Test.YtapfmadnkaimeaaDoorHandT
import Derived.Test.YtapfmadnkaimeaaDoorSightV
namespace Go.Proofs.YtapfmadnkaimeaaDoor
open Go.RowKit
set_option maxRecDepth 100000
set_option linter.unusedVariables false
namespace Rm
open Kn (K okK)
open Bit (bit withB)
open Lc (at' laceB)
open Sg (bel belows closedTo orB)

/-- there is none of a hand's -/
theorem last_neg (L : List K) (who s : Int) : ∀ n, lastTo L who s n < 0 ↔ ∀ i, i < n → bit s i = true → (at' L i).hand ≠ who := by
  intro n
  induction n with
  | zero => exact ⟨fun _ i hi => by omega, fun _ => by show (-1 : Int) < 0; omega⟩
  | succ n ih =>
    have hbd := lastTo_bd L who s n
    have hst : lastTo L who s (n + 1) = if bit s n && (decide ((at' L n).hand = who) && (decide (lastTo L who s n < 0) || decide ((at' L (lastTo L who s n).toNat).round < (at' L n).round))) then (n : Int) else lastTo L who s n := rfl
    rw [hst]
    by_cases hc : bit s n = true ∧ (at' L n).hand = who
    · rw [hc.1, decide_eq_true hc.2]
      constructor
      · intro h
        exfalso
        by_cases hn : lastTo L who s n < 0
        · rw [decide_eq_true hn] at h; simp at h; omega
        · rw [decide_eq_false hn] at h
          simp only [Bool.true_and, Bool.false_or] at h
          split at h <;> omega
      · intro h
        exact absurd hc.2 (h n (by omega) hc.1)
    · have hf : (bit s n && (decide ((at' L n).hand = who) && (decide (lastTo L who s n < 0) || decide ((at' L (lastTo L who s n).toNat).round < (at' L n).round)))) = false := by
        rw [Bool.eq_false_iff]
        intro q
        simp only [Bool.and_eq_true, decide_eq_true_eq] at q
        exact hc ⟨q.1, q.2.1⟩
      rw [hf, if_neg (by simp), ih]
      constructor
      · intro h i hi hb
        by_cases e : i = n
        · subst e; exact fun q => hc ⟨hb, q⟩
        · exact h i (by omega) hb
      · intro h i hi hb
        exact h i (by omega) hb

/-- a right hand, in plain words -/
structure HandIs (L : List K) (h : Hd) : Prop where
  lace : laceB L = true
  who : Kn.in3 h.who = true
  h0 : 0 ≤ h.has
  h1 : h.has < 1152921504606846976
  k0 : 0 ≤ h.kept
  k1 : h.kept < 1152921504606846976
  inn : ∀ i, bit h.has i = true → i < L.length
  sub : ∀ i, bit h.kept i = true → bit h.has i = true
  own : ∀ i, bit h.has i = true → (at' L i).hand = h.who → bit h.kept i = true
  chas : ∀ i, bit h.has i = true → ∀ j, bit (bel L i) j = true → bit h.has j = true
  ckep : ∀ i, bit h.kept i = true → ∀ j, bit (bel L i) j = true → bit h.kept j = true
  last : h.last = lastTo L h.who h.kept L.length

theorem hand_is {L : List K} {h : Hd} (hk : H64 h) (x : handOkB L h = true) : HandIs L h := by
  unfold handOkB at x
  rw [Bool.and_eq_true] at x
  obtain ⟨hl, hok⟩ := x
  have hbd := hok_parts hk hl hok
  have h60 := ((Lc.lace_iff L).1 hl).1
  unfold hokB at hok
  simp only [Bool.and_eq_true, decide_eq_true_eq] at hok
  obtain ⟨a1, a2, a3, a4, a5, a6, a7, a8, a9⟩ := hok
  have hin : ∀ i, bit h.has i = true → i < L.length := fun i hi => by
    apply Classical.byContradiction
    intro hge
    have := Bit.bit_up h.has L.length (i - L.length) a4
    rw [show L.length + (i - L.length) = i by omega, hi] at this
    exact Bool.noConfusion this
  have hsub : ∀ i, bit h.kept i = true → bit h.has i = true := (Sg.andNot_sub h.kept h.has a3 (by omega) a2 (by omega)).1 a5
  refine ⟨hl, a1, a2, hbd.2.1, a3, hbd.2.2.2, hin, hsub, fun i hi ho => ?_, fun i hi => (Sg.closed_iff L h.has L.length h60 a2 hbd.2.1).1 a7 i (hin i hi) hi, fun i hi => (Sg.closed_iff L h.kept L.length h60 a3 hbd.2.2.2).1 a8 i (hin i (hsub i hi)) hi, by rw [beq_iff_eq] at a9; exact a9⟩
  cases hb : bit h.kept i
  · have hz : bit (bits .andNot .i64 h.has h.kept) i = true := by rw [Sg.bit_andNot h.has h.kept a2 hbd.2.1 a3 hbd.2.2.2, hi, hb]; rfl
    exact absurd ho ((last_neg L h.who _ L.length).1 a6 i (hin i hi) hz)
  · rfl
theorem is_hand {L : List K} {h : Hd} (x : HandIs L h) : handOkB L h = true := by
  have h60 := ((Lc.lace_iff L).1 x.lace).1
  have hd : h.has / 2 ^ L.length = 0 := Lc.div_of_bits _ _ x.h0 fun i hi => by
    rw [Bool.eq_false_iff]; intro q; have := x.inn i q; omega
  have e5 : (bits .andNot .i64 h.kept h.has == 0) = true := (Sg.andNot_sub h.kept h.has x.k0 (by have := x.k1; omega) x.h0 (by have := x.h1; omega)).2 x.sub
  have e6 : lastTo L h.who (bits .andNot .i64 h.has h.kept) L.length < 0 := (last_neg L h.who _ L.length).2 fun i hi hb => by
    rw [Sg.bit_andNot h.has h.kept x.h0 x.h1 x.k0 x.k1, Bool.and_eq_true] at hb
    intro ho
    rw [x.own i hb.1 ho] at hb
    exact Bool.noConfusion hb.2
  have e7 : closedTo (belows L L.length) h.has L.length = true := (Sg.closed_iff L h.has L.length h60 x.h0 x.h1).2 fun i hi hb => x.chas i hb
  have e8 : closedTo (belows L L.length) h.kept L.length = true := (Sg.closed_iff L h.kept L.length h60 x.k0 x.k1).2 fun i hi hb => x.ckep i hb
  unfold handOkB hokB
  rw [x.lace, x.who, decide_eq_true x.h0, decide_eq_true x.k0, decide_eq_true hd, e5, decide_eq_true e6, e7, e8, x.last]
  simp

/-! ### kept, forgotten -/
theorem kept_is {L : List K} {h : Hd} (x : HandIs L h) : HandIs L ⟨h.who, h.has, h.has, lastTo L h.who h.has L.length⟩ :=
  ⟨x.lace, x.who, x.h0, x.h1, x.h0, x.h1, x.inn, fun _ q => q, fun _ q _ => q, x.chas, x.chas, rfl⟩
theorem forgot_is {L : List K} {h : Hd} (x : HandIs L h) : HandIs L ⟨h.who, h.kept, h.kept, h.last⟩ :=
  ⟨x.lace, x.who, x.k0, x.k1, x.k0, x.k1, fun i q => x.inn i (x.sub i q), fun _ q => q, fun _ q _ => q, x.ckep, x.ckep, x.last⟩
/-! ### learned -/
theorem learn_parts {L : List K} {h : Hd} {k : Int} {al : Bool} (x : HandIs L h) (q : learnB L (belows L L.length) h.who h.has k al = true) :
    ∃ p : Nat, k = (p : Int) ∧ p < L.length ∧ bit h.has p = false ∧ (belows L L.length).getD k.toNat 0 = bel L p ∧ (al = true → bits .andNot .i64 (bel L p) h.has = 2 ^ p) ∧ ∀ i, bit (bel L p) i = true → bit h.has i = false → (at' L i).hand ≠ h.who := by
  have h60 := ((Lc.lace_iff L).1 x.lace).1
  unfold learnB at q
  simp only [Bool.and_eq_true, decide_eq_true_eq, Bool.not_eq_true'] at q
  obtain ⟨k0, k1, hh, ha, hl⟩ := q
  obtain ⟨p, rfl⟩ := Int.eq_ofNat_of_zero_le k0
  have hp : p < L.length := by omega
  rw [Int.toNat_natCast] at *
  have hg : (belows L L.length).getD p 0 = bel L p := Sg.belows_get L L.length p hp
  unfold lackI at ha hl
  rw [hg] at ha hl
  have hb := Sg.bel_bd L p (by omega)
  refine ⟨p, rfl, hp, hh, hg, fun e => ?_, fun i hi hni => ?_⟩
  · rw [e, Bool.true_and] at ha
    unfold bne at ha
    simpa using ha
  · refine (last_neg L h.who _ L.length).1 hl i ?_ ?_
    · have := Sg.reach_le x.lace hp ((Sg.bel_reach x.lace p hp i).1 hi)
      omega
    · rw [Sg.bit_andNot _ _ hb.1 hb.2 x.h0 x.h1, hi, hni]; rfl
theorem learned_is {L : List K} {h : Hd} {k : Int} {al : Bool} (x : HandIs L h) (q : learnB L (belows L L.length) h.who h.has k al = true) : HandIs L { h with has := orB h.has ((belows L L.length).getD k.toNat 0) } := by
  have h60 := ((Lc.lace_iff L).1 x.lace).1
  obtain ⟨p, rfl, hp, hh, hg, _, ho⟩ := learn_parts x q
  have hb := Sg.bel_bd L p (by omega)
  rw [hg]
  have hbit := fun i => Sg.bit_orB h.has (bel L p) x.h0 hb.1 i
  have hor := Sg.orB_bd h.has (bel L p) x.h0 x.h1 hb.1 hb.2
  have hin : ∀ i, bit (bel L p) i = true → i ≤ p := fun i hi => Sg.reach_le x.lace hp ((Sg.bel_reach x.lace p hp i).1 hi)
  refine ⟨x.lace, x.who, hor.1, hor.2, x.k0, x.k1, fun i hi => ?_, fun i hi => ?_, fun i hi hw => ?_, fun i hi j hj => ?_, x.ckep, x.last⟩
  · rw [hbit i, Bool.or_eq_true] at hi
    rcases hi with hi | hi
    · exact x.inn i hi
    · have := hin i hi; omega
  · rw [hbit i, x.sub i hi]; rfl
  · rw [hbit i, Bool.or_eq_true] at hi
    cases hhi : bit h.has i
    · rw [hhi] at hi
      rcases hi with hi | hi
      · exact Bool.noConfusion hi
      · exact absurd hw (ho i hi hhi)
    · exact x.own i hhi hw
  · rw [hbit i, Bool.or_eq_true] at hi
    rw [hbit j, Bool.or_eq_true]
    rcases hi with hi | hi
    · exact .inl (x.chas i hi j hj)
    · exact .inr (Sg.bel_trans x.lace hp hi hj)

end Rm
end Go.Proofs.YtapfmadnkaimeaaDoor
