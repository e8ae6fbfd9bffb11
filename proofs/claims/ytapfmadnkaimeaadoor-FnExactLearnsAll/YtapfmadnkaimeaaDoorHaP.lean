/-
  Plain mathematics of learning: why a knot is not taken, in the program's words and in the model's. No program in it.
-/
import Derived.Test.YtapfmadnkaimeaaDoorHaF
namespace Go.Proofs.YtapfmadnkaimeaaDoor
open Go.RowKit
set_option maxRecDepth 100000
set_option linter.unusedVariables false
namespace Rm
open Kn (K okK)
open Bit (bit withB)
open Lc (at' RdK laceB WordsOk)
open Sg (bel belows closedTo orB)

theorem own_zero {L : List K} (h60 : L.length ≤ 60) (who s : Int) : (ownI L who s != 0) = !decide (lastTo L who s L.length < 0) := by
  have hb := own_bd L who s h60
  by_cases hn : lastTo L who s L.length < 0
  · rw [decide_eq_true hn]
    have : ownI L who s = 0 := Lc.eq_of_bits _ _ hb.1 (by omega) fun i => by
      rw [bit_own _ _ _ h60, Lc.bit_zero]
      by_cases hi : i < L.length
      · cases hbi : bit s i
        · simp
        · have := (last_neg L who s _).1 hn i hi hbi
          simp [this]
      · simp [hi]
    rw [this]; rfl
  · rw [decide_eq_false hn]
    have : ownI L who s ≠ 0 := fun e => by
      apply hn
      rw [last_neg]
      intro i hi hbi hw
      have q := bit_own L who s h60 i
      rw [e, Lc.bit_zero, decide_eq_true hi, hbi, decide_eq_true hw] at q
      cases q
    simpa using this

theorem lack_at {L : List K} (has : Int) (p : Nat) (hp : p < L.length) : lackB L has (p : Int) = bits .andNot .i64 (bel L p) has ∧ lackI (belows L L.length) has p = bits .andNot .i64 (bel L p) has := by
  constructor
  · unfold lackB Sg.metI
    rw [if_pos ⟨by omega, by omega⟩, Int.toNat_natCast]
  · unfold lackI
    rw [Sg.belows_get L L.length p hp]

theorem or_lack {L : List K} {h : Hd} (x : HandIs L h) (p : Nat) (hp : p < L.length) : orB h.has ((belows L L.length).getD (p : Int).toNat 0) = bits .or .i64 h.has (lackB L h.has (p : Int)) := by
  have h60 := ((Lc.lace_iff L).1 x.lace).1
  have hb := Sg.bel_bd L p (by omega)
  have ha := andNot_bd (bel L p) h.has hb.1 hb.2
  have h0 := x.h0
  have h1 := x.h1
  rw [Int.toNat_natCast, Sg.belows_get L L.length p hp, (lack_at h.has p hp).1]
  have e : bits .or .i64 h.has (bits .andNot .i64 (bel L p) h.has) = orB h.has (bits .andNot .i64 (bel L p) h.has) := Bit.i64_or _ _ h0 (by omega) ha.1 (by omega)
  rw [e]
  refine Lc.eq_of_bits _ _ (Sg.orB_bd _ _ h0 h1 hb.1 hb.2).1 (Sg.orB_bd _ _ h0 h1 ha.1 ha.2).1 fun i => ?_
  rw [Sg.bit_orB _ _ h0 hb.1, Sg.bit_orB _ _ h0 ha.1, Sg.bit_andNot _ _ hb.1 hb.2 h0 h1]
  cases bit h.has i <;> simp

/-- is it learned, by the reason? -/
def tookB (L : List K) (h : Hd) (k : Int) : Why → Bool → Bool
  | .taken, _ => true
  | .loose, false => !(ownI L h.who (lackB L h.has k) != 0)
  | _, _ => false
theorem learn_why {L : List K} {h : Hd} (x : HandIs L h) (k : Int) (al : Bool) : learnB L (belows L L.length) h.who h.has k al = tookB L h k (whyB L h k) al := by
  have h60 := ((Lc.lace_iff L).1 x.lace).1
  unfold learnB whyB
  by_cases h0 : 0 ≤ k
  rotate_left
  · rw [decide_eq_false h0]; cases al <;> rfl
  by_cases h1 : k < (L.length : Int)
  rotate_left
  · rw [decide_eq_false h1, decide_eq_true h0]; cases al <;> rfl
  rw [decide_eq_true h0, decide_eq_true h1]
  obtain ⟨p, rfl⟩ := Int.eq_ofNat_of_zero_le h0
  have hp : p < L.length := by omega
  have hin : Base.inB (p : Int) = true := (Base.inB_iff _).2 ⟨by omega, by omega⟩
  have hone : Sg.oneI (p : Int) = 2 ^ p := by unfold Sg.oneI; rw [if_pos ⟨by omega, by omega⟩, Int.toNat_natCast]
  rw [hin, hone, Int.toNat_natCast, (lack_at h.has p hp).2, own_zero h60, (lack_at h.has p hp).1]
  unfold tookB
  rw [own_zero h60, (lack_at h.has p hp).1]
  generalize bits .andNot .i64 (bel L p) h.has = lk
  generalize lastTo L h.who lk L.length = lt
  cases bit h.has p <;> cases al <;> by_cases hl : lk = 2 ^ p <;> by_cases ht : lt < 0 <;> simp [hl, ht]
theorem learn_or {L : List K} {h : Hd} (x : HandIs L h) (k : Int) (al : Bool) (hq : learnB L (belows L L.length) h.who h.has k al = true) : orB h.has ((belows L L.length).getD k.toNat 0) = bits .or .i64 h.has (lackB L h.has k) := by
  obtain ⟨p, rfl, hp, _⟩ := learn_parts x hq
  exact or_lack x p hp

end Rm
end Go.Proofs.YtapfmadnkaimeaaDoor
