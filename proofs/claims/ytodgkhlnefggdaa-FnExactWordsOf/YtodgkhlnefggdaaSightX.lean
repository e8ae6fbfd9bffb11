/-
  What the program's own Below, Sees, Closed and Tips answer, in the words of SightT; for lists of knots whose words have at most 2^40 bytes.
-/
import Derived.Test.YtodgkhlnefggdaaSightW
import Derived.Test.YtodgkhlnefggdaaSightT
namespace Go.Proofs.Ytodgkhlnefggdaa
open Go.RowKit Go.Shelf
set_option maxRecDepth 100000
attribute [local go_sem] Oper.semAt_some
namespace Sg
open Kn (K okK)
open Bit (bit withB)
open Lc (at' RdK CellsK)

theorem boxNew (W : World) (v : Value) (t : TypeId) : (W.alloc (.cells #[v] t)).cell? ⟨W.heap.size, 0, none⟩ = some v ∧ (W.alloc (.cells #[v] t)).frozen? ⟨W.heap.size, 0, none⟩ = false := ⟨by simp, by simp⟩
theorem boxCell {W : World} {a : Addr} {v : Value} (o : Obj) (h : W.cell? a = some v) : (W.alloc o).cell? a = some v := cell_kept h (World.grownBy_alloc W o none) (fun r e => by cases e)
theorem boxFrozen {W : World} {a : Addr} {v : Value} (o : Obj) (h : W.cell? a = some v) (hf : W.frozen? a = false) : (W.alloc o).frozen? a = false := (frozen_kept h (World.grownBy_alloc W o none) (fun r e => by cases e)).trans hf

theorem kpL_drew {n₀ Bl : Nat} {W W' : World} (h : KpL n₀ Bl W W') : KpL n₀ Bl W W'.drew := ⟨h.1.drew, h.2⟩
theorem put_other (W : World) (b c : Nat) (hbc : b ≠ c) (u : Value) : (W.setCell ⟨c, 0, none⟩ u).cell? ⟨b, 0, none⟩ = W.cell? ⟨b, 0, none⟩ := cell_block (Below.heap_setCell W ⟨c, 0, none⟩ u b hbc)

theorem with_one (k : Int) : Base.withI 0 k = oneI k := by
  unfold Base.withI oneI
  by_cases h : 0 ≤ k ∧ k < 60
  · rw [(Base.inB_iff k).2 h, (Base.okB_iff 0).2 (by omega), if_pos h]
    simp [Bit.withB]
  · have : Base.inB k = false := by
      cases hb : Base.inB k
      · rfl
      · exact absurd ((Base.inB_iff k).1 hb) h
    rw [this, if_neg h]; simp

theorem vis_in {L : List K} {s : Int} {pre : List (Fin L.length)} (hp : pre <+: vis L s) {y : Fin L.length} (hy : y ∈ pre) : y ∈ vis L s := hp.subset hy

/-- what the walk from a has met has b just where a sees b -/
theorem met_sees {L : List K} (hlc : Lc.laceB L = true) (a b : Int) : (Base.okB (metI L a) && (Base.inB b && bit (metI L a) b.toNat)) = seesB L a b := by
  have h60 := ((Lc.lace_iff L).1 hlc).1
  unfold seesB isB metI
  rw [hlc]
  by_cases ha : 0 ≤ a ∧ a < (L.length : Int)
  · obtain ⟨p, rfl⟩ := Int.eq_ofNat_of_zero_le ha.1
    have hp : p < L.length := by omega
    have hbd := bel_bd L p (by omega)
    rw [if_pos ha, Int.toNat_natCast, (Base.okB_iff _).2 hbd]
    by_cases hb : 0 ≤ b ∧ b < (L.length : Int)
    · rw [(Base.inB_iff b).2 ⟨hb.1, by omega⟩, decide_eq_true ha.1, decide_eq_true ha.2, decide_eq_true hb.1, decide_eq_true hb.2]; rfl
    · have e2 : (decide (0 ≤ b) && (decide (b < (L.length : Int)) && true)) = false := by
        rw [Bool.eq_false_iff]; intro h; simp at h; exact hb h
      rw [e2]
      simp only [Bool.false_and, Bool.and_false, Bool.true_and]
      rw [Bool.eq_false_iff]
      intro h
      rw [Bool.and_eq_true] at h
      have hb0 := (Base.inB_iff b).1 h.1
      have := reach_le hlc hp ((bel_reach hlc p hp b.toNat).1 h.2)
      exact hb ⟨hb0.1, by omega⟩
  · have e1 : (decide (0 ≤ a) && (decide (a < (L.length : Int)) && true)) = false := by
      rw [Bool.eq_false_iff]; intro h; simp at h; exact ha h
    rw [if_neg ha, e1, Lc.bit_zero]; simp

/-- a number that there is a knot for -/
theorem all_has {n : Nat} (hn : n ≤ 60) (k : Int) : (Base.okB (2 ^ n - 1) && (Base.inB k && bit (2 ^ n - 1) k.toNat)) = (decide (0 ≤ k) && decide (k < (n : Int))) := by
  have hp := Lc.pow60 n hn
  have hok : Base.okB (2 ^ n - 1) = true := (Base.okB_iff _).2 ⟨by omega, by omega⟩
  have hb : bit (2 ^ n - 1) k.toNat = decide (k.toNat < n) := by
    have e : ((2 : Int) ^ n - 1) = ((2 ^ n - 1 : Nat) : Int) := by rw [Int.ofNat_sub Nat.one_le_two_pow]; simp
    rw [Bit.bit_testBit _ (by omega), e, Int.toNat_natCast, Nat.testBit_two_pow_sub_one]
  rw [hok, hb, Bool.true_and, Bool.eq_iff_iff]
  simp only [Bool.and_eq_true, decide_eq_true_eq, Base.inB_iff]
  omega

theorem closedB_eq (L : List K) (s : Int) (hl : Lc.laceB L = true) : (Lc.inL L.length s && closedTo (belows L L.length) s L.length) = closedB L s := by
  unfold closedB; rw [Lc.setB_eq, hl]; rfl

end Sg
end Go.Proofs.Ytodgkhlnefggdaa
