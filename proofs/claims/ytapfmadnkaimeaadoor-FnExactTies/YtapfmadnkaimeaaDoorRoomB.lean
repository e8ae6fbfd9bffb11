/-
  What the model's learning of a knot does: it answers whether it is learned, and writes into the hand's set alone; for laces of at most 60 knots.
-/
import Derived.Test.YtapfmadnkaimeaaDoorRoomA
import Derived.BigRegion
namespace Go.Proofs.YtapfmadnkaimeaaDoor
open Go.RowKit
set_option maxRecDepth 100000
namespace Rm
open Kn (K okK)
open Bit (bit)
open Sg (orB)
open Lc (at' RdK)

theorem andNot_bd (a s : Int) (h0 : 0 ≤ a) (h1 : a < 1152921504606846976) : 0 ≤ bits .andNot .i64 a s ∧ bits .andNot .i64 a s < 1152921504606846976 := by
  obtain ⟨A, rfl⟩ := Int.eq_ofNat_of_zero_le h0
  have hA : (BitVec.ofInt 64 (A : Int)).toNat = A := ofInt_u64 A (by omega)
  have hx : (BitVec.ofInt 64 (A : Int) &&& ~~~ BitVec.ofInt 64 s).toNat ≤ A := by
    rw [BitVec.toNat_and, hA]; exact Nat.and_le_left
  have e : bits .andNot .i64 (A : Int) s = IntKind.i64.wrap ((BitVec.ofInt 64 (A : Int) &&& ~~~ BitVec.ofInt 64 s).toNat : Int) := rfl
  rw [e]
  generalize (BitVec.ofInt 64 (A : Int) &&& ~~~ BitVec.ofInt 64 s).toNat = x at hx
  simp only [IntKind.wrap, IntKind.bits, IntKind.signed]
  simp
  omega

/-- a hand lies there -/
structure HandAt (w : World) (g o : Nat) (who has kept last : Int) : Prop where
  lt : g < w.heap.size
  c0 : w.cell? ⟨g, o, none⟩ = some (.int .i64 who)
  c1 : w.cell? ⟨g, o + 1, none⟩ = some (.int .i64 has)
  c2 : w.cell? ⟨g, o + 2, none⟩ = some (.int .i64 kept)
  c3 : w.cell? ⟨g, o + 3, none⟩ = some (.int .i64 last)
  f0 : w.frozen? ⟨g, o, none⟩ = false
  f1 : w.frozen? ⟨g, o + 1, none⟩ = false
  f2 : w.frozen? ⟨g, o + 2, none⟩ = false
  f3 : w.frozen? ⟨g, o + 3, none⟩ = false

/-- what lacks -/
def lackI (l : List Int) (has : Int) (k : Nat) : Int := bits .andNot .i64 (l.getD k 0) has

/-- is it learned? -/
def learnB (L : List K) (l : List Int) (who has k : Int) (al : Bool) : Bool :=
  decide (0 ≤ k) && (decide (k < (L.length : Int)) && (!bit has k.toNat && (!(al && (lackI l has k.toNat != 2 ^ k.toNat)) && decide (lastTo L who (lackI l has k.toNat) L.length < 0))))

/-- how learning ends -/
def LearnPost (L : List K) (l : List Int) (who has k : Int) (al : Bool) (g o : Nat) (w : World) (e : Ending) (w' : World) : Prop :=
  e = .returned (.bool (learnB L l who has k al)) ∧ ∃ d, w' = { (if learnB L l who has k al then w.setCell ⟨g, o + 1, none⟩ (.int .i64 (orB has (l.getD k.toNat 0))) else w) with drawn := d }

theorem learn_no {L : List K} {l : List Int} {who has k : Int} {al : Bool} {g o : Nat} {w w' : World} (h : learnB L l who has k al = false) (d : Nat) (hw : w' = { w with drawn := d }) : LearnPost L l who has k al g o w (.returned (.bool false)) w' :=
  ⟨by rw [h], d, by rw [h]; exact hw⟩
theorem learn_yes {L : List K} {l : List Int} {who has k : Int} {al : Bool} {g o : Nat} {w w' : World} (h : learnB L l who has k al = true) (d : Nat) (hw : w' = { w.setCell ⟨g, o + 1, none⟩ (.int .i64 (orB has (l.getD k.toNat 0))) with drawn := d }) : LearnPost L l who has k al g o w (.returned (.bool true)) w' :=
  ⟨by rw [h], d, by rw [h]; exact hw⟩

set_option maxHeartbeats 3200000 in
theorem l13Learn (ao : Option Addr) (cap : Nat) (L : List K) (bo : Option Addr) (bc : Nat) (l : List Int) (g o : Nat) (who has kept last k : Int) (al : Bool) (w : World) (hL : L.length ≤ 60) (hll : l.length = L.length) (hin : Sg.Within l) (hr : RdK w ao L) (hrd : Lst.Rd w bo l) (hh : HandAt w g o who has kept last) (h0 : 0 ≤ has) (h1 : has < 1152921504606846976) :
    Calls Tryd.prog 28 #[.slice ao L.length cap, .slice bo l.length bc, .pointer (some ⟨g, o, none⟩), .int .i64 k, .bool al] w (LearnPost L l who has k al g o w) := by
  obtain ⟨hlt, c0, c1, c2, c3, f0, f1, f2, f3⟩ := hh
  by_cases hk0 : k < 0
  · have HT : Hid (learnB L l who has k al = false) := by show _ = _; unfold learnB; rw [decide_eq_false (by omega)]; rfl
    go_enter Tryd.func28, Tryd.ntmps28
    go_wp2
    go_ret
    exact learn_no HT.out _ rfl
  · by_cases hk1 : k < (L.length : Int)
    · obtain ⟨p, rfl⟩ := Int.eq_ofNat_of_zero_le (show 0 ≤ k by omega)
      have hpl : p < l.length := by omega
      have hpi : (p : Int) < (l.length : Int) := by omega
      cases hb : bit has p
      · have HL : Hid (learnB L l who has (p : Int) al = (!(al && (lackI l has p != 2 ^ p)) && decide (lastTo L who (lackI l has p) L.length < 0))) := by
          show _ = _
          unfold learnB
          rw [Int.toNat_natCast, hb, decide_eq_true (show (0 : Int) ≤ (p : Int) by omega), decide_eq_true hk1]; rfl
        have HBb : Hid (bit has p = false) := hb
        have hyb := Sg.within_get hin p
        rcases hrd with hrd | ⟨b, rfl, hcell⟩
        · rw [hrd] at hpl; simp at hpl
        have cy := hcell p hpl
        have hlb : 0 ≤ lackI l has p ∧ lackI l has p < 1152921504606846976 := andNot_bd _ _ hyb.1 hyb.2
        have HLK : Hid (bits .andNot .i64 (l.getD p 0) has = lackI l has p) := rfl
        have HOR : Hid (bits .or .i64 has (l.getD p 0) = orB has (l.getD p 0)) := Sg.or_eq _ _ h0 h1 hyb.1 hyb.2
        have HY : Hid (∀ (w' : World) (d : Nat), learnB L l who has (p : Int) al = true → w' = { w.setCell ⟨g, o + 1, none⟩ (.int .i64 (orB has (l.getD p 0))) with drawn := d } → LearnPost L l who has (p : Int) al g o w (.returned (.bool true)) w') := fun w' d h hw => learn_yes h d hw
        have hlast := lastTo_bd L who (lackI l has p) L.length
        clear hb hcell hyb
        generalize l.getD p 0 = y at cy HLK HOR HY
        go_enter Tryd.func28, Tryd.ntmps28
        go_wp2_with (first | (go_at_call 55; refine (Base.l1Has _ _ _ h0 h1 (by omega) (by omega)).mono ?_; rintro e w' ⟨rfl, rfl⟩; rw [Int.toNat_natCast, HBb.out]) | fail)
        go_quiet (fail)
        rw [HLK.out]
        generalize lackI l has p = lk at HL hlb hlast HLK ⊢
        clear HLK
        cases al
        · go_wp2_with fail
          refine (l13Last ao cap L who lk _ hL (hr.drewN _) hlb.1 hlb.2).mono ?_
          rintro e w2 ⟨rfl, n2, rfl⟩
          by_cases hq : lastTo L who lk L.length < 0
          · have HT : Hid (learnB L l who has (p : Int) false = true) := by show _ = _; rw [HL.out]; simp [hq]
            have hq' : ¬ 0 ≤ lastTo L who lk L.length := by omega
            go_wp2_with fail
            go_region
            all_goals
              rw [HOR.out]
              go_wp2
              go_ret
              exact HY.out _ _ HT.out rfl
          · have HT : Hid (learnB L l who has (p : Int) false = false) := by show _ = _; rw [HL.out]; simp [hq]
            have hq' : 0 ≤ lastTo L who lk L.length := by omega
            go_wp2
            go_ret
            exact learn_no HT.out _ rfl
        · by_cases hlk : lk = 2 ^ p
          · have hlk' : (lk != 2 ^ p) = false := by rw [hlk]; simp
            have HLKb : Hid (lk = 2 ^ p) := hlk
            clear hlk
            go_wp2_with (first | (go_at_call 56; refine (Base.l1Bit _ _ (by omega) (by omega)).mono ?_; rintro e w' ⟨rfl, rfl⟩; rw [Int.toNat_natCast]) | fail)
            refine (l13Last ao cap L who lk _ hL (hr.drewN _) hlb.1 hlb.2).mono ?_
            rintro e w2 ⟨rfl, n2, rfl⟩
            by_cases hq : lastTo L who lk L.length < 0
            · have HT : Hid (learnB L l who has (p : Int) true = true) := by show _ = _; rw [HL.out]; rw [hlk']; simp [hq]
              have hq' : ¬ 0 ≤ lastTo L who lk L.length := by omega
              go_wp2_with fail
              go_region
              all_goals
                rw [HOR.out]
                go_wp2
                go_ret
                exact HY.out _ _ HT.out rfl
            · have HT : Hid (learnB L l who has (p : Int) true = false) := by show _ = _; rw [HL.out]; simp [hq]
              have hq' : 0 ≤ lastTo L who lk L.length := by omega
              go_wp2
              go_ret
              exact learn_no HT.out _ rfl
          · have hlk' : (lk != 2 ^ p) = true := by simpa using hlk
            have HT : Hid (learnB L l who has (p : Int) true = false) := by show _ = _; rw [HL.out, hlk']; rfl
            clear hlk
            go_wp2_with (first | (go_at_call 56; refine (Base.l1Bit _ _ (by omega) (by omega)).mono ?_; rintro e w' ⟨rfl, rfl⟩; rw [Int.toNat_natCast]) | fail)
            go_ret
            exact learn_no HT.out _ rfl
      · have HT : Hid (learnB L l who has (p : Int) al = false) := by
          show _ = _
          unfold learnB
          rw [Int.toNat_natCast, hb]; simp
        have HBb : Hid (bit has p = true) := hb
        clear hb
        go_enter Tryd.func28, Tryd.ntmps28
        go_wp2_with (first | (go_at_call 55; refine (Base.l1Has _ _ _ h0 h1 (by omega) (by omega)).mono ?_; rintro e w' ⟨rfl, rfl⟩; rw [Int.toNat_natCast, HBb.out]) | fail)
        go_ret
        exact learn_no HT.out _ rfl
    · have HT : Hid (learnB L l who has k al = false) := by show _ = _; unfold learnB; rw [decide_eq_false hk1]; simp
      go_enter Tryd.func28, Tryd.ntmps28
      go_wp2
      go_ret
      exact learn_no HT.out _ rfl

end Rm
end Go.Proofs.YtapfmadnkaimeaaDoor
