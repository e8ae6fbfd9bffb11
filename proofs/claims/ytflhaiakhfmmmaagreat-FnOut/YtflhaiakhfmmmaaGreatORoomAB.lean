/-
 What the model's learning of a knot does: it answers whether it is learned, and writes into the hand's set alone; for laces of at most 60 knots.
 What the model's small functions on hands answer: the last knot of a hand in a set, and the round that is next; for laces of at most 60 knots, their hands 0 to 3.
-/
import Derived.Test.YtflhaiakhfmmmaaGreatOLaceS
import Derived.Test.YtflhaiakhfmmmaaGreatOLaceB
import Derived.Test.YtflhaiakhfmmmaaGreatOSightA
namespace Go.Proofs.YtflhaiakhfmmmaaGreat
open Go.RowKit
set_option maxRecDepth 100000
namespace Rm
open Kn (K okK)
open Bit (bit)
open Lc (at' RdK roundS handsN HandsOk amongI)
set_option maxHeartbeats 800000 in
theorem l3RoundO (ao : Option Addr) (cap : Nat) (L : List K) (s r : Int) (w : World) (hL : L.length ≤ 60) (hr : RdK w ao L) (h0 : 0 ≤ s) (h1 : s < 1152921504606846976) : Calls Tryz.prog 101 #[.slice ao L.length cap, .int .i64 s, .int .i64 r] w fun e w' =>
   e = .returned (.int .i64 (roundS L s r)) ∧ w = w' := by
 rcases hr with h | ⟨g, off, rfl, hg, hc⟩
 · subst h
   have HT : Hid (roundS [] s r = 0) := rfl
   go_enter Tryz.func101, Tryz.ntmps101
   go_wp2
   go_loop [7, 8] (fun o i => o = .int .i64 0 ∧ i = .int .i64 0) (fun _ _ => 0)
   case atStart => exact ⟨rfl, rfl⟩
   case round =>
     obtain ⟨rfl, rfl⟩ := hrel
     go_wp2
     go_ret
     exact ⟨by rw [HT.out]; rfl, rfl⟩
 · exact Lc.l3Round g off cap L s r w hL (.inr ⟨g, off, rfl, hg, hc⟩) h0 h1
def lastTo (L : List K) (who s : Int) : Nat → Int
 | 0 => -1
 | n + 1 => if bit s n && (decide ((at' L n).hand = who) && (decide (lastTo L who s n < 0) || decide ((at' L (lastTo L who s n).toNat).round < (at' L n).round))) then (n : Int) else lastTo L who s n
theorem lastTo_bd (L : List K) (who s : Int) (n : Nat) : -1 ≤ lastTo L who s n ∧ lastTo L who s n < (n : Int) := by
 induction n with
 | zero => simp [lastTo]
 | succ n ih => unfold lastTo; split <;> omega
theorem has_call (f : Int) (i : Nat) (b : Bool) (h0 : 0 ≤ f) (h1 : f < 1152921504606846976) (hi : i ≤ 60) (hb : bit f i = b) (W : World) : Calls Tryz.prog 48 #[.int .i64 f, .int .i64 (i : Int)] W fun e w' => e = .returned (.bool b) ∧ w' = W := by
 refine (Base.l1Has f (i : Int) W h0 h1 (by omega) (by omega)).mono ?_
 rintro e w' ⟨rfl, rfl⟩
 exact ⟨by rw [Int.toNat_natCast, hb], rfl⟩
set_option maxHeartbeats 3200000 in
theorem l13Last (ao : Option Addr) (cap : Nat) (L : List K) (who s : Int) (w : World) (hL : L.length ≤ 60) (hr : RdK w ao L) (h0 : 0 ≤ s) (h1 : s < 1152921504606846976) : Calls Tryz.prog 165 #[.slice ao L.length cap, .int .i64 who, .int .i64 s] w fun e w' =>
   e = .returned (.int .i64 (lastTo L who s L.length)) ∧ ∃ n, w' = w.drewN n := by
 go_enter Tryz.func165, Tryz.ntmps165
 go_wp2
 go_loopw [7, 8] (fun o i wr => ∃ j n : Nat, j ≤ L.length ∧ i = .int .i64 j ∧ o = .int .i64 (lastTo L who s j) ∧ wr = w.drewN n) (fun _ i _ => L.length - (intOf i).toNat)
 case atStart => exact ⟨0, 0, by omega, rfl, rfl, rfl⟩
 case round =>
   obtain ⟨j, n, hj, rfl, rfl, rfl⟩ := hrel
   by_cases hlt : j < L.length
   · have hrl := hr
     obtain ⟨g, off, rfl, hg, hc⟩ := hr.at j hlt
     have hbd := lastTo_bd L who s j
     have HST : Hid (lastTo L who s (j + 1) = if bit s j && (decide ((at' L j).hand = who) && (decide (lastTo L who s j < 0) || decide ((at' L (lastTo L who s j).toNat).round < (at' L j).round))) then (j : Int) else lastTo L who s j) := rfl
     obtain ⟨c0, c1, _, _⟩ := hc
     clear hr
     generalize lastTo L who s j = x at hbd HST ⊢
     cases hb : bit s j
     · have HS : Hid (lastTo L who s (j + 1) = x) := by show _ = _; rw [HST.out, hb]; rfl
       have hcall := has_call s j false h0 h1 (by omega) hb
       clear hb HST
       go_wp2_with fail
       go_quiet (first | (go_at_call 48; exact (hcall _).mono fun _ _ h => ⟨h.1, _, h.2⟩))
       go_wp2
       go_roundw
       case rel => exact ⟨j + 1, n + nq, by omega, by go_num, by rw [HS.out], by simp⟩
       case measure => simp [intOf]; omega
     · have hcall := has_call s j true h0 h1 (by omega) hb
       by_cases hq : (at' L j).hand = who
       · have hq1 : ((at' L j).hand == who) = true := by simpa using hq
         by_cases hx : x < 0
         · have HS : Hid (lastTo L who s (j + 1) = (j : Int)) := by show _ = _; rw [HST.out, hb]; simp [hq, hx]
           clear hb HST hq
           go_wp2_with fail
           go_quiet (first | (go_at_call 48; exact (hcall _).mono fun _ _ h => ⟨h.1, _, h.2⟩))
           go_wp2
           go_roundw
           case rel => exact ⟨j + 1, n + nq, by omega, by go_num, by rw [HS.out], by simp⟩
           case measure => simp [intOf]; omega
         · obtain ⟨p, rfl⟩ := Int.eq_ofNat_of_zero_le (show 0 ≤ x by omega)
           have hpl : p < L.length := by omega
           obtain ⟨_, _, e1, _, _⟩ := hrl.on p hpl
           have hx1 : decide ((p : Int) < 0) = false := decide_eq_false hx
           have hpi : (p : Int) < (L.length : Int) := by omega
           by_cases hy : (at' L p).round < (at' L j).round
           · have HS : Hid (lastTo L who s (j + 1) = (j : Int)) := by show _ = _; rw [HST.out, hb]; simp [hq, hy]
             clear hb HST hq hx
             go_wp2_with fail
             go_quiet (first | (go_at_call 48; exact (hcall _).mono fun _ _ h => ⟨h.1, _, h.2⟩))
             go_wp2
             go_roundw
             case rel => exact ⟨j + 1, n + nq, by omega, by go_num, by rw [HS.out], by simp⟩
             case measure => simp [intOf]; omega
           · have HS : Hid (lastTo L who s (j + 1) = (p : Int)) := by show _ = _; rw [HST.out, hb]; simp [hy]; omega
             have hy1 : decide ((at' L p).round < (at' L j).round) = false := decide_eq_false hy
             clear hb HST hq hx
             go_wp2_with fail
             go_quiet (first | (go_at_call 48; exact (hcall _).mono fun _ _ h => ⟨h.1, _, h.2⟩))
             go_wp2
             go_roundw
             case rel => exact ⟨j + 1, n + nq, by omega, by go_num, by rw [HS.out], by simp⟩
             case measure => simp [intOf]; omega
       · have HS : Hid (lastTo L who s (j + 1) = x) := by show _ = _; rw [HST.out, hb]; simp [hq]
         have hq1 : ((at' L j).hand == who) = false := by simpa using hq
         clear hb HST hq
         go_wp2_with fail
         go_quiet (first | (go_at_call 48; exact (hcall _).mono fun _ _ h => ⟨h.1, _, h.2⟩))
         go_wp2
         go_roundw
         case rel => exact ⟨j + 1, n + nq, by omega, by go_num, by rw [HS.out], by simp⟩
         case measure => simp [intOf]; omega
   · obtain rfl : j = L.length := by omega
     go_wp2
     go_ret
     exact ⟨rfl, n, rfl⟩
def nextTo (L : List K) (has : Int) : Nat → Int
 | 0 => 0
 | k + 1 => if 3 ≤ handsN L (roundS L has (k : Int)) then ((k + 1 : Nat) : Int) else nextTo L has k
def nextI (L : List K) (has last : Int) : Int := if 0 ≤ last ∧ nextTo L has 19 ≤ (at' L last.toNat).round then -1 else nextTo L has 19
set_option maxHeartbeats 1600000 in
theorem l14Next (ao : Option Addr) (cap : Nat) (L : List K) (who has kept last : Int) (w : World) (hL : L.length ≤ 60) (hh : HandsOk L) (hr : RdK w ao L) (h0 : 0 ≤ has) (h1 : has < 1152921504606846976) (hl : last < (L.length : Int)) :
   Calls Tryz.prog 180 #[.slice ao L.length cap, .agg #[.int .i64 who, .int .i64 has, .int .i64 kept, .int .i64 last]] w fun e w' => e = .returned (.int .i64 (nextI L has last)) ∧ Below w.heap.size w w' := by
 have P0 : Hid (Below w.heap.size w (w.alloc (.cells #[.int .i64 who, .int .i64 has, .int .i64 kept, .int .i64 last] 152)) ∧ (w.alloc (.cells #[.int .i64 who, .int .i64 has, .int .i64 kept, .int .i64 last] 152)).cell? ⟨w.heap.size, 1, none⟩ = some (.int .i64 has) ∧ (w.alloc (.cells #[.int .i64 who, .int .i64 has, .int .i64 kept, .int .i64 last] 152)).cell? ⟨w.heap.size, 3, none⟩ = some (.int .i64 last) ∧ w.heap.size < (w.alloc (.cells #[.int .i64 who, .int .i64 has, .int .i64 kept, .int .i64 last] 152)).heap.size) :=
   ⟨(Below.refl _ _).alloc (Nat.le_refl _) _, by simp, by simp, by simp⟩
 go_enter Tryz.func180, Tryz.ntmps180
 go_wp2
 generalize w.alloc (.cells #[.int .i64 who, .int .i64 has, .int .i64 kept, .int .i64 last] 152) = w0 at P0 ⊢
 obtain ⟨B0, C1, C3, S0⟩ := P0
 have hr0 := hr.below B0
 generalize hbe : w.heap.size = b at *
 go_loopw [5, 6] (fun o i wr => ∃ j : Nat, j ≤ 19 ∧ i = .int .i64 ((j : Int) + 1) ∧ o = .int .i64 (nextTo L has j) ∧ Hid (Below w0.heap.size w0 wr)) (fun _ i _ => 20 - (intOf i).toNat)
 case atStart => exact ⟨0, by omega, rfl, rfl, Below.refl _ _⟩
 case round =>
   obtain ⟨j, hj, rfl, rfl, HB⟩ := hrel
   have c1 := (HB.out.cell (p := ⟨b, 1, none⟩) S0).trans C1
   have c3 := (HB.out.cell (p := ⟨b, 3, none⟩) S0).trans C3
   have HR : Hid (RdK wr ao L) := hr0.below HB.out
   by_cases hlt : j < 19
   · have hrb := Lc.round_bd L has (j : Int) hL
     have HST : Hid (nextTo L has (j + 1) = if 3 ≤ handsN L (roundS L has (j : Int)) then ((j + 1 : Nat) : Int) else nextTo L has j) := rfl
     have hle : (j : Int) + 1 ≤ 19 := by omega
     clear c3
     go_wp2_with fail
     refine (l3RoundO ao cap L has (j : Int) _ hL HR.out h0 h1).mono ?_
     rintro e w1 ⟨rfl, rfl⟩
     go_wp2_with fail
     refine (Lc.l3Hands ao cap L _ _ hL HR.out hh hrb.1 (by omega)).mono ?_
     rintro e w2 ⟨rfl, hb2⟩
     have HB2 : Hid (Below w0.heap.size w0 w2) := HB.out.trans (hb2.mono HB.out.size)
     clear hb2 HB HR c1 hrb
     by_cases hq : 3 ≤ handsN L (roundS L has (j : Int))
     · have HS : Hid (nextTo L has (j + 1) = ((j + 1 : Nat) : Int)) := by show _ = _; rw [HST.out, if_pos hq]
       clear HST
       go_wp2
       go_roundw
       case rel => exact ⟨j + 1, by omega, by go_num, by rw [HS.out]; congr 1, HB2⟩
       case measure => simp [intOf]; omega
     · have HS : Hid (nextTo L has (j + 1) = nextTo L has j) := by show _ = _; rw [HST.out, if_neg hq]
       clear HST
       go_wp2
       go_roundw
       case rel => exact ⟨j + 1, by omega, by go_num, by rw [HS.out], HB2⟩
       case measure => simp [intOf]; omega
   · obtain rfl : j = 19 := by omega
     have hle : ¬ ((19 : Nat) : Int) + 1 ≤ 19 := by omega
     have HT : Hid (nextI L has last = if 0 ≤ last ∧ nextTo L has 19 ≤ (at' L last.toNat).round then -1 else nextTo L has 19) := rfl
     have HBE : Hid (Below b w wr) := B0.trans (HB.out.mono (Nat.le_of_lt S0))
     generalize nextTo L has 19 = x at HT ⊢
     by_cases hl0 : 0 ≤ last
     · obtain ⟨p, rfl⟩ := Int.eq_ofNat_of_zero_le hl0
       obtain ⟨g, off, rfl, hg, hc⟩ := HR.out.at p (by omega)
       obtain ⟨_, e1, _, _⟩ := hc
       rw [Int.toNat_natCast] at HT
       by_cases hy : x ≤ (at' L p).round
       · have HT2 : Hid (nextI L has (p : Int) = -1) := by show _ = _; rw [HT.out, if_pos ⟨hl0, hy⟩]
         clear HT
         go_wp2
         go_ret
         exact ⟨by rw [HT2.out]; rfl, by first | exact HBE.out | (rw [hbe]; exact HBE.out)⟩
       · have HT2 : Hid (nextI L has (p : Int) = x) := by show _ = _; rw [HT.out, if_neg (fun h => hy h.2)]
         clear HT
         go_wp2
         go_ret
         exact ⟨by rw [HT2.out]; rfl, by first | exact HBE.out | (rw [hbe]; exact HBE.out)⟩
     · have HT2 : Hid (nextI L has last = x) := by show _ = _; rw [HT.out, if_neg (fun h => hl0 h.1)]
       clear HT
       go_wp2
       go_ret
       exact ⟨by rw [HT2.out]; rfl, by first | exact HBE.out | (rw [hbe]; exact HBE.out)⟩
end Rm
namespace Rm
open Kn (K okK)
open Bit (bit)
open Sg (orB)
open Lc (at' RdK)
theorem andNot_bd (a s : Int) (h0 : 0 ≤ a) (h1 : a < 1152921504606846976) : 0 ≤ bits .andNot .i64 a s ∧ bits .andNot .i64 a s < 1152921504606846976 := by
 obtain ⟨A, rfl⟩ := Int.eq_ofNat_of_zero_le h0
 have hA : (BitVec.ofInt 64 (A : Int)).toNat = A := ofInt_u64 A (by omega)
 have hx : (BitVec.ofInt 64 (A : Int) &&& ~~~ BitVec.ofInt 64 s).toNat ≤ A := by
   rw [BitVec.toNat_and, hA]; exact Nat.and_le_left
 have e : bits .andNot .i64 (A : Int) s = IntKind.i64.wrap ((BitVec.ofInt 64 (A : Int) &&& ~~~ BitVec.ofInt 64 s).toNat : Int) := rfl
 rw [e]
 generalize (BitVec.ofInt 64 (A : Int) &&& ~~~ BitVec.ofInt 64 s).toNat = x at hx
 simp only [IntKind.wrap, IntKind.bits, IntKind.signed]
 simp
 omega
structure HandAt (w : World) (g o : Nat) (who has kept last : Int) : Prop where
 lt : g < w.heap.size
 c0 : w.cell? ⟨g, o, none⟩ = some (.int .i64 who)
 c1 : w.cell? ⟨g, o + 1, none⟩ = some (.int .i64 has)
 c2 : w.cell? ⟨g, o + 2, none⟩ = some (.int .i64 kept)
 c3 : w.cell? ⟨g, o + 3, none⟩ = some (.int .i64 last)
 f0 : w.frozen? ⟨g, o, none⟩ = false
 f1 : w.frozen? ⟨g, o + 1, none⟩ = false
 f2 : w.frozen? ⟨g, o + 2, none⟩ = false
 f3 : w.frozen? ⟨g, o + 3, none⟩ = false
def lackI (l : List Int) (has : Int) (k : Nat) : Int := bits .andNot .i64 (l.getD k 0) has
def learnB (L : List K) (l : List Int) (who has k : Int) (al : Bool) : Bool :=
 decide (0 ≤ k) && (decide (k < (L.length : Int)) && (!bit has k.toNat && (!(al && (lackI l has k.toNat != 2 ^ k.toNat)) && decide (lastTo L who (lackI l has k.toNat) L.length < 0))))
def LearnPost (L : List K) (l : List Int) (who has k : Int) (al : Bool) (g o : Nat) (w : World) (e : Ending) (w' : World) : Prop :=
 e = .returned (.bool (learnB L l who has k al)) ∧ ∃ d, w' = { (if learnB L l who has k al then w.setCell ⟨g, o + 1, none⟩ (.int .i64 (orB has (l.getD k.toNat 0))) else w) with drawn := d }
theorem learn_no {L : List K} {l : List Int} {who has k : Int} {al : Bool} {g o : Nat} {w w' : World} (h : learnB L l who has k al = false) (d : Nat) (hw : w' = { w with drawn := d }) : LearnPost L l who has k al g o w (.returned (.bool false)) w' :=
 ⟨by rw [h], d, by rw [h]; exact hw⟩
theorem learn_yes {L : List K} {l : List Int} {who has k : Int} {al : Bool} {g o : Nat} {w w' : World} (h : learnB L l who has k al = true) (d : Nat) (hw : w' = { w.setCell ⟨g, o + 1, none⟩ (.int .i64 (orB has (l.getD k.toNat 0))) with drawn := d }) : LearnPost L l who has k al g o w (.returned (.bool true)) w' :=
 ⟨by rw [h], d, by rw [h]; exact hw⟩
set_option maxHeartbeats 3200000 in
theorem l13Learn (ao : Option Addr) (cap : Nat) (L : List K) (bo : Option Addr) (bc : Nat) (l : List Int) (g o : Nat) (who has kept last k : Int) (al : Bool) (w : World) (hL : L.length ≤ 60) (hll : l.length = L.length) (hin : Sg.Within l) (hr : RdK w ao L) (hrd : Lst.Rd w bo l) (hh : HandAt w g o who has kept last) (h0 : 0 ≤ has) (h1 : has < 1152921504606846976) :
   Calls Tryz.prog 145 #[.slice ao L.length cap, .slice bo l.length bc, .pointer (some ⟨g, o, none⟩), .int .i64 k, .bool al] w (LearnPost L l who has k al g o w) := by
 obtain ⟨hlt, c0, c1, c2, c3, f0, f1, f2, f3⟩ := hh
 by_cases hk0 : k < 0
 · have HT : Hid (learnB L l who has k al = false) := by show _ = _; unfold learnB; rw [decide_eq_false (by omega)]; rfl
   go_enter Tryz.func145, Tryz.ntmps145
   go_wp2
   go_ret
   exact learn_no HT.out _ rfl
 · by_cases hk1 : k < (L.length : Int)
   · obtain ⟨p, rfl⟩ := Int.eq_ofNat_of_zero_le (show 0 ≤ k by omega)
     have hpl : p < l.length := by omega
     have hpi : (p : Int) < (l.length : Int) := by omega
     cases hb : bit has p
     · have HL : Hid (learnB L l who has (p : Int) al = (!(al && (lackI l has p != 2 ^ p)) && decide (lastTo L who (lackI l has p) L.length < 0))) := by
         show _ = _
         unfold learnB
         rw [Int.toNat_natCast, hb, decide_eq_true (show (0 : Int) ≤ (p : Int) by omega), decide_eq_true hk1]; rfl
       have HBb : Hid (bit has p = false) := hb
       have hyb := Sg.within_get hin p
       rcases hrd with hrd | ⟨b, rfl, hcell⟩
       · rw [hrd] at hpl; simp at hpl
       have cy := hcell p hpl
       have hlb : 0 ≤ lackI l has p ∧ lackI l has p < 1152921504606846976 := andNot_bd _ _ hyb.1 hyb.2
       have HLK : Hid (bits .andNot .i64 (l.getD p 0) has = lackI l has p) := rfl
       have HOR : Hid (bits .or .i64 has (l.getD p 0) = orB has (l.getD p 0)) := Sg.or_eq _ _ h0 h1 hyb.1 hyb.2
       have HY : Hid (∀ (w' : World) (d : Nat), learnB L l who has (p : Int) al = true → w' = { w.setCell ⟨g, o + 1, none⟩ (.int .i64 (orB has (l.getD p 0))) with drawn := d } → LearnPost L l who has (p : Int) al g o w (.returned (.bool true)) w') := fun w' d h hw => learn_yes h d hw
       have hlast := lastTo_bd L who (lackI l has p) L.length
       clear hb hcell hyb
       generalize l.getD p 0 = y at cy HLK HOR HY
       go_enter Tryz.func145, Tryz.ntmps145
       go_wp2_with (first | (go_at_call 48; refine (Base.l1Has _ _ _ h0 h1 (by omega) (by omega)).mono ?_; rintro e w' ⟨rfl, rfl⟩; rw [Int.toNat_natCast, HBb.out]) | fail)
       go_quiet (fail)
       rw [HLK.out]
       generalize lackI l has p = lk at HL hlb hlast HLK ⊢
       clear HLK
       cases al
       · go_wp2_with fail
         refine (l13Last ao cap L who lk _ hL (hr.drewN _) hlb.1 hlb.2).mono ?_
         rintro e w2 ⟨rfl, n2, rfl⟩
         by_cases hq : lastTo L who lk L.length < 0
         · have HT : Hid (learnB L l who has (p : Int) false = true) := by show _ = _; rw [HL.out]; simp [hq]
           have hq' : ¬ 0 ≤ lastTo L who lk L.length := by omega
           go_wp2_with fail
           go_region
           all_goals
             rw [HOR.out]
             go_wp2
             go_ret
             exact HY.out _ _ HT.out rfl
         · have HT : Hid (learnB L l who has (p : Int) false = false) := by show _ = _; rw [HL.out]; simp [hq]
           have hq' : 0 ≤ lastTo L who lk L.length := by omega
           go_wp2
           go_ret
           exact learn_no HT.out _ rfl
       · by_cases hlk : lk = 2 ^ p
         · have hlk' : (lk != 2 ^ p) = false := by rw [hlk]; simp
           have HLKb : Hid (lk = 2 ^ p) := hlk
           clear hlk
           go_wp2_with (first | (go_at_call 49; refine (Base.l1Bit _ _ (by omega) (by omega)).mono ?_; rintro e w' ⟨rfl, rfl⟩; rw [Int.toNat_natCast]) | fail)
           refine (l13Last ao cap L who lk _ hL (hr.drewN _) hlb.1 hlb.2).mono ?_
           rintro e w2 ⟨rfl, n2, rfl⟩
           by_cases hq : lastTo L who lk L.length < 0
           · have HT : Hid (learnB L l who has (p : Int) true = true) := by show _ = _; rw [HL.out]; rw [hlk']; simp [hq]
             have hq' : ¬ 0 ≤ lastTo L who lk L.length := by omega
             go_wp2_with fail
             go_region
             all_goals
               rw [HOR.out]
               go_wp2
               go_ret
               exact HY.out _ _ HT.out rfl
           · have HT : Hid (learnB L l who has (p : Int) true = false) := by show _ = _; rw [HL.out]; simp [hq]
             have hq' : 0 ≤ lastTo L who lk L.length := by omega
             go_wp2
             go_ret
             exact learn_no HT.out _ rfl
         · have hlk' : (lk != 2 ^ p) = true := by simpa using hlk
           have HT : Hid (learnB L l who has (p : Int) true = false) := by show _ = _; rw [HL.out, hlk']; rfl
           clear hlk
           go_wp2_with (first | (go_at_call 49; refine (Base.l1Bit _ _ (by omega) (by omega)).mono ?_; rintro e w' ⟨rfl, rfl⟩; rw [Int.toNat_natCast]) | fail)
           go_ret
           exact learn_no HT.out _ rfl
     · have HT : Hid (learnB L l who has (p : Int) al = false) := by
         show _ = _
         unfold learnB
         rw [Int.toNat_natCast, hb]; simp
       have HBb : Hid (bit has p = true) := hb
       clear hb
       go_enter Tryz.func145, Tryz.ntmps145
       go_wp2_with (first | (go_at_call 48; refine (Base.l1Has _ _ _ h0 h1 (by omega) (by omega)).mono ?_; rintro e w' ⟨rfl, rfl⟩; rw [Int.toNat_natCast, HBb.out]) | fail)
       go_ret
       exact learn_no HT.out _ rfl
   · have HT : Hid (learnB L l who has k al = false) := by show _ = _; unfold learnB; rw [decide_eq_false hk1]; simp
     go_enter Tryz.func145, Tryz.ntmps145
     go_wp2
     go_ret
     exact learn_no HT.out _ rfl
end Rm
end Go.Proofs.YtflhaiakhfmmmaaGreat
