/-
  From a row's condition on the errors that are listed for tying to what the walks ask.
  Plain mathematics of tying, for the program's own way: what the hand has of lesser rounds is closed; the last round. No program in it.
  What the program's own functions on tying answer: the owner or a panic, the last round, the round that is open, the next round or a panic.
  A knot in a block of its own: kept, made, put.
  What the program's draft and ties answer: as the model's, or they give up.
  What the program's ties answers: as the model's, or it gives up.
  What the program's face answers to what gives up behind it: numbers.
  What the program's face over owners answers to what gives up behind it.
  What the program's Ties answers: as the model's, in new memory.
  From a row's condition on the listed errors to what the walks ask: the variable errNoHand holds an error of errors.New's make; and a row's wrap that hands on the condition and the world's shape.
-/
import Derived.Test.YtapfmadnkaimeaaDoorHandM
import Derived.Test.YtapfmadnkaimeaaDoorTiesS
import Derived.Test.YtapfmadnkaimeaaDoorHaC
import Derived.WalkLawsBesides
import Derived.Test.YtapfmadnkaimeaaDoorKnotM
import Derived.Test.YtapfmadnkaimeaaDoorZero
import Derived.Below
import Derived.Test.YtapfmadnkaimeaaDoorLaceB
import Derived.Test.YtapfmadnkaimeaaDoorTieB
import Derived.Test.YtapfmadnkaimeaaDoorSightX
import Derived.Deep.RegionHeld3
import Derived.Defers
import Derived.Recover
import Derived.Deep.RegionLaw
import Derived.Test.YtapfmadnkaimeaaDoorRows
import Derived.Test.YtapfmadnkaimeaaDoorHaT
import Derived.LaidMore
import Derived.HandedShaped
import Derived.Stop.LaidTwo
import Derived.ProofKit
import Derived.WalkSmall
namespace Go.Proofs.YtapfmadnkaimeaaDoor
open Go.RowKit
set_option maxRecDepth 100000
set_option linter.unusedVariables false
namespace Rm
open Kn (K okK)
open Bit (bit withB)
open Lc (at' RdK laceB WordsOk handsN roundS)
open Sg (bel belows closedTo orB)

theorem tie_thread {L : List K} (hl : laceB L = true) {i m : Nat} (hi : i < L.length) (hb : bit (at' L i).frm m = true) : (at' L m).round < (at' L i).round := by
  have hm := Sg.thread_lt hl hi hb
  have hc := Lc.lace_upTo hl i hi
  simp only [Lc.canB, Bool.and_eq_true] at hc
  have hle := (Lc.lesser_iff (L.take i) (at' L i).frm (at' L i).round (L.take i).length).1 hc.2.2.1 m (by simp; omega) hb
  rwa [Lc.at_take L i m hm] at hle
/-- what the hand has of lesser rounds is closed -/
theorem lesser_closed {L : List K} {h : Hd} (x : HandIs L h) (r : Int) : closedTo (belows L L.length) (draftS L h.has r) L.length = true := by
  have h60 := ((Lc.lace_iff L).1 x.lace).1
  have hb := Lc.among_bd (fun y => decide (y.round < r)) L h.has L.length h60
  have hbit : ∀ i, bit (draftS L h.has r) i = (decide (i < L.length) && (bit h.has i && decide ((at' L i).round < r))) := fun i => Lc.bit_among _ L h.has L.length h60 i
  have hcl := (Sg.closed_threads x.lace h.has x.h0 x.h1).1 ((Sg.closed_iff L h.has L.length h60 x.h0 x.h1).2 fun i _ hbi => x.chas i hbi)
  refine (Sg.closed_threads x.lace _ hb.1 hb.2).2 fun i hi hbi m hm => ?_
  have e1 := hbit i
  rw [show bit (draftS L h.has r) i = true from hbi] at e1
  have e2 := e1.symm
  rw [Bool.and_eq_true, Bool.and_eq_true, decide_eq_true_eq, decide_eq_true_eq] at e2
  have hmi := Sg.thread_lt x.lace hi hm
  have hro := tie_thread x.lace hi hm
  show bit (draftS L h.has r) m = true
  rw [hbit, decide_eq_true (show m < L.length by omega), hcl i hi e2.2.1 m hm, decide_eq_true (show (at' L m).round < r by have := e2.2.2; omega)]; rfl

/-- the round of its last one; less than every round where there is none -/
def lastRI (L : List K) (last : Int) : Int := if last < 0 then -1 else (at' L last.toNat).round
theorem next_yes {L : List K} {has last : Int} (h : lastRI L last < nextTo L has 19) : nextI L has last = nextTo L has 19 := by
  unfold nextI
  rw [if_neg]
  rintro ⟨h0, h1⟩
  unfold lastRI at h
  rw [if_neg (by omega)] at h
  omega
theorem next_no {L : List K} {has last : Int} (h : ¬ lastRI L last < nextTo L has 19) : nextI L has last = -1 := by
  have hb := nextTo_bd L has 19
  unfold lastRI at h
  unfold nextI
  by_cases hl : last < 0
  · rw [if_pos hl] at h; omega
  · rw [if_neg hl] at h
    rw [if_pos ⟨by omega, by omega⟩]

end Rm
end Go.Proofs.YtapfmadnkaimeaaDoor

namespace Go.Proofs.YtapfmadnkaimeaaDoor
open Go.RowKit
set_option maxRecDepth 100000
set_option linter.unusedVariables false
namespace Rm
open Kn (K okK)
open Bit (bit withB)
open Lc (at' RdK laceB WordsOk handsN roundS)
open Sg (bel belows closedTo orB)

/-- it gives up, by an error of errors.New's make -/
def Gives (e : Ending) : Prop := ∃ v, e = .panicked [{ v := .iface 159 v, recovered := false }]
/-- a variable of the program holds such an error -/
def HoldsE (W : World) (g : Nat) : Prop := ∃ v, W.cell? ⟨g, 0, none⟩ = some (.iface 159 v)
theorem HoldsE.below {W V : World} {g : Nat} (h : HoldsE W g) (hb : Below W.heap.size W V) : HoldsE V g := h.elim fun v q => ⟨v, (hb.cell (p := ⟨g, 0, none⟩) (cell_lt q)).trans q⟩

/-- how the asking for a right owner ends -/
def RightPost (L : List K) (h : Hd) (w : World) (e : Ending) (w' : World) : Prop :=
  (handOkB L h = true ∧ ∃ g, e = .returned (.agg #[.slice (some ⟨g, 0, none⟩) L.length L.length, .int .i64 h.who, .int .i64 h.has, .int .i64 h.kept, .int .i64 h.last]) ∧ g < w'.heap.size ∧ RdK w' (some ⟨g, 0, none⟩) L ∧ Below w.heap.size w w') ∨
  (handOkB L h = false ∧ Gives e ∧ Below w.heap.size w w')

set_option maxHeartbeats 3200000 in
theorem rightOwner (ao : Option Addr) (cap : Nat) (L : List K) (h : Hd) (a : Addr) (w : World) (hla0 : ∀ V : World, Below w.heap.size w V → Calls Tryd.prog 87 #[.slice ao L.length cap] V (Lc.LacePost L V)) (hk : H64 h) (hn : NoH w a) :
    Calls Tryd.prog 37 #[.slice ao L.length cap, .agg #[.int .i64 h.who, .int .i64 h.has, .int .i64 h.kept, .int .i64 h.last]] w (RightPost L h w) := by
  have P0 : Hid (Below w.heap.size w ((w.alloc (.cells #[.int .i64 h.who, .int .i64 h.has, .int .i64 h.kept, .int .i64 h.last] 26)).alloc (.cells #[.slice none 0 0, .int .i64 0, .int .i64 0, .int .i64 0, .int .i64 0] 62)) ∧ HAt ((w.alloc (.cells #[.int .i64 h.who, .int .i64 h.has, .int .i64 h.kept, .int .i64 h.last] 26)).alloc (.cells #[.slice none 0 0, .int .i64 0, .int .i64 0, .int .i64 0, .int .i64 0] 62)) w.heap.size 0 h ∧ Ow ((w.alloc (.cells #[.int .i64 h.who, .int .i64 h.has, .int .i64 h.kept, .int .i64 h.last] 26)).alloc (.cells #[.slice none 0 0, .int .i64 0, .int .i64 0, .int .i64 0, .int .i64 0] 62)) (w.heap.size + 1) (.slice none 0 0) (.int .i64 0) (.int .i64 0) (.int .i64 0) (.int .i64 0)) :=
    ⟨((Below.refl _ w).alloc (Nat.le_refl _) _).alloc (by simp) _, hat_below (hat_new w h _) ((Below.refl _ _).alloc (Nat.le_refl _) _), by
      have q := ow_new (w.alloc (.cells #[.int .i64 h.who, .int .i64 h.has, .int .i64 h.kept, .int .i64 h.last] 26)) (.slice none 0 0) (.int .i64 0) (.int .i64 0) (.int .i64 0) (.int .i64 0) 62
      rw [World.size_alloc] at q
      exact q⟩
  have HN : Hid (NoH w a) := hn
  clear hn
  go_enter Tryd.func37, Tryd.ntmps37
  go_upto_region 1 with fail
  generalize (w.alloc (.cells #[.int .i64 h.who, .int .i64 h.has, .int .i64 h.kept, .int .i64 h.last] 26)).alloc (.cells #[.slice none 0 0, .int .i64 0, .int .i64 0, .int .i64 0, .int .i64 0] 62) = V at P0 ⊢
  have HB0 : Hid (Below w.heap.size w V) := P0.out.1
  have HO0 : Hid (Ow V (w.heap.size + 1) (.slice none 0 0) (.int .i64 0) (.int .i64 0) (.int .i64 0) (.int .i64 0)) := P0.out.2.2
  obtain ⟨a0, a1, a2, a3⟩ := cellsH P0.out.2.1
  have ho := ownerOfA ao cap L h a V (fun X hX => hla0 X (HB0.out.trans (hX.mono HB0.out.size))) hk (HN.out.below HB0.out)
  clear hla0 P0 HN
  go_wp2_with fail
  refine ho.mono ?_
  clear ho a0 a1 a2 a3
  intro e w1 hp
  rcases hp with ⟨hl, g, rfl, hg1, hr1, hb1⟩ | ⟨hl, rfl, hb1⟩
  · have HL : Hid (handOkB L h = true) := hl
    have HB1 : Hid (Below w.heap.size w w1) := HB0.out.trans (hb1.mono HB0.out.size)
    have HO1 : Hid (Ow w1 (w.heap.size + 1) (.slice none 0 0) (.int .i64 0) (.int .i64 0) (.int .i64 0) (.int .i64 0)) := HO0.out.below hb1
    have HQ : Hid (Below w.heap.size w (w1.alloc (.cells #[.slice (some ⟨g, 0, none⟩) L.length L.length, .int .i64 h.who, .int .i64 h.has, .int .i64 h.kept, .int .i64 h.last] 62)) ∧ Ow (w1.alloc (.cells #[.slice (some ⟨g, 0, none⟩) L.length L.length, .int .i64 h.who, .int .i64 h.has, .int .i64 h.kept, .int .i64 h.last] 62)) w1.heap.size (.slice (some ⟨g, 0, none⟩) L.length L.length) (.int .i64 h.who) (.int .i64 h.has) (.int .i64 h.kept) (.int .i64 h.last) ∧ Ow (w1.alloc (.cells #[.slice (some ⟨g, 0, none⟩) L.length L.length, .int .i64 h.who, .int .i64 h.has, .int .i64 h.kept, .int .i64 h.last] 62)) (w.heap.size + 1) (.slice none 0 0) (.int .i64 0) (.int .i64 0) (.int .i64 0) (.int .i64 0) ∧ RdK (w1.alloc (.cells #[.slice (some ⟨g, 0, none⟩) L.length L.length, .int .i64 h.who, .int .i64 h.has, .int .i64 h.kept, .int .i64 h.last] 62)) (some ⟨g, 0, none⟩) L ∧ g < (w1.alloc (.cells #[.slice (some ⟨g, 0, none⟩) L.length L.length, .int .i64 h.who, .int .i64 h.has, .int .i64 h.kept, .int .i64 h.last] 62)).heap.size) :=
      ⟨HB1.out.alloc HB1.out.size _, ow_new w1 _ _ _ _ _ _, HO1.out.below ((Below.refl _ _).alloc (Nat.le_refl _) _), hr1.below ((Below.refl _ _).alloc (Nat.le_refl _) _), by simp; omega⟩
    have hzb : w.heap.size + 1 < w1.heap.size := HO1.out.lt
    clear hl hr1 hg1 hb1 HB0 HO0 HB1 HO1
    go_upto_region 2 with fail
    generalize w1.alloc (.cells #[.slice (some ⟨g, 0, none⟩) L.length L.length, .int .i64 h.who, .int .i64 h.has, .int .i64 h.kept, .int .i64 h.last] 62) = V2 at HQ ⊢
    generalize w1.heap.size = xb at HQ hzb ⊢
    obtain ⟨_, x0, x1, x2, x3, x4, _, _, _, _, _⟩ := HQ.out.2.1
    obtain ⟨_, z0, z1, z2, z3, z4, f0, f1, f2, f3, f4⟩ := HQ.out.2.2.1
    obtain ⟨WW, hW, hOW, hBW, hsW, hcW⟩ := HQ.out.2.2.1.put (.slice (some ⟨g, 0, none⟩) L.length L.length) (.int .i64 h.who) (.int .i64 h.has) (.int .i64 h.kept) (.int .i64 h.last)
    have HW : Hid (WW = _) := hW
    have HE : Hid (g < WW.heap.size ∧ RdK WW (some ⟨g, 0, none⟩) L ∧ Below w.heap.size w WW) := ⟨by rw [hsW]; exact HQ.out.2.2.2.2, rdk_other HQ.out.2.2.2.1 hcW hsW z0, hBW _ _ HQ.out.1 (by omega)⟩
    obtain ⟨_, y0, y1, y2, y3, y4, _, _, _, _, _⟩ := hOW
    clear hW hBW hsW hcW HQ
    go_wp2
    rw [← HW.out]
    refine bodyPost_ret (v := .agg #[.slice (some ⟨g, 0, none⟩) L.length L.length, .int .i64 h.who, .int .i64 h.has, .int .i64 h.kept, .int .i64 h.last]) (by simp [results, Tryd.f37, go_sem, y0, y1, y2, y3, y4]) rfl ?_
    exact .inl ⟨HL.out, g, rfl, HE.out⟩
  · have HL : Hid (handOkB L h = false) := hl
    have HB1 : Hid (Below w.heap.size w (w1.alloc (.cells #[.slice none 0 0, .int .i64 0, .int .i64 0, .int .i64 0, .int .i64 0] 62))) := (HB0.out.trans (hb1.mono HB0.out.size)).alloc (HB0.out.trans (hb1.mono HB0.out.size)).size _
    clear hl hb1 HB0 HO0
    go_wp2
    exact ⟨rfl, .inr ⟨HL.out, ⟨_, rfl⟩, HB1.out⟩⟩

set_option maxHeartbeats 1600000 in
theorem lastRound (g cap : Nat) (L : List K) (h : Hd) (w : World) (hr : RdK w (some ⟨g, 0, none⟩) L) (hl : h.last < (L.length : Int)) (hc : L.length ≤ cap) :
    Calls Tryd.prog 71 #[.agg #[.slice (some ⟨g, 0, none⟩) L.length cap, .int .i64 h.who, .int .i64 h.has, .int .i64 h.kept, .int .i64 h.last]] w fun e w' => e = .returned (.int .i64 (lastRI L h.last)) ∧ Below w.heap.size w w' := by
  have HB : Hid (Below w.heap.size w (w.alloc (.cells #[.slice (some ⟨g, 0, none⟩) L.length cap, .int .i64 h.who, .int .i64 h.has, .int .i64 h.kept, .int .i64 h.last] 62)) ∧ Ow (w.alloc (.cells #[.slice (some ⟨g, 0, none⟩) L.length cap, .int .i64 h.who, .int .i64 h.has, .int .i64 h.kept, .int .i64 h.last] 62)) w.heap.size (.slice (some ⟨g, 0, none⟩) L.length cap) (.int .i64 h.who) (.int .i64 h.has) (.int .i64 h.kept) (.int .i64 h.last)) := ⟨(Below.refl _ w).alloc (Nat.le_refl _) _, ow_new w _ _ _ _ _ _⟩
  go_enter Tryd.func71, Tryd.ntmps71
  go_upto_region 1 with fail
  generalize w.alloc (.cells #[.slice (some ⟨g, 0, none⟩) L.length cap, .int .i64 h.who, .int .i64 h.has, .int .i64 h.kept, .int .i64 h.last] 62) = V at HB ⊢
  obtain ⟨_, x0, _, _, _, x4, _, _, _, _, _⟩ := HB.out.2
  by_cases hn : h.last < 0
  · have HE : Hid (lastRI L h.last = -1) := if_pos hn
    go_wp2
    go_ret
    exact ⟨by rw [HE.out]; rfl, HB.out.1⟩
  · obtain ⟨p, hpe⟩ := Int.eq_ofNat_of_zero_le (show 0 ≤ h.last by omega)
    have hp : p < L.length := by omega
    have HE : Hid (lastRI L h.last = (at' L p).round) := by show _ = _; unfold lastRI; rw [if_neg hn, hpe, Int.toNat_natCast]
    obtain ⟨hg, hcl⟩ := hr.on p hp
    obtain ⟨c0, c1, c2, c3⟩ := hcl.below HB.out.1 hg
    rw [Nat.zero_add] at c0 c1 c2 c3
    generalize (at' L p).round = rr at HE c1
    rw [hpe] at x4
    clear c0 c2 c3 hr hpe hn hl
    go_wp2
    go_ret
    exact ⟨by rw [HE.out]; rfl, HB.out.1⟩

set_option maxHeartbeats 3200000 in
theorem openRound (g cap : Nat) (L : List K) (h : Hd) (w : World) (hlc : laceB L = true) (hh0 : 0 ≤ h.has) (hh1 : h.has < 1152921504606846976) (hd : h.has / 2 ^ L.length = 0) (hho : Lc.HandsOk L) (hr : RdK w (some ⟨g, 0, none⟩) L) :
    Calls Tryd.prog 70 #[.agg #[.slice (some ⟨g, 0, none⟩) L.length cap, .int .i64 h.who, .int .i64 h.has, .int .i64 h.kept, .int .i64 h.last]] w fun e w' => e = .returned (.int .i64 (nextTo L h.has 19)) ∧ Below w.heap.size w w' := by
  have h60 := ((Lc.lace_iff L).1 hlc).1
  have hok : Base.okB h.has = true := (Base.okB_iff _).2 ⟨hh0, hh1⟩
  have HR : Hid (RdK w (some ⟨g, 0, none⟩) L) := hr
  have HB : Hid (Below w.heap.size w (w.alloc (.cells #[.slice (some ⟨g, 0, none⟩) L.length cap, .int .i64 h.who, .int .i64 h.has, .int .i64 h.kept, .int .i64 h.last] 62)) ∧ Ow (w.alloc (.cells #[.slice (some ⟨g, 0, none⟩) L.length cap, .int .i64 h.who, .int .i64 h.has, .int .i64 h.kept, .int .i64 h.last] 62)) w.heap.size (.slice (some ⟨g, 0, none⟩) L.length cap) (.int .i64 h.who) (.int .i64 h.has) (.int .i64 h.kept) (.int .i64 h.last)) := ⟨(Below.refl _ w).alloc (Nat.le_refl _) _, ow_new w _ _ _ _ _ _⟩
  clear hr
  go_enter Tryd.func70, Tryd.ntmps70
  go_upto_region 1 with fail
  generalize w.alloc (.cells #[.slice (some ⟨g, 0, none⟩) L.length cap, .int .i64 h.who, .int .i64 h.has, .int .i64 h.kept, .int .i64 h.last] 62) = V at HB ⊢
  have HB0 : Hid (Below w.heap.size w V) := HB.out.1
  have HO0 : Hid (Ow V w.heap.size (.slice (some ⟨g, 0, none⟩) L.length cap) (.int .i64 h.who) (.int .i64 h.has) (.int .i64 h.kept) (.int .i64 h.last)) := HB.out.2
  clear HB
  go_wp2
  go_loopw [3] (fun i wr => ∃ r : Nat, r ≤ 19 ∧ i = .int .i64 r ∧ Hid (nextTo L h.has 19 = nextTo L h.has r) ∧ Hid (Below V.heap.size V wr)) (fun i _ => (intOf i).toNat)
  case atStart => exact ⟨19, by omega, rfl, rfl, Below.refl _ _⟩
  case round =>
    obtain ⟨r, hr19, rfl, HN, HW⟩ := hrel
    cases r with
    | zero =>
      go_wp2
      go_ret
      exact ⟨by rw [HN.out]; rfl, HB0.out.trans (HW.out.mono HB0.out.size)⟩
    | succ r =>
      have HV : Hid (Below w.heap.size w wr) := HB0.out.trans (HW.out.mono HB0.out.size)
      have HO1 : Hid (Ow wr w.heap.size (.slice (some ⟨g, 0, none⟩) L.length cap) (.int .i64 h.who) (.int .i64 h.has) (.int .i64 h.kept) (.int .i64 h.last)) := HO0.out.below HW.out
      have HN1 : Hid (nextTo L h.has (r + 1) = if 3 ≤ handsN L (roundS L h.has (r : Int)) then ((r + 1 : Nat) : Int) else nextTo L h.has r) := rfl
      have hwp : IntKind.i64.wrap (((r + 1 : Nat) : Int) - 1) = (r : Int) := by rw [IntKind.wrap_i64]; omega
      have hbd := Lc.round_bd L h.has (r : Int) h60
      have HAR : Hid (∀ W : World, Below wr.heap.size wr W → Calls Tryd.prog 102 #[.slice (some ⟨g, 0, none⟩) L.length cap, .int .i64 h.has, .int .i64 (r : Int)] W fun e w' => e = .returned (.int .i64 (roundS L h.has (r : Int))) ∧ Below wr.heap.size wr w') := fun W hW => (Lc.atRound g 0 cap L h.has (r : Int) W h60 hok ((HR.out.below HV.out).below hW)).mono fun _ _ q => ⟨q.1, hW.trans (q.2.mono hW.size)⟩
      have HHA : Hid (∀ W : World, Below wr.heap.size wr W → Calls Tryd.prog 101 #[.slice (some ⟨g, 0, none⟩) L.length cap, .int .i64 (roundS L h.has (r : Int))] W fun e w' => e = .returned (.int .i64 (handsN L (roundS L h.has (r : Int)))) ∧ Below wr.heap.size wr w') := fun W hW => (Lc.hands g 0 cap L _ W h60 hbd.1 hbd.2.1 hbd.2.2 hho ((HR.out.below HV.out).below hW)).mono fun _ _ q => ⟨q.1, hW.trans (q.2.mono hW.size)⟩
      generalize roundS L h.has (r : Int) = rs at HAR HHA HN1
      generalize handsN L rs = hn at HHA HN1
      obtain ⟨X, _, F, HF, HG⟩ := Fam.fam wr
      have HC : Hid (∀ z, Ow (F z) w.heap.size (.slice (some ⟨g, 0, none⟩) L.length cap) (.int .i64 h.who) (.int .i64 h.has) (.int .i64 h.kept) (.int .i64 h.last)) := fun z => HO1.out.below (HF.out z)
      have d0 : ∀ z, (F z).cell? ⟨w.heap.size, 0, none⟩ = some (.slice (some ⟨g, 0, none⟩) L.length cap) := fun z => (HC.out z).c0
      have d2 : ∀ z, (F z).cell? ⟨w.heap.size, 2, none⟩ = some (.int .i64 h.has) := fun z => (HC.out z).c2
      clear HC hbd HO1
      go_upto_region 4 with fail
      refine Fam.region (F := F) (by kernel_rfl) (by kernel_rfl) (HG.out _ (Below.refl _ wr).drew) ?_
      repeat (go_big_quiet_step (first
        | (go_at_call 102; exact (HAR.out _ (HF.out _)).mono fun _ _ q => ⟨q.1, HG.out _ q.2⟩)
        | (go_at_call 101; exact (HHA.out _ (HF.out _)).mono fun _ _ q => ⟨q.1, HG.out _ q.2⟩)))
      refine wpQuiet_nil ?_
      intro w2 hw2
      obtain ⟨z, rfl⟩ := hw2
      have HB2 : Hid (Below wr.heap.size wr (F z)) := HF.out z
      clear d0 d2 HAR HHA
      generalize F z = W2 at HB2 ⊢
      clear HF HG
      by_cases hq : 3 ≤ hn
      · go_wp2
        go_ret
        exact ⟨by rw [HN.out, HN1.out, if_pos hq]; rfl, HV.out.trans (HB2.out.mono HV.out.size)⟩
      · go_wp2
        go_roundw
        case rel => exact ⟨r, by omega, rfl, by show _ = _; rw [HN.out, HN1.out, if_neg hq], HW.out.trans (HB2.out.mono HW.out.size)⟩
        case measure => simp [intOf]

/-- how the asking for the next round ends -/
def NextPost (L : List K) (h : Hd) (w : World) (e : Ending) (w' : World) : Prop :=
  ((0 ≤ nextI L h.has h.last ∧ e = .returned (.int .i64 (nextI L h.has h.last))) ∨ (nextI L h.has h.last = -1 ∧ Gives e)) ∧ Below w.heap.size w w'

set_option maxHeartbeats 3200000 in
theorem nextRound (g cap : Nat) (L : List K) (h : Hd) (w : World) (hi : HandIs L h) (hc : L.length ≤ cap) (hr : RdK w (some ⟨g, 0, none⟩) L) (he : HoldsE w 5) :
    Calls Tryd.prog 38 #[.agg #[.slice (some ⟨g, 0, none⟩) L.length cap, .int .i64 h.who, .int .i64 h.has, .int .i64 h.kept, .int .i64 h.last]] w (NextPost L h w) := by
  have h60 := ((Lc.lace_iff L).1 hi.lace).1
  have hla : h.last < (L.length : Int) := by rw [hi.last]; have := lastTo_bd L h.who h.kept L.length; omega
  have hd : h.has / 2 ^ L.length = 0 := Lc.div_of_bits _ _ hi.h0 fun i hl => by
    cases hb : bit h.has i
    · rfl
    · exact absurd (hi.inn i hb) (by omega)
  have hho : Lc.HandsOk L := Lc.lace_hands hi.lace
  have HR : Hid (RdK w (some ⟨g, 0, none⟩) L) := hr
  have HEO : Hid (HoldsE w 5) := he
  have HB : Hid (Below w.heap.size w (w.alloc (.cells #[.slice (some ⟨g, 0, none⟩) L.length cap, .int .i64 h.who, .int .i64 h.has, .int .i64 h.kept, .int .i64 h.last] 62)) ∧ Ow (w.alloc (.cells #[.slice (some ⟨g, 0, none⟩) L.length cap, .int .i64 h.who, .int .i64 h.has, .int .i64 h.kept, .int .i64 h.last] 62)) w.heap.size (.slice (some ⟨g, 0, none⟩) L.length cap) (.int .i64 h.who) (.int .i64 h.has) (.int .i64 h.kept) (.int .i64 h.last)) := ⟨(Below.refl _ w).alloc (Nat.le_refl _) _, ow_new w _ _ _ _ _ _⟩
  clear hr he
  go_enter Tryd.func38, Tryd.ntmps38
  go_upto_region 1 with fail
  generalize w.alloc (.cells #[.slice (some ⟨g, 0, none⟩) L.length cap, .int .i64 h.who, .int .i64 h.has, .int .i64 h.kept, .int .i64 h.last] 62) = V at HB ⊢
  have HB0 : Hid (Below w.heap.size w V) := HB.out.1
  have HO0 : Hid (Ow V w.heap.size (.slice (some ⟨g, 0, none⟩) L.length cap) (.int .i64 h.who) (.int .i64 h.has) (.int .i64 h.kept) (.int .i64 h.last)) := HB.out.2
  obtain ⟨_, x0, x1, x2, x3, x4, _, _, _, _, _⟩ := HB.out.2
  clear HB
  have hop := openRound g cap L h V hi.lace hi.h0 hi.h1 hd hho (HR.out.below HB0.out)
  go_wp2_with fail
  refine hop.mono ?_
  rintro e w1 ⟨rfl, hb1⟩
  have HB1 : Hid (Below w.heap.size w w1) := HB0.out.trans (hb1.mono HB0.out.size)
  have HO1 : Hid (Ow w1 w.heap.size (.slice (some ⟨g, 0, none⟩) L.length cap) (.int .i64 h.who) (.int .i64 h.has) (.int .i64 h.kept) (.int .i64 h.last)) := HO0.out.below hb1
  clear x0 x1 x2 x3 x4 hop HB0 HO0 hb1
  obtain ⟨_, x0, x1, x2, x3, x4, _, _, _, _, _⟩ := HO1.out
  have hlr := lastRound g cap L h w1 (HR.out.below HB1.out) hla hc
  have HY : Hid (lastRI L h.last < nextTo L h.has 19 → nextI L h.has h.last = nextTo L h.has 19) := next_yes
  have HNO : Hid (¬ lastRI L h.last < nextTo L h.has 19 → nextI L h.has h.last = -1) := next_no
  have hnb := (nextTo_bd L h.has 19).1
  generalize nextTo L h.has 19 = nx at HY HNO hnb ⊢
  generalize lastRI L h.last = lr at HY HNO hlr
  go_wp2_with fail
  refine hlr.mono ?_
  rintro e w2 ⟨rfl, hb2⟩
  have HB2 : Hid (Below w.heap.size w w2) := HB1.out.trans (hb2.mono HB1.out.size)
  clear hlr x0 x1 x2 x3 x4 HO1 HB1 hb2
  obtain ⟨v, hv⟩ := HEO.out.below HB2.out
  by_cases hq : lr < nx
  · go_wp2
    go_ret
    exact ⟨.inl ⟨by rw [HY.out hq]; exact hnb, by rw [HY.out hq]; rfl⟩, HB2.out⟩
  · go_wp2
    exact ⟨rfl, .inr ⟨HNO.out hq, ⟨_, rfl⟩⟩, HB2.out⟩

end Rm
end Go.Proofs.YtapfmadnkaimeaaDoor

namespace Go.Proofs.YtapfmadnkaimeaaDoor
open Go.RowKit
set_option maxRecDepth 100000
set_option linter.unusedVariables false
namespace Rm
open Kn (K)

/-- a knot in a block of its own -/
structure KnAt (w : World) (b : Nat) (k : K) : Prop where
  lt : b < w.heap.size
  c0 : w.cell? ⟨b, 0, none⟩ = some (.int .i64 k.hand)
  c1 : w.cell? ⟨b, 1, none⟩ = some (.int .i64 k.round)
  c2 : w.cell? ⟨b, 2, none⟩ = some (.int .i64 k.frm)
  c3 : w.cell? ⟨b, 3, none⟩ = some (.string k.word)
theorem knat_below {w w' : World} {b : Nat} {k : K} (x : KnAt w b k) (hb : Below w.heap.size w w') : KnAt w' b k :=
  ⟨Nat.lt_of_lt_of_le x.lt hb.size, (hb.cell (p := ⟨b, 0, none⟩) x.lt).trans x.c0, (hb.cell (p := ⟨b, 1, none⟩) x.lt).trans x.c1, (hb.cell (p := ⟨b, 2, none⟩) x.lt).trans x.c2, (hb.cell (p := ⟨b, 3, none⟩) x.lt).trans x.c3⟩
theorem knat_new (w : World) (k : K) (t : TypeId) : KnAt (w.alloc (.cells #[.int .i64 k.hand, .int .i64 k.round, .int .i64 k.frm, .string k.word] t)) w.heap.size k := ⟨by simp, by simp, by simp, by simp, by simp⟩
theorem knat_cells {w : World} {b : Nat} {k : K} (x : KnAt w b k) : w.cell? ⟨b, 0, none⟩ = some (.int .i64 k.hand) ∧ w.cell? ⟨b, 1, none⟩ = some (.int .i64 k.round) ∧ w.cell? ⟨b, 2, none⟩ = some (.int .i64 k.frm) ∧ w.cell? ⟨b, 3, none⟩ = some (.string k.word) := ⟨x.c0, x.c1, x.c2, x.c3⟩
theorem zeroQ_new (w : World) (t : TypeId) : Kn.Zero w.heap.size (w.alloc (.cells #[.int .i64 0, .int .i64 0, .int .i64 0, .string ⟨#[]⟩] t)) := ⟨by simp, by simp, by simp, by simp, by simp, by simp, by simp, by simp, by simp⟩
theorem keepQ {X Y : World} {t : TypeId} (b : Below (X.alloc (.cells #[.int .i64 0, .int .i64 0, .int .i64 0, .string ⟨#[]⟩] t)).heap.size (X.alloc (.cells #[.int .i64 0, .int .i64 0, .int .i64 0, .string ⟨#[]⟩] t)) Y) : Kn.Zero X.heap.size Y := (zeroQ_new X t).below b
theorem keepQ' {X Y : World} {t : TypeId} (b : Below (X.alloc (.cells #[.int .i64 0, .int .i64 0, .int .i64 0, .string ⟨#[]⟩] t)).drew.heap.size (X.alloc (.cells #[.int .i64 0, .int .i64 0, .int .i64 0, .string ⟨#[]⟩] t)).drew Y) : Kn.Zero X.heap.size Y := (zeroQ_new X t).below ⟨b.os, b.tape, b.output, b.size, b.block⟩
theorem knat_put4 {W : World} {b : Nat} (x : Kn.Zero b W) (y : K) : KnAt ((((W.setCell ⟨b, 0, none⟩ (.int .i64 y.hand)).setCell ⟨b, 1, none⟩ (.int .i64 y.round)).setCell ⟨b, 2, none⟩ (.int .i64 y.frm)).setCell ⟨b, 3, none⟩ (.string y.word)) b y := by
  have q := x.put (.int .i64 y.hand) (.int .i64 y.round) (.int .i64 y.frm) (.string y.word)
  exact ⟨by simpa using x.lt, q.1, q.2.1, q.2.2.1, q.2.2.2⟩
theorem zeroQc {w : World} {b : Nat} (z : Kn.Zero b w) : w.cell? ⟨b, 0, none⟩ = some (.int .i64 0) ∧ w.cell? ⟨b, 1, none⟩ = some (.int .i64 0) ∧ w.cell? ⟨b, 2, none⟩ = some (.int .i64 0) ∧ w.cell? ⟨b, 3, none⟩ = some (.string ⟨#[]⟩) := ⟨z.r0, z.r1, z.r2, z.r3⟩
theorem zeroQf {w : World} {b : Nat} (z : Kn.Zero b w) : w.frozen? ⟨b, 0, none⟩ = false ∧ w.frozen? ⟨b, 1, none⟩ = false ∧ w.frozen? ⟨b, 2, none⟩ = false ∧ w.frozen? ⟨b, 3, none⟩ = false := ⟨z.f0, z.f1, z.f2, z.f3⟩

end Rm
end Go.Proofs.YtapfmadnkaimeaaDoor

namespace Go.Proofs.YtapfmadnkaimeaaDoor
open Go.RowKit
set_option maxRecDepth 100000
set_option linter.unusedVariables false
namespace Lc
open Kn (K okK)
open Bit (bit withB)

set_option maxHeartbeats 1600000 in
theorem amongLesser (g off cap : Nat) (L : List K) (s : Int) (kb : Nat) (r : Int) (w : World) (hL : L.length ≤ 60) (hs : Base.okB s = true) (hr : RdK w (some ⟨g, off, none⟩) L) (hkb : kb < w.heap.size) (hk : w.cell? ⟨kb, 0, none⟩ = some (.int .i64 r)) :
    Calls Tryd.prog 75 #[.slice (some ⟨g, off, none⟩) L.length cap, .int .i64 s, .func (.func 76) #[] #[.pointer (some ⟨kb, 0, none⟩)]] w fun e w' =>
      e = .returned (.int .i64 (amongI (fun y => decide (y.round < r)) L s L.length)) ∧ Below w.heap.size w w' := by
  go_enter Tryd.func75, Tryd.ntmps75
  go_wp2
  go_loopw [7, 12] (fun o i wr => ∃ j : Nat, j ≤ L.length ∧ i = .int .i64 j ∧ o = .int .i64 (amongI (fun y => decide (y.round < r)) L s j) ∧ Hid (Below w.heap.size w wr)) (fun _ i _ => L.length - (intOf i).toNat)
  case atStart => exact ⟨0, by omega, rfl, rfl, Below.refl _ _⟩
  case round =>
    obtain ⟨j, hj, rfl, rfl, HB⟩ := hrel
    by_cases hlt : j < L.length
    · obtain ⟨hg, hc⟩ := hr.on j hlt
      obtain ⟨c0, c1, c2, c3⟩ := hc.below HB.out hg
      have HO : Hid (Base.okB s = true) := hs
      have hin : Base.inB (j : Int) = true := (Base.inB_iff _).2 ⟨by omega, by omega⟩
      have HA : Hid (amongI (fun y => decide (y.round < r)) L s (j + 1) = if bit s j && (fun y => decide (y.round < r)) (at' L j) then withB (amongI (fun y => decide (y.round < r)) L s j) j else amongI (fun y => decide (y.round < r)) L s j) := rfl
      have hbd := among_bd (fun y => decide (y.round < r)) L s j (by omega)
      have HW : Hid (Base.withI (amongI (fun y => decide (y.round < r)) L s j) (j : Int) = withB (amongI (fun y => decide (y.round < r)) L s j) j) := by
        show _ = _
        unfold Base.withI
        rw [(Base.okB_iff _).2 hbd, hin]; simp
      have HN : Hid (Below w.heap.size w (wr.alloc (.cells #[.int .i64 (at' L j).hand, .int .i64 (at' L j).round, .int .i64 (at' L j).frm, .string (at' L j).word] 69))) := HB.out.alloc HB.out.size _
      clear hbd
      generalize amongI (fun y => decide (y.round < r)) L s j = x at HA HW ⊢
      cases hb : bit s j
      · have HH : Hid ((Base.okB s && (Base.inB (j : Int) && bit s j)) = false) := by show _ = _; simp [hb]
        have HD : Hid (amongI (fun y => decide (y.round < r)) L s (j + 1) = x) := by show _ = _; rw [HA.out, hb]; simp
        clear hb HA HW hin
        go_wp2_with (go_at_call 62; refine (Base.has _ _ _).mono ?_; rintro e w' ⟨rfl, rfl⟩; rw [Int.toNat_natCast, HH.out])
        go_roundw
        case rel => exact ⟨j + 1, by omega, by go_num, by rw [HD.out], HN⟩
        case measure => simp [intOf]; omega
      · have HH : Hid ((Base.okB s && (Base.inB (j : Int) && bit s j)) = true) := by show _ = _; simp [hb, hin, HO.out]
        have d1 := (HB.out.cell (p := ⟨kb, 0, none⟩) hkb).trans hk
        have hkb2 : kb < wr.heap.size := Nat.lt_of_lt_of_le hkb HB.out.size
        have HM : Hid (∀ o : Obj, Below w.heap.size w ((wr.alloc (.cells #[.int .i64 (at' L j).hand, .int .i64 (at' L j).round, .int .i64 (at' L j).frm, .string (at' L j).word] 69)).alloc o)) := fun o => HN.out.alloc HN.out.size o
        by_cases hq : (at' L j).round < r
        · have HD : Hid (amongI (fun y => decide (y.round < r)) L s (j + 1) = withB x j) := by show _ = _; rw [HA.out, hb]; simp [hq]
          clear hb HA hin HN
          go_wp2_with (first | (go_at_call 62; refine (Base.has _ _ _).mono ?_; rintro e w' ⟨rfl, rfl⟩; rw [Int.toNat_natCast, HH.out]) | (go_at_call 63; refine (Base.withM _ _ _).mono ?_; rintro e w' ⟨rfl, rfl⟩; rw [HW.out]) | go_in)
          go_roundw
          case rel => exact ⟨j + 1, by omega, by go_num, by rw [HD.out], HM.out _⟩
          case measure => simp [intOf]; omega
        · have HD : Hid (amongI (fun y => decide (y.round < r)) L s (j + 1) = x) := by show _ = _; rw [HA.out, hb]; simp [hq]
          clear hb HA hin HN
          go_wp2_with (first | (go_at_call 62; refine (Base.has _ _ _).mono ?_; rintro e w' ⟨rfl, rfl⟩; rw [Int.toNat_natCast, HH.out]) | go_in)
          go_roundw
          case rel => exact ⟨j + 1, by omega, by go_num, by rw [HD.out], HM.out _⟩
          case measure => simp [intOf]; omega
    · obtain rfl : j = L.length := by omega
      go_wp2
      go_ret
      exact ⟨rfl, HB.out⟩

end Lc
namespace Rm
open Kn (K okK)
open Bit (bit withB)
open Lc (at' RdK laceB WordsOk handsN roundS)
open Sg (bel belows closedTo orB)

theorem below_set4 {n b : Nat} {w W : World} (h : Below n w W) (hb : n ≤ b) (v0 v1 v2 v3 : Value) : Below n w ((((W.setCell ⟨b, 0, none⟩ v0).setCell ⟨b, 1, none⟩ v1).setCell ⟨b, 2, none⟩ v2).setCell ⟨b, 3, none⟩ v3) :=
  (((h.setCell (p := ⟨b, 0, none⟩) hb _).setCell (p := ⟨b, 1, none⟩) hb _).setCell (p := ⟨b, 2, none⟩) hb _).setCell (p := ⟨b, 3, none⟩) hb _

/-- how the drafting ends -/
def DraftsPost (L : List K) (h : Hd) (word : ByteArray) (w : World) (e : Ending) (w' : World) : Prop :=
  ((draftB L (belows L L.length) h.who h.has h.last word = true ∧ ∃ k, draftK L (belows L L.length) h.who h.has h.last word = k ∧ e = .returned (.agg #[.int .i64 k.hand, .int .i64 k.round, .int .i64 k.frm, .string k.word])) ∨ (draftB L (belows L L.length) h.who h.has h.last word = false ∧ Gives e)) ∧ Below w.heap.size w w'

set_option maxHeartbeats 6400000 in
theorem draft (g cap : Nat) (L : List K) (h : Hd) (word : ByteArray) (w : World) (hi : HandIs L h) (hc : L.length ≤ cap) (hws : word.size ≤ 1099511627776) (hg : g < w.heap.size) (hr : RdK w (some ⟨g, 0, none⟩) L) (he : HoldsE w 5) (hf : HoldsE w 6) :
    Calls Tryd.prog 42 #[.agg #[.slice (some ⟨g, 0, none⟩) L.length cap, .int .i64 h.who, .int .i64 h.has, .int .i64 h.kept, .int .i64 h.last], .string word] w (DraftsPost L h word w) := by
  have h60 := ((Lc.lace_iff L).1 hi.lace).1
  have hok : Base.okB h.has = true := (Base.okB_iff _).2 ⟨hi.h0, hi.h1⟩
  have HR : Hid (RdK w (some ⟨g, 0, none⟩) L) := hr
  have HEW : Hid (HoldsE w 6) := hf
  have P0 : Hid (Below w.heap.size w ((w.alloc (.cells #[.slice (some ⟨g, 0, none⟩) L.length cap, .int .i64 h.who, .int .i64 h.has, .int .i64 h.kept, .int .i64 h.last] 62)).alloc (.cells #[.int .i64 0, .int .i64 0, .int .i64 0, .string ⟨#[]⟩] 69)) ∧ Ow ((w.alloc (.cells #[.slice (some ⟨g, 0, none⟩) L.length cap, .int .i64 h.who, .int .i64 h.has, .int .i64 h.kept, .int .i64 h.last] 62)).alloc (.cells #[.int .i64 0, .int .i64 0, .int .i64 0, .string ⟨#[]⟩] 69)) w.heap.size (.slice (some ⟨g, 0, none⟩) L.length cap) (.int .i64 h.who) (.int .i64 h.has) (.int .i64 h.kept) (.int .i64 h.last) ∧ Kn.Zero (w.heap.size + 1) ((w.alloc (.cells #[.slice (some ⟨g, 0, none⟩) L.length cap, .int .i64 h.who, .int .i64 h.has, .int .i64 h.kept, .int .i64 h.last] 62)).alloc (.cells #[.int .i64 0, .int .i64 0, .int .i64 0, .string ⟨#[]⟩] 69))) :=
    ⟨((Below.refl _ w).alloc (Nat.le_refl _) _).alloc (by simp) _, (ow_new w _ _ _ _ _ _).below ((Below.refl _ _).alloc (Nat.le_refl _) _), by
      have q := zeroQ_new (w.alloc (.cells #[.slice (some ⟨g, 0, none⟩) L.length cap, .int .i64 h.who, .int .i64 h.has, .int .i64 h.kept, .int .i64 h.last] 62)) 69
      rw [World.size_alloc] at q
      exact q⟩
  have HDB : Hid (draftB L (belows L L.length) h.who h.has h.last word = (decide (0 ≤ nextI L h.has h.last) && okK (draftK L (belows L L.length) h.who h.has h.last word))) := rfl
  have HDK : Hid (draftK L (belows L L.length) h.who h.has h.last word = ⟨h.who, nextI L h.has h.last, Sg.tipsTo (belows L L.length) (draftS L h.has (nextI L h.has h.last)) L.length, word⟩) := by show _ = _; unfold draftK; rw [Sg.belows_len]
  clear hr hf
  go_enter Tryd.func42, Tryd.ntmps42
  go_upto_region 1 with fail
  generalize (w.alloc (.cells #[.slice (some ⟨g, 0, none⟩) L.length cap, .int .i64 h.who, .int .i64 h.has, .int .i64 h.kept, .int .i64 h.last] 62)).alloc (.cells #[.int .i64 0, .int .i64 0, .int .i64 0, .string ⟨#[]⟩] 69) = V at P0 ⊢
  have HB0 : Hid (Below w.heap.size w V) := P0.out.1
  have HO0 : Hid (Ow V w.heap.size (.slice (some ⟨g, 0, none⟩) L.length cap) (.int .i64 h.who) (.int .i64 h.has) (.int .i64 h.kept) (.int .i64 h.last)) := P0.out.2.1
  have HZ0 : Hid (Kn.Zero (w.heap.size + 1) V) := P0.out.2.2
  obtain ⟨_, x0, x1, x2, x3, x4, _, _, _, _, _⟩ := P0.out.2.1
  clear P0
  have hnx := nextRound g cap L h V hi hc (HR.out.below HB0.out) (he.below HB0.out)
  clear he
  go_wp2_with fail
  refine hnx.mono ?_
  clear hnx x0 x1 x2 x3 x4
  rintro e w1 ⟨hp, hb1⟩
  have HB1 : Hid (Below w.heap.size w w1) := HB0.out.trans (hb1.mono HB0.out.size)
  have HO1 : Hid (Ow w1 w.heap.size (.slice (some ⟨g, 0, none⟩) L.length cap) (.int .i64 h.who) (.int .i64 h.has) (.int .i64 h.kept) (.int .i64 h.last)) := HO0.out.below hb1
  have HZ1 : Hid (Kn.Zero (w.heap.size + 1) w1) := HZ0.out.below hb1
  clear HB0 HO0 HZ0 hb1
  rcases hp with ⟨hn0, rfl⟩ | ⟨hn0, v, rfl⟩
  rotate_left
  · have HF : Hid (draftB L (belows L L.length) h.who h.has h.last word = false) := by show _ = _; rw [HDB.out, hn0]; rfl
    clear hn0
    go_wp2
    exact ⟨rfl, .inr ⟨HF.out, ⟨_, rfl⟩⟩, HB1.out⟩
  have HDB2 : Hid (draftB L (belows L L.length) h.who h.has h.last word = okK (draftK L (belows L L.length) h.who h.has h.last word)) := by show _ = _; rw [HDB.out, decide_eq_true hn0]; rfl
  have hdb := Lc.among_bd (fun y => decide (y.round < nextI L h.has h.last)) L h.has L.length h60
  have hcl := lesser_closed hi (nextI L h.has h.last)
  have HDS : Hid (draftS L h.has (nextI L h.has h.last) = Lc.amongI (fun y => decide (y.round < nextI L h.has h.last)) L h.has L.length) := rfl
  rw [HDB2.out] at HDB
  generalize nextI L h.has h.last = nr at HDK HDS hdb hcl ⊢
  have P1 : Hid (Below w.heap.size w (w1.alloc (.cells #[.int .i64 nr] 2)) ∧ Ow (w1.alloc (.cells #[.int .i64 nr] 2)) w.heap.size (.slice (some ⟨g, 0, none⟩) L.length cap) (.int .i64 h.who) (.int .i64 h.has) (.int .i64 h.kept) (.int .i64 h.last) ∧ Kn.Zero (w.heap.size + 1) (w1.alloc (.cells #[.int .i64 nr] 2)) ∧ (w1.alloc (.cells #[.int .i64 nr] 2)).cell? ⟨w1.heap.size, 0, none⟩ = some (.int .i64 nr) ∧ w1.heap.size < (w1.alloc (.cells #[.int .i64 nr] 2)).heap.size) :=
    ⟨HB1.out.alloc HB1.out.size _, HO1.out.below ((Below.refl _ _).alloc (Nat.le_refl _) _), HZ1.out.below ((Below.refl _ _).alloc (Nat.le_refl _) _), by simp, by simp⟩
  have hzb : w.heap.size + 1 < w1.heap.size := HZ1.out.lt
  clear HB1 HO1 HZ1 HDB hn0
  go_upto_region 2 with fail
  generalize w1.alloc (.cells #[.int .i64 nr] 2) = V1 at P1 ⊢
  generalize w1.heap.size = nb at P1 hzb ⊢
  have HB1 : Hid (Below w.heap.size w V1) := P1.out.1
  have HO1 : Hid (Ow V1 w.heap.size (.slice (some ⟨g, 0, none⟩) L.length cap) (.int .i64 h.who) (.int .i64 h.has) (.int .i64 h.kept) (.int .i64 h.last)) := P1.out.2.1
  have HZ1 : Hid (Kn.Zero (w.heap.size + 1) V1) := P1.out.2.2.1
  have hn1 := P1.out.2.2.2.1
  have hnl := P1.out.2.2.2.2
  clear P1
  obtain ⟨_, x0, x1, x2, x3, x4, _, _, _, _, _⟩ := HO1.out
  have ham := Lc.amongLesser g 0 cap L h.has nb nr V1 h60 hok (HR.out.below HB1.out) hnl hn1
  rw [← HDS.out] at ham hdb
  clear HDS
  generalize draftS L h.has nr = ds at ham hdb hcl HDK
  go_wp2_with fail
  refine ham.mono ?_
  rintro e w2 ⟨rfl, hb2⟩
  have HB2 : Hid (Below w.heap.size w w2) := HB1.out.trans (hb2.mono HB1.out.size)
  have HO2 : Hid (Ow w2 w.heap.size (.slice (some ⟨g, 0, none⟩) L.length cap) (.int .i64 h.who) (.int .i64 h.has) (.int .i64 h.kept) (.int .i64 h.last)) := HO1.out.below hb2
  have HZ2 : Hid (Kn.Zero (w.heap.size + 1) w2) := HZ1.out.below hb2
  have hn2 : w2.cell? ⟨nb, 0, none⟩ = some (.int .i64 nr) := (hb2.cell (p := ⟨nb, 0, none⟩) hnl).trans hn1
  clear ham x0 x1 x2 x3 x4 HB1 HO1 HZ1 hn1 hnl hb2
  have hgw : g < w2.heap.size := Nat.lt_of_lt_of_le hg HB2.out.size
  have HTP : Hid (∀ W : World, Below w2.heap.size w2 W → Calls Tryd.prog 77 #[.slice (some ⟨g, 0, none⟩) L.length cap, .int .i64 ds] W fun e w' => e = .returned (.int .i64 (Sg.tipsTo (belows L L.length) ds L.length)) ∧ Below w2.heap.size w2 w' ∧ Below W.heap.size W w') := fun W hW => (Sg.tips g 0 cap L ds W hi.lace hdb.1 hdb.2 hcl (Nat.lt_of_lt_of_le hgw hW.size) ((HR.out.below HB2.out).below hW)).mono fun _ _ q => ⟨q.1, hW.trans (q.2.mono hW.size), q.2⟩
  have HSB : Hid (∀ W : World, Below w2.heap.size w2 W → W.cell? ⟨w.heap.size, 0, none⟩ = some (.slice (some ⟨g, 0, none⟩) L.length cap) ∧ W.cell? ⟨w.heap.size, 1, none⟩ = some (.int .i64 h.who) ∧ W.cell? ⟨nb, 0, none⟩ = some (.int .i64 nr)) := fun W hW => ⟨(HO2.out.below hW).c0, (HO2.out.below hW).c1, (hW.cell (p := ⟨nb, 0, none⟩) (cell_lt hn2)).trans hn2⟩
  have hob : w.heap.size < w2.heap.size := HO2.out.lt
  have hnb : nb < w2.heap.size := cell_lt hn2
  have HFW : Hid (∀ W : World, Below w2.heap.size w2 W → Below w.heap.size w W ∧ Kn.Zero (w.heap.size + 1) W) := fun W hW => ⟨HB2.out.trans (hW.mono HB2.out.size), HZ2.out.below hW⟩
  clear hdb hcl hn2 HO2 HZ2 HB2
  generalize Sg.tipsTo (belows L L.length) ds L.length = tp at HTP HDK
  go_upto_region 3 with fail
  go_cut [7] (fun pv wx => ∃ b : Nat, pv = .pointer (some ⟨b, 0, none⟩) ∧ Hid (KnAt wx b ⟨h.who, nr, tp, word⟩) ∧ Hid (Below w2.heap.size w2 wx))
  case first =>
    go_region_held3 (fun W => W.cell? ⟨w.heap.size, 0, none⟩ = some (.slice (some ⟨g, 0, none⟩) L.length cap) ∧ W.cell? ⟨w.heap.size, 1, none⟩ = some (.int .i64 h.who) ∧ W.cell? ⟨nb, 0, none⟩ = some (.int .i64 nr)) (first
      | exact HSB.out _ (B3.alloc B3.size _) | exact HSB.out _ B3 | exact HSB.out _ (below_set4 B3 (Nat.le_refl _) _ _ _ _)
      | exact HSB.out _ (by first | exact (Below.refl _ _).drew | exact Below.refl _ _ | exact (Below.refl _ _).drew.alloc (Nat.le_refl _) _ | exact ((Below.refl _ _).alloc (Nat.le_refl _) _).drew | exact (Below.refl _ _).alloc (Nat.le_refl _) _) | go_keep) (
      (go_at_call 77
       refine (HTP.out _ (by first | exact (Below.refl _ _).drew | exact Below.refl _ _ | exact (Below.refl _ _).drew.alloc (Nat.le_refl _) _ | exact ((Below.refl _ _).alloc (Nat.le_refl _) _).drew | exact (Below.refl _ _).alloc (Nat.le_refl _) _)).mono ?_
       rintro e V3 ⟨rfl, B3, b3⟩
       (first | have ZS := keepQ b3 | have ZS := keepQ' b3 | skip)
       (first | (have z0 := (zeroQc ZS).1; have z1 := (zeroQc ZS).2.1; have z2 := (zeroQc ZS).2.2.1; have z3 := (zeroQc ZS).2.2.2; have y0 := (zeroQf ZS).1; have y1 := (zeroQf ZS).2.1; have y2 := (zeroQf ZS).2.2.1; have y3 := (zeroQf ZS).2.2.2) | skip)))
    all_goals go_wp2_with fail
    all_goals go_meet
    all_goals (first | exact ⟨_, rfl, knat_new V3 ⟨h.who, nr, tp, word⟩ _, B3.alloc B3.size _⟩ | exact ⟨_, rfl, knat_put4 ZS ⟨h.who, nr, tp, word⟩, below_set4 B3 (Nat.le_refl _) _ _ _ _⟩)
  case rest =>
    obtain ⟨b, rfl, HKA, HB3⟩ := hcut
    clear HTP HSB
    have HDK2 : Hid (draftK L (belows L L.length) h.who h.has h.last word = ⟨h.who, nr, tp, word⟩) := HDK.out
    clear HDK
    obtain ⟨_, k0, k1, k2, k3⟩ := HKA.out
    dsimp only at k0 k1 k2 k3
    have HKR : Hid (∀ W : World, Calls Tryd.prog 78 #[.agg #[.int .i64 h.who, .int .i64 nr, .int .i64 tp, .string word]] W fun e w' => e = .returned (.bool (okK ⟨h.who, nr, tp, word⟩)) ∧ Below W.heap.size W w') := fun W => Kn.knotRight h.who nr tp word W hws
    cases hkk : okK ⟨h.who, nr, tp, word⟩
    · rw [hkk] at HKR
      have HF : Hid (draftB L (belows L L.length) h.who h.has h.last word = false) := by show _ = _; rw [HDB2.out, HDK2.out, hkk]
      clear HDB2 HDK2 hkk HKA
      go_upto_region 4 with fail
      go_wp2_with fail
      refine (HKR.out _).mono ?_
      rintro e w5 ⟨rfl, hb5⟩
      have HB5 : Hid (Below w2.heap.size w2 w5) := HB3.out.trans (hb5.mono HB3.out.size)
      obtain ⟨v, hv⟩ := HEW.out.below (HFW.out _ HB5.out).1
      clear k0 k1 k2 k3 HKR
      go_wp2
      exact ⟨rfl, .inr ⟨HF.out, ⟨_, rfl⟩⟩, (HFW.out _ HB5.out).1⟩
    · rw [hkk] at HKR
      have HF : Hid (draftB L (belows L L.length) h.who h.has h.last word = true) := by show _ = _; rw [HDB2.out, HDK2.out, hkk]
      clear HDB2 hkk
      go_upto_region 4 with fail
      go_wp2_with fail
      refine (HKR.out _).mono ?_
      rintro e w5 ⟨rfl, hb5⟩
      have HB5 : Hid (Below w2.heap.size w2 w5) := HB3.out.trans (hb5.mono HB3.out.size)
      have HK5 : Hid (KnAt w5 b ⟨h.who, nr, tp, word⟩) := knat_below HKA.out hb5
      clear k0 k1 k2 k3 HKR HKA hb5
      obtain ⟨_, k0, k1, k2, k3⟩ := HK5.out
      dsimp only at k0 k1 k2 k3
      have hz := (HFW.out _ HB5.out).2
      obtain ⟨z0, z1, z2, z3⟩ := zeroQc hz
      obtain ⟨f0, f1, f2, f3⟩ := zeroQf hz
      obtain ⟨q0, q1, q2, q3⟩ := hz.put (.int .i64 h.who) (.int .i64 nr) (.int .i64 tp) (.string word)
      have HBE : Hid _ := below_set4 (HFW.out _ HB5.out).1 (show w.heap.size ≤ w.heap.size + 1 by omega) (.int .i64 h.who) (.int .i64 nr) (.int .i64 tp) (.string word)
      clear hz
      go_wp2
      refine bodyPost_ret (v := .agg #[.int .i64 h.who, .int .i64 nr, .int .i64 tp, .string word]) (by simp [results, Tryd.f42, go_sem, q0, q1, q2, q3]) rfl ?_
      exact ⟨.inl ⟨HF.out, ⟨h.who, nr, tp, word⟩, HDK2.out, rfl⟩, HBE.out⟩

end Rm
end Go.Proofs.YtapfmadnkaimeaaDoor

namespace Go.Proofs.YtapfmadnkaimeaaDoor
open Go.RowKit
set_option maxRecDepth 100000
set_option linter.unusedVariables false
namespace Rm
open Kn (K okK)
open Bit (bit withB)
open Lc (at' RdK laceB WordsOk handsN roundS)
open Sg (bel belows closedTo orB)

theorem Ow.other {W : World} {b c : Nat} {v0 v1 v2 v3 v4 : Value} (x : Ow W b v0 v1 v2 v3 v4) (hne : b ≠ c) (i : Nat) (u : Value) : Ow (W.setCell ⟨c, i, none⟩ u) b v0 v1 v2 v3 v4 := by
  have hn : ∀ j : Nat, (⟨c, i, none⟩ : Addr) ≠ ⟨b, j, none⟩ := fun j e => hne (by injection e with e; exact e.symm)
  have hc : ∀ j : Nat, (W.setCell ⟨c, i, none⟩ u).cell? ⟨b, j, none⟩ = W.cell? ⟨b, j, none⟩ := fun j => World.cell?_setCell_other _ _ _ _ (hn j)
  obtain ⟨lt, c0, c1, c2, c3, c4, f0, f1, f2, f3, f4⟩ := x
  refine ⟨by simpa using lt, (hc _).trans c0, (hc _).trans c1, (hc _).trans c2, (hc _).trans c3, (hc _).trans c4, ?_, ?_, ?_, ?_, ?_⟩
  all_goals (rw [World.frozen?_setCell]; assumption)
theorem KnAt.other {W : World} {b c : Nat} {k : K} (x : KnAt W b k) (hne : b ≠ c) (i : Nat) (u : Value) : KnAt (W.setCell ⟨c, i, none⟩ u) b k := by
  have hn : ∀ j : Nat, (⟨c, i, none⟩ : Addr) ≠ ⟨b, j, none⟩ := fun j e => hne (by injection e with e; exact e.symm)
  have hc : ∀ j : Nat, (W.setCell ⟨c, i, none⟩ u).cell? ⟨b, j, none⟩ = W.cell? ⟨b, j, none⟩ := fun j => World.cell?_setCell_other _ _ _ _ (hn j)
  exact ⟨by simpa using x.lt, (hc _).trans x.c0, (hc _).trans x.c1, (hc _).trans x.c2, (hc _).trans x.c3⟩
theorem Ow.set0 {W : World} {b : Nat} {v0 v1 v2 v3 v4 : Value} (x : Ow W b v0 v1 v2 v3 v4) (u : Value) : Ow (W.setCell ⟨b, 0, none⟩ u) b u v1 v2 v3 v4 := by
  have hc : ∀ j : Nat, 0 ≠ j → (W.setCell ⟨b, 0, none⟩ u).cell? ⟨b, j, none⟩ = W.cell? ⟨b, j, none⟩ := fun j hj => World.cell?_setCell_other _ _ _ _ (fun e => hj (by injection e))
  obtain ⟨lt, c0, c1, c2, c3, c4, f0, f1, f2, f3, f4⟩ := x
  refine ⟨by simpa using lt, World.cell?_setCell_same _ _ _ c0, (hc _ (by decide)).trans c1, (hc _ (by decide)).trans c2, (hc _ (by decide)).trans c3, (hc _ (by decide)).trans c4, ?_, ?_, ?_, ?_, ?_⟩
  all_goals (rw [World.frozen?_setCell]; assumption)
theorem Ow.set2 {W : World} {b : Nat} {v0 v1 v2 v3 v4 : Value} (x : Ow W b v0 v1 v2 v3 v4) (u : Value) : Ow (W.setCell ⟨b, 2, none⟩ u) b v0 v1 u v3 v4 := by
  have hc : ∀ j : Nat, 2 ≠ j → (W.setCell ⟨b, 2, none⟩ u).cell? ⟨b, j, none⟩ = W.cell? ⟨b, j, none⟩ := fun j hj => World.cell?_setCell_other _ _ _ _ (fun e => hj (by injection e))
  obtain ⟨lt, c0, c1, c2, c3, c4, f0, f1, f2, f3, f4⟩ := x
  refine ⟨by simpa using lt, (hc _ (by decide)).trans c0, (hc _ (by decide)).trans c1, World.cell?_setCell_same _ _ _ c2, (hc _ (by decide)).trans c3, (hc _ (by decide)).trans c4, ?_, ?_, ?_, ?_, ?_⟩
  all_goals (rw [World.frozen?_setCell]; assumption)
theorem Ow.set4 {W : World} {b : Nat} {v0 v1 v2 v3 v4 : Value} (x : Ow W b v0 v1 v2 v3 v4) (u : Value) : Ow (W.setCell ⟨b, 4, none⟩ u) b v0 v1 v2 v3 u := by
  have hc : ∀ j : Nat, 4 ≠ j → (W.setCell ⟨b, 4, none⟩ u).cell? ⟨b, j, none⟩ = W.cell? ⟨b, j, none⟩ := fun j hj => World.cell?_setCell_other _ _ _ _ (fun e => hj (by injection e))
  obtain ⟨lt, c0, c1, c2, c3, c4, f0, f1, f2, f3, f4⟩ := x
  refine ⟨by simpa using lt, (hc _ (by decide)).trans c0, (hc _ (by decide)).trans c1, (hc _ (by decide)).trans c2, (hc _ (by decide)).trans c3, World.cell?_setCell_same _ _ _ c4, ?_, ?_, ?_, ?_, ?_⟩
  all_goals (rw [World.frozen?_setCell]; assumption)
/-- the three blocks of tying: the owner, the answer, the new knot -/
structure TSt (w W : World) (h : Hd) (nb : Nat) (k : K) (v0 v2 v4 : Value) : Prop where
  bel : Below w.heap.size w W
  ob : Ow W w.heap.size v0 (.int .i64 h.who) v2 (.int .i64 h.kept) v4
  rb : Ow W (w.heap.size + 1) (.slice none 0 0) (.int .i64 0) (.int .i64 0) (.int .i64 0) (.int .i64 0)
  kn : KnAt W nb k
  nl : w.heap.size + 1 < nb
theorem TSt.below {w W V : World} {h : Hd} {nb : Nat} {k : K} {v0 v2 v4 : Value} (x : TSt w W h nb k v0 v2 v4) (hb : Below W.heap.size W V) : TSt w V h nb k v0 v2 v4 := ⟨x.bel.trans (hb.mono x.bel.size), x.ob.below hb, x.rb.below hb, knat_below x.kn hb, x.nl⟩
theorem TSt.set0 {w W : World} {h : Hd} {nb : Nat} {k : K} {v0 v2 v4 : Value} (x : TSt w W h nb k v0 v2 v4) (u : Value) : TSt w (W.setCell ⟨w.heap.size, 0, none⟩ u) h nb k u v2 v4 := ⟨x.bel.setCell (p := ⟨w.heap.size, 0, none⟩) (Nat.le_refl _) _, x.ob.set0 u, x.rb.other (by omega) _ _, x.kn.other (by have := x.nl; omega) _ _, x.nl⟩
theorem TSt.set2 {w W : World} {h : Hd} {nb : Nat} {k : K} {v0 v2 v4 : Value} (x : TSt w W h nb k v0 v2 v4) (u : Value) : TSt w (W.setCell ⟨w.heap.size, 2, none⟩ u) h nb k v0 u v4 := ⟨x.bel.setCell (p := ⟨w.heap.size, 2, none⟩) (Nat.le_refl _) _, x.ob.set2 u, x.rb.other (by omega) _ _, x.kn.other (by have := x.nl; omega) _ _, x.nl⟩
theorem TSt.set4 {w W : World} {h : Hd} {nb : Nat} {k : K} {v0 v2 v4 : Value} (x : TSt w W h nb k v0 v2 v4) (u : Value) : TSt w (W.setCell ⟨w.heap.size, 4, none⟩ u) h nb k v0 v2 u := ⟨x.bel.setCell (p := ⟨w.heap.size, 4, none⟩) (Nat.le_refl _) _, x.ob.set4 u, x.rb.other (by omega) _ _, x.kn.other (by have := x.nl; omega) _ _, x.nl⟩
theorem rdk_set {W : World} {g b i : Nat} {L : List K} {x : Option Addr} {n m : Nat} (h : RdK W (some ⟨g, 0, none⟩) L) (hx : W.cell? ⟨b, 0, none⟩ = some (.slice x n m)) (u : Value) : RdK (W.setCell ⟨b, i, none⟩ u) (some ⟨g, 0, none⟩) L :=
  rdk_other (V := W.setCell ⟨b, i, none⟩ u) h (fun p hp => World.cell?_setCell_other _ _ _ _ (fun e => hp (by rw [← e]))) (by simp) hx
theorem with_or {has : Int} {n : Nat} (h0 : 0 ≤ has) (h1 : has < 1152921504606846976) (hn : n < 60) : Base.withI has (n : Int) = orB has (2 ^ n) := by
  unfold Base.withI
  rw [(Base.okB_iff _).2 ⟨h0, h1⟩, (Base.inB_iff _).2 ⟨by omega, by omega⟩, Int.toNat_natCast]
  have e := Base.shl_or has n h0 h1 hn
  have hp : (2 : Int) ^ n < 1152921504606846976 := by
    have : (2 : Int) ^ n ≤ 2 ^ 59 := by exact_mod_cast Nat.pow_le_pow_right (by omega) (show n ≤ 59 by omega)
    have e2 : (2 : Int) ^ 59 = 576460752303423488 := by decide
    omega
  have hp0 : (0 : Int) ≤ 2 ^ n := by exact_mod_cast Nat.zero_le _
  rw [Sg.or_eq _ _ h0 h1 hp0 hp] at e
  simp [e]

/-- how the tying ends -/
def TiesEnd (L : List K) (h : Hd) (word : ByteArray) (w : World) (e : Ending) (w' : World) : Prop :=
  ((tieB L h word = true ∧ L.length < 60 ∧ ∃ g, e = .returned (.agg #[.slice (some ⟨g, 0, none⟩) (L ++ [tieK L h word]).length (L ++ [tieK L h word]).length, .int .i64 h.who, .int .i64 (orB h.has (2 ^ L.length)), .int .i64 (orB h.has (2 ^ L.length)), .int .i64 (L.length : Int)]) ∧ g < w'.heap.size ∧ RdK w' (some ⟨g, 0, none⟩) (L ++ [tieK L h word])) ∨ (tieB L h word = false ∧ Gives e)) ∧ Below w.heap.size w w'

set_option maxHeartbeats 6400000 in
theorem ties (g cap : Nat) (L : List K) (h : Hd) (word : ByteArray) (w : World) (hi : HandIs L h) (hc : L.length ≤ cap) (hws : word.size ≤ 1099511627776) (hg : g < w.heap.size) (hr : RdK w (some ⟨g, 0, none⟩) L) (he : HoldsE w 5) (hf : HoldsE w 6) (hu : HoldsE w 7) :
    Calls Tryd.prog 49 #[.agg #[.slice (some ⟨g, 0, none⟩) L.length cap, .int .i64 h.who, .int .i64 h.has, .int .i64 h.kept, .int .i64 h.last], .string word] w (TiesEnd L h word w) := by
  have h60 := ((Lc.lace_iff L).1 hi.lace).1
  have hho : Lc.HandsOk L := Lc.lace_hands hi.lace
  have HR : Hid (RdK w (some ⟨g, 0, none⟩) L) := hr
  have HEF : Hid (HoldsE w 7) := hu
  have P0 : Hid (Below w.heap.size w ((w.alloc (.cells #[.slice (some ⟨g, 0, none⟩) L.length cap, .int .i64 h.who, .int .i64 h.has, .int .i64 h.kept, .int .i64 h.last] 62)).alloc (.cells #[.slice none 0 0, .int .i64 0, .int .i64 0, .int .i64 0, .int .i64 0] 62)) ∧ Ow ((w.alloc (.cells #[.slice (some ⟨g, 0, none⟩) L.length cap, .int .i64 h.who, .int .i64 h.has, .int .i64 h.kept, .int .i64 h.last] 62)).alloc (.cells #[.slice none 0 0, .int .i64 0, .int .i64 0, .int .i64 0, .int .i64 0] 62)) w.heap.size (.slice (some ⟨g, 0, none⟩) L.length cap) (.int .i64 h.who) (.int .i64 h.has) (.int .i64 h.kept) (.int .i64 h.last) ∧ Ow ((w.alloc (.cells #[.slice (some ⟨g, 0, none⟩) L.length cap, .int .i64 h.who, .int .i64 h.has, .int .i64 h.kept, .int .i64 h.last] 62)).alloc (.cells #[.slice none 0 0, .int .i64 0, .int .i64 0, .int .i64 0, .int .i64 0] 62)) (w.heap.size + 1) (.slice none 0 0) (.int .i64 0) (.int .i64 0) (.int .i64 0) (.int .i64 0)) :=
    ⟨((Below.refl _ w).alloc (Nat.le_refl _) _).alloc (by simp) _, (ow_new w _ _ _ _ _ _).below ((Below.refl _ _).alloc (Nat.le_refl _) _), by
      have q := ow_new (w.alloc (.cells #[.slice (some ⟨g, 0, none⟩) L.length cap, .int .i64 h.who, .int .i64 h.has, .int .i64 h.kept, .int .i64 h.last] 62)) (.slice none 0 0) (.int .i64 0) (.int .i64 0) (.int .i64 0) (.int .i64 0) 62
      rw [World.size_alloc] at q
      exact q⟩
  have HTB : Hid (tieB L h word = (draftB L (belows L L.length) h.who h.has h.last word && Lc.takesB L (tieK L h word))) := rfl
  clear hr hu
  go_enter Tryd.func49, Tryd.ntmps49
  go_upto_region 1 with fail
  generalize (w.alloc (.cells #[.slice (some ⟨g, 0, none⟩) L.length cap, .int .i64 h.who, .int .i64 h.has, .int .i64 h.kept, .int .i64 h.last] 62)).alloc (.cells #[.slice none 0 0, .int .i64 0, .int .i64 0, .int .i64 0, .int .i64 0] 62) = V at P0 ⊢
  have HB0 : Hid (Below w.heap.size w V) := P0.out.1
  have HO0 : Hid (Ow V w.heap.size (.slice (some ⟨g, 0, none⟩) L.length cap) (.int .i64 h.who) (.int .i64 h.has) (.int .i64 h.kept) (.int .i64 h.last)) := P0.out.2.1
  have HZ0 : Hid (Ow V (w.heap.size + 1) (.slice none 0 0) (.int .i64 0) (.int .i64 0) (.int .i64 0) (.int .i64 0)) := P0.out.2.2
  obtain ⟨_, x0, x1, x2, x3, x4, _, _, _, _, _⟩ := P0.out.2.1
  clear P0
  have hdr := draft g cap L h word V hi hc hws (Nat.lt_of_lt_of_le hg HB0.out.size) (HR.out.below HB0.out) (he.below HB0.out) (hf.below HB0.out)
  clear he hf
  go_wp2_with fail
  refine hdr.mono ?_
  clear hdr x0 x1 x2 x3 x4
  rintro e w1 ⟨hp, hb1⟩
  have HB1 : Hid (Below w.heap.size w w1) := HB0.out.trans (hb1.mono HB0.out.size)
  have HO1 : Hid (Ow w1 w.heap.size (.slice (some ⟨g, 0, none⟩) L.length cap) (.int .i64 h.who) (.int .i64 h.has) (.int .i64 h.kept) (.int .i64 h.last)) := HO0.out.below hb1
  have HZ1 : Hid (Ow w1 (w.heap.size + 1) (.slice none 0 0) (.int .i64 0) (.int .i64 0) (.int .i64 0) (.int .i64 0)) := HZ0.out.below hb1
  clear HB0 HO0 HZ0 hb1
  rcases hp with ⟨hd, k, hk, rfl⟩ | ⟨hd, v, rfl⟩
  rotate_left
  · have HF : Hid (tieB L h word = false) := by show _ = _; rw [HTB.out, hd]; rfl
    clear hd
    go_wp2
    exact ⟨rfl, .inr ⟨HF.out, ⟨_, rfl⟩⟩, HB1.out⟩
  have HTK : Hid (tieK L h word = k) := by show _ = _; unfold tieK draftZ; rw [hd]; exact hk
  have hkw : k.word.size ≤ 1099511627776 := by rw [← hk]; exact hws
  have HTB2 : Hid (tieB L h word = Lc.takesB L k) := by show _ = _; rw [HTB.out, hd, HTK.out]; rfl
  have hzb : w.heap.size + 1 < w1.heap.size := HZ1.out.lt
  have P1 : Hid (TSt w (w1.alloc (.cells #[.int .i64 k.hand, .int .i64 k.round, .int .i64 k.frm, .string k.word] 69)) h w1.heap.size k (.slice (some ⟨g, 0, none⟩) L.length cap) (.int .i64 h.has) (.int .i64 h.last)) :=
    ⟨HB1.out.alloc HB1.out.size _, HO1.out.below ((Below.refl _ _).alloc (Nat.le_refl _) _), HZ1.out.below ((Below.refl _ _).alloc (Nat.le_refl _) _), knat_new w1 k _, hzb⟩
  clear HTB hd hk HB1 HO1 HZ1
  go_upto_region 2 with fail
  generalize w1.alloc (.cells #[.int .i64 k.hand, .int .i64 k.round, .int .i64 k.frm, .string k.word] 69) = V1 at P1 ⊢
  generalize w1.heap.size = nb at P1 hzb ⊢
  obtain ⟨_, x0, x1, x2, x3, x4, g0, g1, g2, g3, g4⟩ := P1.out.ob
  obtain ⟨_, k0, k1, k2, k3⟩ := P1.out.kn
  have htk := Lc.takes g 0 cap L k V1 h60 hkw hho (HR.out.below P1.out.bel)
  have HTQ : Hid (Lc.takesB L k = true → L.length < 60) := fun q => by unfold Lc.takesB at q; rw [Bool.and_eq_true, decide_eq_true_eq] at q; exact q.1
  cases htb : Lc.takesB L k
  · rw [htb] at HTB2 htk
    clear htb HTQ
    go_wp2_with fail
    refine htk.mono ?_
    rintro e w2 ⟨rfl, hb2⟩
    have HB2 : Hid (Below w.heap.size w w2) := (P1.out.below hb2).bel
    obtain ⟨v, hv⟩ := HEF.out.below HB2.out
    clear x0 x1 x2 x3 x4 g0 g1 g2 g3 g4 k0 k1 k2 k3 htk
    go_wp2
    exact ⟨rfl, .inr ⟨HTB2.out, ⟨_, rfl⟩⟩, HB2.out⟩
  rw [htb] at HTB2 htk
  have hlt := HTQ.out htb
  clear htb HTQ
  go_wp2_with fail
  refine htk.mono ?_
  rintro e w2 ⟨rfl, hb2⟩
  have P2 : Hid (TSt w w2 h nb k (.slice (some ⟨g, 0, none⟩) L.length cap) (.int .i64 h.has) (.int .i64 h.last)) := P1.out.below hb2
  clear x0 x1 x2 x3 x4 g0 g1 g2 g3 g4 k0 k1 k2 k3 htk P1 hb2
  obtain ⟨_, x0, x1, x2, x3, x4, g0, g1, g2, g3, g4⟩ := P2.out.ob
  have P3 : Hid (TSt w (w2.setCell ⟨w.heap.size, 4, none⟩ (.int .i64 (L.length : Int))) h nb k (.slice (some ⟨g, 0, none⟩) L.length cap) (.int .i64 h.has) (.int .i64 (L.length : Int))) := P2.out.set4 _
  have HR3 : Hid (RdK (w2.setCell ⟨w.heap.size, 4, none⟩ (.int .i64 (L.length : Int))) (some ⟨g, 0, none⟩) L) := rdk_set (HR.out.below P2.out.bel) x0 _
  clear P2 HR
  go_upto_region 5 with fail
  generalize w2.setCell ⟨w.heap.size, 4, none⟩ (.int .i64 (L.length : Int)) = V3 at P3 HR3 ⊢
  clear x0 x1 x2 x3 x4 g0 g1 g2 g3 g4
  obtain ⟨_, x0, x1, x2, x3, x4, g0, g1, g2, g3, g4⟩ := P3.out.ob
  obtain ⟨_, k0, k1, k2, k3⟩ := P3.out.kn
  have hti := Lc.laceTied g 0 cap L k V3 (by omega) HR3.out
  go_wp2_with fail
  refine hti.mono ?_
  clear hti x0 x1 x2 x3 x4 g0 g1 g2 g3 g4 k0 k1 k2 k3 HR3
  rintro e w4 ⟨gt, T, hT, rfl, hrt, hb4⟩
  have HT : Hid (T = L ++ [k]) := hT
  clear hT
  have P4 : Hid (TSt w w4 h nb k (.slice (some ⟨g, 0, none⟩) L.length cap) (.int .i64 h.has) (.int .i64 (L.length : Int))) := P3.out.below hb4
  clear P3 hb4
  obtain ⟨_, x0, x1, x2, x3, x4, g0, g1, g2, g3, g4⟩ := P4.out.ob
  have P5 : Hid (TSt w (w4.setCell ⟨w.heap.size, 0, none⟩ (.slice (some ⟨gt, 0, none⟩) T.length T.length)) h nb k (.slice (some ⟨gt, 0, none⟩) T.length T.length) (.int .i64 h.has) (.int .i64 (L.length : Int))) := P4.out.set0 _
  have HR5 : Hid (RdK (w4.setCell ⟨w.heap.size, 0, none⟩ (.slice (some ⟨gt, 0, none⟩) T.length T.length)) (some ⟨gt, 0, none⟩) T) := rdk_set hrt x0 _
  clear P4 hrt
  go_upto_region 6 with fail
  generalize w4.setCell ⟨w.heap.size, 0, none⟩ (.slice (some ⟨gt, 0, none⟩) T.length T.length) = V5 at P5 HR5 ⊢
  clear x0 x1 x2 x3 x4 g0 g1 g2 g3 g4
  obtain ⟨_, x0, x1, x2, x3, x4, g0, g1, g2, g3, g4⟩ := P5.out.ob
  have hwi := Base.withM h.has (L.length : Int) V5
  rw [with_or hi.h0 hi.h1 hlt] at hwi
  have HNH : Hid (orB h.has (2 ^ L.length) = orB h.has (2 ^ L.length)) := rfl
  generalize hnh : orB h.has (2 ^ L.length) = nh at hwi
  have HNH2 : Hid (orB h.has (2 ^ L.length) = nh) := hnh
  clear hnh HNH
  have P6 : Hid (TSt w (V5.setCell ⟨w.heap.size, 2, none⟩ (.int .i64 nh)) h nb k (.slice (some ⟨gt, 0, none⟩) T.length T.length) (.int .i64 nh) (.int .i64 (L.length : Int))) := P5.out.set2 _
  have HR6 : Hid (RdK (V5.setCell ⟨w.heap.size, 2, none⟩ (.int .i64 nh)) (some ⟨gt, 0, none⟩) T) := rdk_set HR5.out x0 _
  clear P5 HR5
  go_upto_region 7 with (go_at_call 63; refine hwi.mono ?_; rintro e w' ⟨rfl, rfl⟩)
  generalize V5.setCell ⟨w.heap.size, 2, none⟩ (.int .i64 nh) = V6 at P6 HR6 ⊢
  clear x0 x1 x2 x3 x4 g0 g1 g2 g3 g4 hwi
  obtain ⟨_, x0, x1, x2, x3, x4, g0, g1, g2, g3, g4⟩ := P6.out.ob
  have hke := keeps gt T.length T.length ⟨h.who, nh, h.kept, (L.length : Int)⟩ V6
  go_wp2_with fail
  refine hke.mono ?_
  rintro e w7 ⟨rfl, hb7⟩
  have P7 : Hid (TSt w w7 h nb k (.slice (some ⟨gt, 0, none⟩) T.length T.length) (.int .i64 nh) (.int .i64 (L.length : Int))) := P6.out.below hb7
  have HR7 : Hid (RdK w7 (some ⟨gt, 0, none⟩) T) := HR6.out.below hb7
  clear P6 HR6 x0 x1 x2 x3 x4 g0 g1 g2 g3 g4 hke hb7
  obtain ⟨_, z0, z1, z2, z3, z4, f0, f1, f2, f3, f4⟩ := P7.out.rb
  obtain ⟨WW, hW, hOW, hBW, hsW, hcW⟩ := P7.out.rb.put (.slice (some ⟨gt, 0, none⟩) T.length T.length) (.int .i64 h.who) (.int .i64 nh) (.int .i64 nh) (.int .i64 (L.length : Int))
  have HW : Hid (WW = _) := hW
  have HE : Hid (RdK WW (some ⟨gt, 0, none⟩) T ∧ Below w.heap.size w WW) := ⟨rdk_other HR7.out hcW hsW z0, hBW _ _ P7.out.bel (by omega)⟩
  obtain ⟨_, y0, y1, y2, y3, y4, _, _, _, _, _⟩ := hOW
  clear hW hBW hsW hcW P7 HR7
  dsimp only
  go_wp2
  rw [← HW.out]
  refine bodyPost_ret (v := .agg #[.slice (some ⟨gt, 0, none⟩) T.length T.length, .int .i64 h.who, .int .i64 nh, .int .i64 nh, .int .i64 (L.length : Int)]) (by simp [results, Tryd.f49, go_sem, y0, y1, y2, y3, y4]) rfl ?_
  have hT := HT.out
  subst hT
  have hgl : gt < WW.heap.size := (HE.out.1.on 0 (by simp)).1
  refine ⟨.inl ⟨HTB2.out, hlt, gt, ?_, hgl, ?_⟩, HE.out.2⟩
  · rw [HTK.out, HNH2.out]
  · rw [HTK.out]; exact HE.out.1

end Rm
end Go.Proofs.YtapfmadnkaimeaaDoor

namespace Go.Proofs.YtapfmadnkaimeaaDoor
open Go.RowKit
set_option maxRecDepth 100000
set_option linter.unusedVariables false
namespace Rm
open Kn (K okK)
open Lc (at' RdK laceB WordsOk handsN roundS)
open Sg (bel belows closedTo orB)

theorem catchI_panicking (p q r : Nat) (x : Int) (v1 v2 : Value) (u : TypeId) (pv : Value) (older : List PanicEntry) (w : World) (hqr : q ≠ r) (hc : w.cell? ⟨p, 0, none⟩ = some (.int .i64 x)) (hq : w.cell? ⟨q, 0, none⟩ = some v1) (hr : w.cell? ⟨r, 0, none⟩ = some v2) (fq : w.frozen? ⟨q, 0, none⟩ = false) (fr : w.frozen? ⟨r, 0, none⟩ = false) :
    CallsD Tryd.prog 69 #[.pointer (some ⟨p, 0, none⟩), .pointer (some ⟨q, 0, none⟩), .pointer (some ⟨r, 0, none⟩)] (.panicking ({ v := .iface u pv, recovered := false } :: older)) w fun e u' w' =>
      e = .returned (.tuple #[]) ∧ u' = .panicking ({ v := .iface u pv, recovered := true } :: older) ∧ w' = (w.setCell ⟨q, 0, none⟩ (.int .i64 x)).setCell ⟨r, 0, none⟩ (.bool false) := by
  have hr2 : (w.setCell ⟨q, 0, none⟩ (.int .i64 x)).cell? ⟨r, 0, none⟩ = some v2 := (World.cell?_setCell_other _ _ _ _ (fun e => hqr (by injection e))).trans hr
  refine callsD_of_wpS Tryd.func69 rfl fun c₀ cs hu => ?_
  apply wpS_seq
  apply wpS_region
  simp [wpOpsS, go_sem, recoverD, hu, Tryd.ntmps69, Exit.thenS]
  refine wpS_cond (t := true) (by simp [Act.eval, Array.replicate]) ?_
  simp only [if_true]
  apply wpS_region
  simp [wpOpsS, go_sem, hc, hq, hr2, fq, fr, bodyPostS, results, Tryd.results69]

theorem catchI_idle (p q r : Value) (w : World) :
    CallsD Tryd.prog 69 #[p, q, r] .returning w fun e u' w' => e = .returned (.tuple #[]) ∧ u' = .returning ∧ w' = w := by
  refine callsD_of_wpS Tryd.func69 rfl fun c₀ cs hu => ?_
  apply wpS_seq
  apply wpS_region
  simp [wpOpsS, go_sem, recoverD, hu, Tryd.ntmps69, Exit.thenS]
  refine wpS_cond (t := false) (by simp [Act.eval, Array.replicate]) ?_
  simp only [Bool.false_eq_true, if_false]
  refine wpS_of_wp (wp_skip ?_)
  cases c₀
  simp_all [bodyPostS, results, Tryd.results69]

/-- three blocks of one cell each, one behind the other -/
structure Tri (w W : World) (v0 v1 v2 : Value) : Prop where
  bel : Below w.heap.size w W
  sz : w.heap.size + 2 < W.heap.size
  c0 : W.cell? ⟨w.heap.size, 0, none⟩ = some v0
  c1 : W.cell? ⟨w.heap.size + 1, 0, none⟩ = some v1
  c2 : W.cell? ⟨w.heap.size + 1 + 1, 0, none⟩ = some v2
  f1 : W.frozen? ⟨w.heap.size + 1, 0, none⟩ = false
  f2 : W.frozen? ⟨w.heap.size + 1 + 1, 0, none⟩ = false
theorem Tri.below {w W V : World} {v0 v1 v2 : Value} (x : Tri w W v0 v1 v2) (hb : Below W.heap.size W V) : Tri w V v0 v1 v2 :=
  ⟨x.bel.trans (hb.mono x.bel.size), Nat.lt_of_lt_of_le x.sz hb.size, (hb.cell (p := ⟨w.heap.size, 0, none⟩) (by have := x.sz; show w.heap.size < _; omega)).trans x.c0, (hb.cell (p := ⟨w.heap.size + 1, 0, none⟩) (by have := x.sz; show w.heap.size + 1 < _; omega)).trans x.c1, (hb.cell (p := ⟨w.heap.size + 1 + 1, 0, none⟩) x.sz).trans x.c2,
   (hb.frozen (p := ⟨w.heap.size + 1, 0, none⟩) (by have := x.sz; show w.heap.size + 1 < _; omega)).trans x.f1, (hb.frozen (p := ⟨w.heap.size + 1 + 1, 0, none⟩) x.sz).trans x.f2⟩

theorem tri_new (w : World) (v0 v1 v2 : Value) (t0 t1 t2 : TypeId) : Tri w (((w.alloc (.cells #[v0] t0)).alloc (.cells #[v1] t1)).alloc (.cells #[v2] t2)) v0 v1 v2 := by
  have b2 : Below ((w.alloc (.cells #[v0] t0)).alloc (.cells #[v1] t1)).heap.size ((w.alloc (.cells #[v0] t0)).alloc (.cells #[v1] t1)) (((w.alloc (.cells #[v0] t0)).alloc (.cells #[v1] t1)).alloc (.cells #[v2] t2)) := (Below.refl _ _).alloc (Nat.le_refl _) _
  have b1 : Below (w.alloc (.cells #[v0] t0)).heap.size (w.alloc (.cells #[v0] t0)) (((w.alloc (.cells #[v0] t0)).alloc (.cells #[v1] t1)).alloc (.cells #[v2] t2)) := ((Below.refl _ _).alloc (Nat.le_refl _) _).alloc (by simp) _
  have e0 : (w.alloc (.cells #[v0] t0)).cell? ⟨w.heap.size, 0, none⟩ = some v0 := by simp
  have e1 : ((w.alloc (.cells #[v0] t0)).alloc (.cells #[v1] t1)).cell? ⟨(w.alloc (.cells #[v0] t0)).heap.size, 0, none⟩ = some v1 := by simp [-World.size_alloc]
  have e2 : (((w.alloc (.cells #[v0] t0)).alloc (.cells #[v1] t1)).alloc (.cells #[v2] t2)).cell? ⟨((w.alloc (.cells #[v0] t0)).alloc (.cells #[v1] t1)).heap.size, 0, none⟩ = some v2 := by simp [-World.size_alloc]
  have g1 : ((w.alloc (.cells #[v0] t0)).alloc (.cells #[v1] t1)).frozen? ⟨(w.alloc (.cells #[v0] t0)).heap.size, 0, none⟩ = false := by simp [-World.size_alloc]
  have g2 : (((w.alloc (.cells #[v0] t0)).alloc (.cells #[v1] t1)).alloc (.cells #[v2] t2)).frozen? ⟨((w.alloc (.cells #[v0] t0)).alloc (.cells #[v1] t1)).heap.size, 0, none⟩ = false := by simp [-World.size_alloc]
  rw [World.size_alloc] at e1 g1
  rw [World.size_alloc, World.size_alloc] at e2 g2
  refine ⟨(((Below.refl _ w).alloc (Nat.le_refl _) _).alloc (by simp) _).alloc (by simp; omega) _, by simp, (b1.cell (p := ⟨w.heap.size, 0, none⟩) (by simp)).trans e0, (b2.cell (p := ⟨w.heap.size + 1, 0, none⟩) (by simp)).trans e1, e2, (b2.frozen (p := ⟨w.heap.size + 1, 0, none⟩) (by simp)).trans g1, g2⟩

set_option maxHeartbeats 1600000 in
theorem orNoneI (fid : Nat) (eg : ∀ (args : Array Value) (w : World), (callFunc fid args).run Tryd.prog w = .ok (.enter fid args) w) (c0 c1 : Value) (x : Int) (R : Int → Prop) (N : Prop) (w : World)
    (hask : ∀ V : World, Below w.heap.size w V → Calls Tryd.prog fid #[c0, c1] V fun e V' => ((∃ r, e = .returned (.int .i64 r) ∧ R r) ∨ (Gives e ∧ N)) ∧ Below V.heap.size V V') :
    Calls Tryd.prog 35 #[.int .i64 x, .func (.func fid) #[] #[c0, c1]] w fun e w' => ((∃ r, e = .returned (.tuple #[.int .i64 r, .bool true]) ∧ R r) ∨ (e = .returned (.tuple #[.int .i64 x, .bool false]) ∧ N)) ∧ Below w.heap.size w w' := by
  have hmf : ∀ (fn : Fn) (first cap : Array Value) (w : World), (Instr.makeFunc fn first cap).run Tryd.prog w = .ok (.func fn first cap) w := fun _ _ _ _ => rfl
  have P0 : Hid (Tri w (((w.alloc (.cells #[.int .i64 x] 2)).alloc (.cells #[.int .i64 0] 2)).alloc (.cells #[.bool false] 4)) (.int .i64 x) (.int .i64 0) (.bool false)) :=
    tri_new w _ _ _ _ _ _
  have HA : Hid (∀ V : World, Below w.heap.size w V → Calls Tryd.prog fid #[c0, c1] V fun e V' => ((∃ r, e = .returned (.int .i64 r) ∧ R r) ∨ (Gives e ∧ N)) ∧ Below V.heap.size V V') := hask
  clear hask
  go_enter_defers Tryd.func35, Tryd.ntmps35
  go_upto_region 2 with fail
  generalize ((w.alloc (.cells #[.int .i64 x] 2)).alloc (.cells #[.int .i64 0] 2)).alloc (.cells #[.bool false] 4) = V at P0 ⊢
  have hak := HA.out V P0.out.bel
  go_wp2_with fail
  refine hak.mono ?_
  clear hak
  rintro e w1 ⟨hp, hb1⟩
  have P1 : Hid (Tri w w1 (.int .i64 x) (.int .i64 0) (.bool false)) := P0.out.below hb1
  obtain ⟨hB, hsz, d0, d1, d2, f1, f2⟩ := P1.out
  have HB : Hid (Below w.heap.size w w1) := hB
  clear P0 hb1 hB
  rcases hp with ⟨r, rfl, hR⟩ | ⟨⟨v, rfl⟩, hN⟩
  · have e1 : ((w1.setCell ⟨w.heap.size + 1, 0, none⟩ (.int .i64 r)).setCell ⟨w.heap.size + 1 + 1, 0, none⟩ (.bool true)).cell? ⟨w.heap.size + 1, 0, none⟩ = some (.int .i64 r) := (World.cell?_setCell_other _ _ _ _ (by simp)).trans (World.cell?_setCell_same _ _ _ d1)
    have e2 : ((w1.setCell ⟨w.heap.size + 1, 0, none⟩ (.int .i64 r)).setCell ⟨w.heap.size + 1 + 1, 0, none⟩ (.bool true)).cell? ⟨w.heap.size + 1 + 1, 0, none⟩ = some (.bool true) := World.cell?_setCell_same _ _ _ ((World.cell?_setCell_other _ _ _ _ (by simp)).trans d2)
    have HE : Hid (Below w.heap.size w ((w1.setCell ⟨w.heap.size + 1, 0, none⟩ (.int .i64 r)).setCell ⟨w.heap.size + 1 + 1, 0, none⟩ (.bool true))) := (HB.out.setCell (p := ⟨w.heap.size + 1, 0, none⟩) (by simp) _).setCell (p := ⟨w.heap.size + 1 + 1, 0, none⟩) (by simp; omega) _
    go_wp2
    refine leaves_cons (f := 69) (args := #[.pointer (some ⟨w.heap.size, 0, none⟩), .pointer (some ⟨w.heap.size + 1, 0, none⟩), .pointer (some ⟨w.heap.size + 1 + 1, 0, none⟩)]) (by simp) (by simp [go_sem]) ?_
    refine (catchI_idle _ _ _ _).mono ?_
    rintro e u' w'' ⟨rfl, rfl, rfl⟩
    generalize (w1.setCell ⟨w.heap.size + 1, 0, none⟩ (.int .i64 r)).setCell ⟨w.heap.size + 1 + 1, 0, none⟩ (.bool true) = W2 at e1 e2 HE ⊢
    simp [Leaves, settle, results, Tryd.results35, go_sem, e1, e2]
    exact ⟨hR, HE.out⟩
  · have e1 : ((w1.setCell ⟨w.heap.size + 1, 0, none⟩ (.int .i64 x)).setCell ⟨w.heap.size + 1 + 1, 0, none⟩ (.bool false)).cell? ⟨w.heap.size + 1, 0, none⟩ = some (.int .i64 x) := (World.cell?_setCell_other _ _ _ _ (by simp)).trans (World.cell?_setCell_same _ _ _ d1)
    have e2 : ((w1.setCell ⟨w.heap.size + 1, 0, none⟩ (.int .i64 x)).setCell ⟨w.heap.size + 1 + 1, 0, none⟩ (.bool false)).cell? ⟨w.heap.size + 1 + 1, 0, none⟩ = some (.bool false) := World.cell?_setCell_same _ _ _ ((World.cell?_setCell_other _ _ _ _ (by simp)).trans d2)
    have HE : Hid (Below w.heap.size w ((w1.setCell ⟨w.heap.size + 1, 0, none⟩ (.int .i64 x)).setCell ⟨w.heap.size + 1 + 1, 0, none⟩ (.bool false))) := (HB.out.setCell (p := ⟨w.heap.size + 1, 0, none⟩) (by simp) _).setCell (p := ⟨w.heap.size + 1 + 1, 0, none⟩) (by simp; omega) _
    go_wp2
    refine leaves_cons (f := 69) (args := #[.pointer (some ⟨w.heap.size, 0, none⟩), .pointer (some ⟨w.heap.size + 1, 0, none⟩), .pointer (some ⟨w.heap.size + 1 + 1, 0, none⟩)]) (by simp) (by simp [go_sem]) ?_
    refine (catchI_panicking _ _ _ x _ _ _ v [] w1 (by omega) d0 d1 d2 f1 f2).mono ?_
    rintro e u' w'' ⟨rfl, rfl, rfl⟩
    generalize (w1.setCell ⟨w.heap.size + 1, 0, none⟩ (.int .i64 x)).setCell ⟨w.heap.size + 1 + 1, 0, none⟩ (.bool false) = W2 at e1 e2 HE ⊢
    simp [Leaves, settle, results, Tryd.results35, go_sem, e1, e2]
    exact ⟨hN, HE.out⟩

set_option maxHeartbeats 1600000 in
theorem nextRound1 (ao : Option Addr) (lb hb cap : Nat) (L : List K) (h : Hd) (a : Addr) (w : World) (hlc : w.cell? ⟨lb, 0, none⟩ = some (.slice ao L.length cap)) (hhc : HAt w hb 0 h) (hla0 : ∀ V : World, Below w.heap.size w V → Calls Tryd.prog 87 #[.slice ao L.length cap] V (Lc.LacePost L V)) (hk : H64 h) (hn : NoH w a) (he : HoldsE w 5) :
    Calls Tryd.prog 36 #[.pointer (some ⟨lb, 0, none⟩), .pointer (some ⟨hb, 0, none⟩)] w fun e w' => ((∃ r, e = .returned (.int .i64 r) ∧ r = nextRI L h) ∨ (Gives e ∧ nextRI L h = -1)) ∧ Below w.heap.size w w' := by
  obtain ⟨a0, a1, a2, a3⟩ := cellsH hhc
  have hro := rightOwner ao cap L h a w hla0 hk hn
  have HEO : Hid (HoldsE w 5) := he
  clear hla0 hn hhc he
  go_enter Tryd.func36, Tryd.ntmps36
  go_wp2_with fail
  refine hro.mono ?_
  clear hro a0 a1 a2 a3 hlc
  intro e w1 hp
  rcases hp with ⟨hl, g, rfl, hg1, hr1, hb1⟩ | ⟨hl, ⟨v, rfl⟩, hb1⟩
  · have HN : Hid (nextRI L h = nextI L h.has h.last) := if_pos hl
    have hnx := nextRound g L.length L h w1 (hand_is hk hl) (Nat.le_refl _) hr1 (HEO.out.below hb1)
    have HB1 : Hid (Below w.heap.size w w1) := hb1
    clear hl hr1 hg1 hb1 HEO
    go_wp2_with fail
    refine hnx.mono ?_
    clear hnx
    rintro e w2 ⟨hp, hb2⟩
    have HB2 : Hid (Below w.heap.size w w2) := HB1.out.trans (hb2.mono HB1.out.size)
    rcases hp with ⟨h0, rfl⟩ | ⟨h0, v, rfl⟩
    · go_wp2
      go_ret
      exact ⟨.inl ⟨_, rfl, HN.out.symm⟩, HB2.out⟩
    · go_wp2
      exact ⟨rfl, .inr ⟨⟨_, rfl⟩, HN.out.trans h0⟩, HB2.out⟩
  · have HN : Hid (nextRI L h = -1) := by show _ = _; unfold nextRI; rw [hl]; rfl
    go_wp2
    exact ⟨rfl, .inr ⟨⟨_, rfl⟩, HN.out⟩, hb1⟩

/-- the boxes of a face: a list and a hand -/
theorem boxes_new (w : World) (x : Value) (h : Hd) (t0 t1 : TypeId) : Below w.heap.size w ((w.alloc (.cells #[x] t0)).alloc (.cells #[.int .i64 h.who, .int .i64 h.has, .int .i64 h.kept, .int .i64 h.last] t1)) ∧ ((w.alloc (.cells #[x] t0)).alloc (.cells #[.int .i64 h.who, .int .i64 h.has, .int .i64 h.kept, .int .i64 h.last] t1)).cell? ⟨w.heap.size, 0, none⟩ = some x ∧ HAt ((w.alloc (.cells #[x] t0)).alloc (.cells #[.int .i64 h.who, .int .i64 h.has, .int .i64 h.kept, .int .i64 h.last] t1)) (w.heap.size + 1) 0 h := by
  have b1 : Below (w.alloc (.cells #[x] t0)).heap.size (w.alloc (.cells #[x] t0)) ((w.alloc (.cells #[x] t0)).alloc (.cells #[.int .i64 h.who, .int .i64 h.has, .int .i64 h.kept, .int .i64 h.last] t1)) := (Below.refl _ _).alloc (Nat.le_refl _) _
  have q := hat_new (w.alloc (.cells #[x] t0)) h t1
  rw [World.size_alloc] at q
  exact ⟨((Below.refl _ w).alloc (Nat.le_refl _) _).alloc (by simp) _, (b1.cell (p := ⟨w.heap.size, 0, none⟩) (by simp)).trans (by simp), q⟩

set_option maxHeartbeats 1600000 in
theorem implNextRoundA (ao : Option Addr) (cap : Nat) (L : List K) (h : Hd) (a : Addr) (w : World) (hla0 : ∀ V : World, Below w.heap.size w V → Calls Tryd.prog 87 #[.slice ao L.length cap] V (Lc.LacePost L V)) (hk : H64 h) (hn : NoH w a) (he : HoldsE w 5) :
    Calls Tryd.prog 18 #[.slice ao L.length cap, .agg #[.int .i64 h.who, .int .i64 h.has, .int .i64 h.kept, .int .i64 h.last]] w fun e w' => e = .returned (.int .i64 (nextRI L h)) ∧ Below w.heap.size w w' := by
  have hmf : ∀ (fn : Fn) (first cap : Array Value) (w : World), (Instr.makeFunc fn first cap).run Tryd.prog w = .ok (.func fn first cap) w := fun _ _ _ _ => rfl
  have P0 : Hid _ := boxes_new w (.slice ao L.length cap) h 29 26
  go_enter Tryd.func18, Tryd.ntmps18
  go_upto_region 1 with fail
  generalize (w.alloc (.cells #[.slice ao L.length cap] 29)).alloc (.cells #[.int .i64 h.who, .int .i64 h.has, .int .i64 h.kept, .int .i64 h.last] 26) = V at P0 ⊢
  have HB0 : Hid (Below w.heap.size w V) := P0.out.1
  have hlt : w.heap.size < V.heap.size := cell_lt P0.out.2.1
  have hor := orNoneI 36 (enters_of Tryd.func36 (by kernel_rfl) rfl) (.pointer (some ⟨w.heap.size, 0, none⟩)) (.pointer (some ⟨w.heap.size + 1, 0, none⟩)) (-1) (fun r => r = nextRI L h) (nextRI L h = -1) V (fun X hX => nextRound1 ao w.heap.size (w.heap.size + 1) cap L h a X ((hX.cell (p := ⟨w.heap.size, 0, none⟩) hlt).trans P0.out.2.1) (hat_below P0.out.2.2 hX) (fun Y hY => hla0 Y ((HB0.out.trans (hX.mono HB0.out.size)).trans (hY.mono (HB0.out.trans (hX.mono HB0.out.size)).size))) hk ((hn.below HB0.out).below hX) ((he.below HB0.out).below hX))
  clear P0 hla0 hn he
  go_wp2_with fail
  refine hor.mono ?_
  clear hor
  rintro e w1 ⟨hp, hb1⟩
  have HB1 : Hid (Below w.heap.size w w1) := HB0.out.trans (hb1.mono HB0.out.size)
  rcases hp with ⟨r, rfl, hr⟩ | ⟨rfl, hr⟩
  · have HR : Hid (r = nextRI L h) := hr
    clear hr
    go_wp2
    go_ret
    exact ⟨by rw [← HR.out]; rfl, HB1.out⟩
  · have HR : Hid (nextRI L h = -1) := hr
    clear hr
    go_wp2
    go_ret
    exact ⟨by rw [HR.out]; rfl, HB1.out⟩

theorem implNextRound (g off cap : Nat) (L : List K) (h : Hd) (a : Addr) (w : World) (hlen : L.length ≤ 1099511627776) (hw : WordsOk L) (hk : H64 h) (hr : RdK w (some ⟨g, off, none⟩) L) (hn : NoH w a) (he : HoldsE w 5) :
    Calls Tryd.prog 18 #[.slice (some ⟨g, off, none⟩) L.length cap, .agg #[.int .i64 h.who, .int .i64 h.has, .int .i64 h.kept, .int .i64 h.last]] w fun e w' => e = .returned (.int .i64 (nextRI L h)) ∧ Below w.heap.size w w' :=
  implNextRoundA _ cap L h a w (fun V hV => Lc.laceOf g off cap L V hlen hw (hr.below hV)) hk hn he

/-- what the asking for the next round wants of the listed errors -/
def STie1 (W : World) : Prop := NoHs W ∧ HoldsE W 5
theorem STie1.below {W V : World} (h : STie1 W) (hb : Below W.heap.size W V) : STie1 V := ⟨h.1.below hb, h.2.below hb⟩

end Rm
end Go.Proofs.YtapfmadnkaimeaaDoor

namespace Go.Proofs.YtapfmadnkaimeaaDoor
open Go.RowKit
set_option maxRecDepth 100000
set_option linter.unusedVariables false
namespace Rm
open Kn (K okK)
open Lc (at' RdK laceB WordsOk handsN roundS)
open Sg (bel belows closedTo orB)

set_option maxHeartbeats 800000 in
theorem catchO_panicking (p q r : Nat) (ao : Option Addr) (mm cc : Nat) (i1 i2 i3 i4 : Int) (m0 m1 m2 m3 m4 v2 : Value) (u : TypeId) (pv : Value) (older : List PanicEntry) (w : World) (hqr : q ≠ r) (hk : Ow w p (.slice ao mm cc) (.int .i64 i1) (.int .i64 i2) (.int .i64 i3) (.int .i64 i4)) (hz : Ow w q m0 m1 m2 m3 m4) (hr : w.cell? ⟨r, 0, none⟩ = some v2) (fr : w.frozen? ⟨r, 0, none⟩ = false) :
    CallsD Tryd.prog 80 #[.pointer (some ⟨p, 0, none⟩), .pointer (some ⟨q, 0, none⟩), .pointer (some ⟨r, 0, none⟩)] (.panicking ({ v := .iface u pv, recovered := false } :: older)) w fun e u' w' =>
      e = .returned (.tuple #[]) ∧ u' = .panicking ({ v := .iface u pv, recovered := true } :: older) ∧ w' = (((((w.setCell ⟨q, 0, none⟩ (.slice ao mm cc)).setCell ⟨q, 1, none⟩ (.int .i64 i1)).setCell ⟨q, 2, none⟩ (.int .i64 i2)).setCell ⟨q, 3, none⟩ (.int .i64 i3)).setCell ⟨q, 4, none⟩ (.int .i64 i4)).setCell ⟨r, 0, none⟩ (.bool false) := by
  obtain ⟨_, k0, k1, k2, k3, k4, _, _, _, _, _⟩ := hk
  obtain ⟨_, z0, z1, z2, z3, z4, f0, f1, f2, f3, f4⟩ := hz
  have hn : ∀ i : Nat, (⟨q, i, none⟩ : Addr) ≠ ⟨r, 0, none⟩ := fun i e => hqr (by injection e)
  have hr2 : (((((w.setCell ⟨q, 0, none⟩ (.slice ao mm cc)).setCell ⟨q, 1, none⟩ (.int .i64 i1)).setCell ⟨q, 2, none⟩ (.int .i64 i2)).setCell ⟨q, 3, none⟩ (.int .i64 i3)).setCell ⟨q, 4, none⟩ (.int .i64 i4)).cell? ⟨r, 0, none⟩ = some v2 := by
    rw [World.cell?_setCell_other _ _ _ _ (hn 4), World.cell?_setCell_other _ _ _ _ (hn 3), World.cell?_setCell_other _ _ _ _ (hn 2), World.cell?_setCell_other _ _ _ _ (hn 1), World.cell?_setCell_other _ _ _ _ (hn 0)]; exact hr
  refine callsD_of_wpS Tryd.func80 rfl fun c₀ cs hu => ?_
  apply wpS_seq
  apply wpS_region
  simp [wpOpsS, go_sem, recoverD, hu, Tryd.ntmps80, Exit.thenS]
  refine wpS_cond (t := true) (by simp [Act.eval, Array.replicate]) ?_
  simp only [if_true]
  apply wpS_region
  simp [wpOpsS, go_sem, k0, k1, k2, k3, k4, z0, z1, z2, z3, z4, f0, f1, f2, f3, f4, hr2, fr, bodyPostS, results, Tryd.results80]

theorem catchO_idle (p q r : Value) (w : World) :
    CallsD Tryd.prog 80 #[p, q, r] .returning w fun e u' w' => e = .returned (.tuple #[]) ∧ u' = .returning ∧ w' = w := by
  refine callsD_of_wpS Tryd.func80 rfl fun c₀ cs hu => ?_
  apply wpS_seq
  apply wpS_region
  simp [wpOpsS, go_sem, recoverD, hu, Tryd.ntmps80, Exit.thenS]
  refine wpS_cond (t := false) (by simp [Act.eval, Array.replicate]) ?_
  simp only [Bool.false_eq_true, if_false]
  refine wpS_of_wp (wp_skip ?_)
  cases c₀
  simp_all [bodyPostS, results, Tryd.results80]

/-- the three blocks of the face -/
structure TriO (w W : World) (ao : Option Addr) (mm cc : Nat) (i1 i2 i3 i4 : Int) : Prop where
  bel : Below w.heap.size w W
  kn : Ow W w.heap.size (.slice ao mm cc) (.int .i64 i1) (.int .i64 i2) (.int .i64 i3) (.int .i64 i4)
  ze : Ow W (w.heap.size + 1) (.slice none 0 0) (.int .i64 0) (.int .i64 0) (.int .i64 0) (.int .i64 0)
  c2 : W.cell? ⟨w.heap.size + 1 + 1, 0, none⟩ = some (.bool false)
  f2 : W.frozen? ⟨w.heap.size + 1 + 1, 0, none⟩ = false
theorem TriO.below {w W V : World} {ao : Option Addr} {mm cc : Nat} {i1 i2 i3 i4 : Int} (q : TriO w W ao mm cc i1 i2 i3 i4) (hb : Below W.heap.size W V) : TriO w V ao mm cc i1 i2 i3 i4 :=
  ⟨q.bel.trans (hb.mono q.bel.size), q.kn.below hb, q.ze.below hb, (hb.cell (p := ⟨w.heap.size + 1 + 1, 0, none⟩) (cell_lt q.c2)).trans q.c2, (hb.frozen (p := ⟨w.heap.size + 1 + 1, 0, none⟩) (cell_lt q.c2)).trans q.f2⟩
theorem triO_new (w : World) (ao : Option Addr) (mm cc : Nat) (i1 i2 i3 i4 : Int) (t0 t1 t2 : TypeId) : TriO w (((w.alloc (.cells #[(.slice ao mm cc), (.int .i64 i1), (.int .i64 i2), (.int .i64 i3), (.int .i64 i4)] t0)).alloc (.cells #[.slice none 0 0, .int .i64 0, .int .i64 0, .int .i64 0, .int .i64 0] t1)).alloc (.cells #[.bool false] t2)) ao mm cc i1 i2 i3 i4 := by
  have q1 := ow_new (w.alloc (.cells #[(.slice ao mm cc), (.int .i64 i1), (.int .i64 i2), (.int .i64 i3), (.int .i64 i4)] t0)) (.slice none 0 0) (.int .i64 0) (.int .i64 0) (.int .i64 0) (.int .i64 0) t1
  rw [World.size_alloc] at q1
  have b1 : Below (w.alloc (.cells #[(.slice ao mm cc), (.int .i64 i1), (.int .i64 i2), (.int .i64 i3), (.int .i64 i4)] t0)).heap.size (w.alloc (.cells #[(.slice ao mm cc), (.int .i64 i1), (.int .i64 i2), (.int .i64 i3), (.int .i64 i4)] t0)) (((w.alloc (.cells #[(.slice ao mm cc), (.int .i64 i1), (.int .i64 i2), (.int .i64 i3), (.int .i64 i4)] t0)).alloc (.cells #[.slice none 0 0, .int .i64 0, .int .i64 0, .int .i64 0, .int .i64 0] t1)).alloc (.cells #[.bool false] t2)) := ((Below.refl _ _).alloc (Nat.le_refl _) _).alloc (by simp) _
  have b2 : Below ((w.alloc (.cells #[(.slice ao mm cc), (.int .i64 i1), (.int .i64 i2), (.int .i64 i3), (.int .i64 i4)] t0)).alloc (.cells #[.slice none 0 0, .int .i64 0, .int .i64 0, .int .i64 0, .int .i64 0] t1)).heap.size ((w.alloc (.cells #[(.slice ao mm cc), (.int .i64 i1), (.int .i64 i2), (.int .i64 i3), (.int .i64 i4)] t0)).alloc (.cells #[.slice none 0 0, .int .i64 0, .int .i64 0, .int .i64 0, .int .i64 0] t1)) (((w.alloc (.cells #[(.slice ao mm cc), (.int .i64 i1), (.int .i64 i2), (.int .i64 i3), (.int .i64 i4)] t0)).alloc (.cells #[.slice none 0 0, .int .i64 0, .int .i64 0, .int .i64 0, .int .i64 0] t1)).alloc (.cells #[.bool false] t2)) := (Below.refl _ _).alloc (Nat.le_refl _) _
  have e2 : (((w.alloc (.cells #[(.slice ao mm cc), (.int .i64 i1), (.int .i64 i2), (.int .i64 i3), (.int .i64 i4)] t0)).alloc (.cells #[.slice none 0 0, .int .i64 0, .int .i64 0, .int .i64 0, .int .i64 0] t1)).alloc (.cells #[.bool false] t2)).cell? ⟨((w.alloc (.cells #[(.slice ao mm cc), (.int .i64 i1), (.int .i64 i2), (.int .i64 i3), (.int .i64 i4)] t0)).alloc (.cells #[.slice none 0 0, .int .i64 0, .int .i64 0, .int .i64 0, .int .i64 0] t1)).heap.size, 0, none⟩ = some (.bool false) := by simp [-World.size_alloc]
  have g2 : (((w.alloc (.cells #[(.slice ao mm cc), (.int .i64 i1), (.int .i64 i2), (.int .i64 i3), (.int .i64 i4)] t0)).alloc (.cells #[.slice none 0 0, .int .i64 0, .int .i64 0, .int .i64 0, .int .i64 0] t1)).alloc (.cells #[.bool false] t2)).frozen? ⟨((w.alloc (.cells #[(.slice ao mm cc), (.int .i64 i1), (.int .i64 i2), (.int .i64 i3), (.int .i64 i4)] t0)).alloc (.cells #[.slice none 0 0, .int .i64 0, .int .i64 0, .int .i64 0, .int .i64 0] t1)).heap.size, 0, none⟩ = false := by simp [-World.size_alloc]
  rw [World.size_alloc, World.size_alloc] at e2 g2
  exact ⟨(((Below.refl _ w).alloc (Nat.le_refl _) _).alloc (by simp) _).alloc (by simp; omega) _, (ow_new w (.slice ao mm cc) (.int .i64 i1) (.int .i64 i2) (.int .i64 i3) (.int .i64 i4) t0).below b1, q1.below b2, e2, g2⟩
theorem rdk_bool {W : World} {g b i : Nat} {L : List K} {x : Bool} (h : RdK W (some ⟨g, 0, none⟩) L) (hx : W.cell? ⟨b, 0, none⟩ = some (.bool x)) (u : Value) : RdK (W.setCell ⟨b, i, none⟩ u) (some ⟨g, 0, none⟩) L := by
  rcases h with h | ⟨g', off, ha, hg, hk⟩
  · exact .inl h
  · by_cases hl : L.length = 0
    · exact .inl (List.length_eq_zero_iff.1 hl)
    injection ha with ha
    injection ha with h1 h2
    subst h1 h2
    have hgb : g ≠ b := by
      rintro rfl
      have q := (hk 0 (by omega)).c0
      rw [show 0 + 0 * 4 = 0 from rfl, hx] at q
      cases q
    have hc : ∀ j : Nat, (W.setCell ⟨b, i, none⟩ u).cell? ⟨g, j, none⟩ = W.cell? ⟨g, j, none⟩ := fun j => World.cell?_setCell_other _ _ _ _ (fun e => hgb (by injection e with e; exact e.symm))
    exact .inr ⟨g, 0, rfl, by simpa using hg, fun i hi => ⟨(hc _).trans (hk i hi).c0, (hc _).trans (hk i hi).c1, (hc _).trans (hk i hi).c2, (hc _).trans (hk i hi).c3⟩⟩

set_option maxHeartbeats 3200000 in
theorem orNoneO (fid : Nat) (eg : ∀ (args : Array Value) (w : World), (callFunc fid args).run Tryd.prog w = .ok (.enter fid args) w) (c0 c1 : Value) (ao : Option Addr) (mm cc : Nat) (i1 i2 i3 i4 : Int) (R : List K → Hd → Prop) (N : Prop) (w : World)
    (hask : ∀ V : World, Below w.heap.size w V → Calls Tryd.prog fid #[c0, c1] V fun e V' => ((∃ (g : Nat) (T : List K) (h2 : Hd), e = .returned (.agg #[.slice (some ⟨g, 0, none⟩) T.length T.length, .int .i64 h2.who, .int .i64 h2.has, .int .i64 h2.kept, .int .i64 h2.last]) ∧ g < V'.heap.size ∧ RdK V' (some ⟨g, 0, none⟩) T ∧ R T h2) ∨ (Gives e ∧ N)) ∧ Below V.heap.size V V') :
    Calls Tryd.prog 46 #[.agg #[(.slice ao mm cc), (.int .i64 i1), (.int .i64 i2), (.int .i64 i3), (.int .i64 i4)], .func (.func fid) #[] #[c0, c1]] w fun e w' => ((∃ g T h2, e = .returned (.tuple #[.agg #[.slice (some ⟨g, 0, none⟩) T.length T.length, .int .i64 h2.who, .int .i64 h2.has, .int .i64 h2.kept, .int .i64 h2.last], .bool true]) ∧ g < w'.heap.size ∧ RdK w' (some ⟨g, 0, none⟩) T ∧ R T h2) ∨ (e = .returned (.tuple #[.agg #[(.slice ao mm cc), (.int .i64 i1), (.int .i64 i2), (.int .i64 i3), (.int .i64 i4)], .bool false]) ∧ N)) ∧ Below w.heap.size w w' := by
  have hmf : ∀ (fn : Fn) (first cap : Array Value) (w : World), (Instr.makeFunc fn first cap).run Tryd.prog w = .ok (.func fn first cap) w := fun _ _ _ _ => rfl
  have P0 : Hid (TriO w (((w.alloc (.cells #[(.slice ao mm cc), (.int .i64 i1), (.int .i64 i2), (.int .i64 i3), (.int .i64 i4)] 62)).alloc (.cells #[.slice none 0 0, .int .i64 0, .int .i64 0, .int .i64 0, .int .i64 0] 62)).alloc (.cells #[.bool false] 4)) ao mm cc i1 i2 i3 i4) := triO_new w _ _ _ _ _ _ _ _ _ _
  have HA : Hid (∀ V : World, Below w.heap.size w V → Calls Tryd.prog fid #[c0, c1] V fun e V' => ((∃ (g : Nat) (T : List K) (h2 : Hd), e = .returned (.agg #[.slice (some ⟨g, 0, none⟩) T.length T.length, .int .i64 h2.who, .int .i64 h2.has, .int .i64 h2.kept, .int .i64 h2.last]) ∧ g < V'.heap.size ∧ RdK V' (some ⟨g, 0, none⟩) T ∧ R T h2) ∨ (Gives e ∧ N)) ∧ Below V.heap.size V V') := hask
  clear hask
  go_enter_defers Tryd.func46, Tryd.ntmps46
  go_upto_region 2 with fail
  generalize ((w.alloc (.cells #[(.slice ao mm cc), (.int .i64 i1), (.int .i64 i2), (.int .i64 i3), (.int .i64 i4)] 62)).alloc (.cells #[.slice none 0 0, .int .i64 0, .int .i64 0, .int .i64 0, .int .i64 0] 62)).alloc (.cells #[.bool false] 4) = V at P0 ⊢
  have hak := HA.out V P0.out.bel
  go_wp2_with fail
  refine hak.mono ?_
  clear hak
  rintro e w1 ⟨hp, hb1⟩
  have P1 : Hid (TriO w w1 ao mm cc i1 i2 i3 i4) := P0.out.below hb1
  have d2 := P1.out.c2
  have f2 := P1.out.f2
  obtain ⟨_, z0, z1, z2, z3, z4, g0, g1, g2, g3, g4⟩ := P1.out.ze
  clear P0 hb1
  rcases hp with ⟨g, T, h2, rfl, hg, hr, hR⟩ | ⟨⟨v, rfl⟩, hN⟩
  · have HRR : Hid (R T h2) := hR
    have HRK : Hid (g < w1.heap.size ∧ RdK w1 (some ⟨g, 0, none⟩) T) := ⟨hg, hr⟩
    clear hR hr hg
    obtain ⟨WW, hW, hOW, hBW, hsW, hcW⟩ := P1.out.ze.put (.slice (some ⟨g, 0, none⟩) T.length T.length) (.int .i64 h2.who) (.int .i64 h2.has) (.int .i64 h2.kept) (.int .i64 h2.last)
    have HW : Hid (WW = (((((w1.setCell ⟨w.heap.size + 1, 0, none⟩ (.slice (some ⟨g, 0, none⟩) T.length T.length)).setCell ⟨w.heap.size + 1, 1, none⟩ (.int .i64 h2.who)).setCell ⟨w.heap.size + 1, 2, none⟩ (.int .i64 h2.has)).setCell ⟨w.heap.size + 1, 3, none⟩ (.int .i64 h2.kept)).setCell ⟨w.heap.size + 1, 4, none⟩ (.int .i64 h2.last))) := hW
    have d3 : WW.cell? ⟨w.heap.size + 1 + 1, 0, none⟩ = some (.bool false) := (hcW _ (by simp)).trans d2
    have HWF : Hid (WW.frozen? ⟨w.heap.size + 1 + 1, 0, none⟩ = false) := by show _ = _; rw [hW]; simp only [World.frozen?_setCell]; exact f2
    have hOX := hOW.other (c := w.heap.size + 1 + 1) (by omega) 0 (.bool true)
    have m5 : (WW.setCell ⟨w.heap.size + 1 + 1, 0, none⟩ (.bool true)).cell? ⟨w.heap.size + 1 + 1, 0, none⟩ = some (.bool true) := World.cell?_setCell_same _ _ _ d3
    have HE : Hid (g < (WW.setCell ⟨w.heap.size + 1 + 1, 0, none⟩ (.bool true)).heap.size ∧ RdK (WW.setCell ⟨w.heap.size + 1 + 1, 0, none⟩ (.bool true)) (some ⟨g, 0, none⟩) T ∧ Below w.heap.size w (WW.setCell ⟨w.heap.size + 1 + 1, 0, none⟩ (.bool true))) := ⟨by simp [hsW]; exact HRK.out.1, rdk_bool (rdk_other HRK.out.2 hcW hsW z0) d3 _, (hBW _ _ P1.out.bel (by omega)).setCell (p := ⟨w.heap.size + 1 + 1, 0, none⟩) (by simp; omega) _⟩
    obtain ⟨_, m0, m1, m2, m3, m4, _, _, _, _, _⟩ := hOX
    have d3' := d3
    have f3' := HWF.out
    rw [HW.out] at d3' f3'
    clear hW hBW hsW hcW hOW d3 HWF P1 HRK HA
    go_wp2
    refine leaves_cons (f := 80) (args := #[.pointer (some ⟨w.heap.size, 0, none⟩), .pointer (some ⟨w.heap.size + 1, 0, none⟩), .pointer (some ⟨w.heap.size + 1 + 1, 0, none⟩)]) (by simp) (by simp [go_sem]) ?_
    refine (catchO_idle _ _ _ _).mono ?_
    rintro e u' w'' ⟨rfl, rfl, rfl⟩
    rw [← HW.out]
    generalize WW.setCell ⟨w.heap.size + 1 + 1, 0, none⟩ (.bool true) = W2 at m0 m1 m2 m3 m4 m5 HE ⊢
    simp [Leaves, settle, results, Tryd.results46, go_sem, m0, m1, m2, m3, m4, m5]
    refine ⟨⟨g, T, h2, ?_⟩, HE.out.2.2⟩
    exact ⟨⟨⟨rfl, rfl⟩, rfl, rfl, rfl, rfl⟩, HE.out.1, HE.out.2.1, HRR.out⟩
  · have HNN : Hid N := hN
    clear hN
    obtain ⟨WW, hW, hOW, hBW, hsW, hcW⟩ := P1.out.ze.put (.slice ao mm cc) (.int .i64 i1) (.int .i64 i2) (.int .i64 i3) (.int .i64 i4)
    have HW : Hid (WW = (((((w1.setCell ⟨w.heap.size + 1, 0, none⟩ (.slice ao mm cc)).setCell ⟨w.heap.size + 1, 1, none⟩ (.int .i64 i1)).setCell ⟨w.heap.size + 1, 2, none⟩ (.int .i64 i2)).setCell ⟨w.heap.size + 1, 3, none⟩ (.int .i64 i3)).setCell ⟨w.heap.size + 1, 4, none⟩ (.int .i64 i4))) := hW
    have d3 : WW.cell? ⟨w.heap.size + 1 + 1, 0, none⟩ = some (.bool false) := (hcW _ (by simp)).trans d2
    have hOX := hOW.other (c := w.heap.size + 1 + 1) (by omega) 0 (.bool false)
    have m5 : (WW.setCell ⟨w.heap.size + 1 + 1, 0, none⟩ (.bool false)).cell? ⟨w.heap.size + 1 + 1, 0, none⟩ = some (.bool false) := World.cell?_setCell_same _ _ _ d3
    have HE : Hid (Below w.heap.size w (WW.setCell ⟨w.heap.size + 1 + 1, 0, none⟩ (.bool false))) := (hBW _ _ P1.out.bel (by omega)).setCell (p := ⟨w.heap.size + 1 + 1, 0, none⟩) (by simp; omega) _
    obtain ⟨_, m0, m1, m2, m3, m4, _, _, _, _, _⟩ := hOX
    clear hW hBW hsW hcW hOW d3 HA
    go_wp2
    refine leaves_cons (f := 80) (args := #[.pointer (some ⟨w.heap.size, 0, none⟩), .pointer (some ⟨w.heap.size + 1, 0, none⟩), .pointer (some ⟨w.heap.size + 1 + 1, 0, none⟩)]) (by simp) (by simp [go_sem]) ?_
    refine (catchO_panicking _ _ _ ao mm cc i1 i2 i3 i4 _ _ _ _ _ _ _ v [] w1 (by omega) P1.out.kn P1.out.ze d2 f2).mono ?_
    rintro e u' w'' ⟨rfl, rfl, rfl⟩
    rw [← HW.out]
    generalize WW.setCell ⟨w.heap.size + 1 + 1, 0, none⟩ (.bool false) = W2 at m0 m1 m2 m3 m4 m5 HE ⊢
    simp [Leaves, settle, results, Tryd.results46, go_sem, m0, m1, m2, m3, m4, m5]
    exact ⟨HNN.out, HE.out⟩

set_option maxHeartbeats 1600000 in
theorem ties1 (ao : Option Addr) (lb hb cap : Nat) (L : List K) (h : Hd) (a : Addr) (w : World) (hlc : w.cell? ⟨lb, 0, none⟩ = some (.slice ao L.length cap)) (hhc : HAt w hb 0 h) (hla0 : ∀ V : World, Below w.heap.size w V → Calls Tryd.prog 87 #[.slice ao L.length cap] V (Lc.LacePost L V)) (hk : H64 h) (hn : NoH w a) :
    Calls Tryd.prog 47 #[.pointer (some ⟨lb, 0, none⟩), .pointer (some ⟨hb, 0, none⟩)] w fun e w' => ((∃ (g : Nat) (T : List K) (h2 : Hd), e = .returned (.agg #[.slice (some ⟨g, 0, none⟩) T.length T.length, .int .i64 h2.who, .int .i64 h2.has, .int .i64 h2.kept, .int .i64 h2.last]) ∧ g < w'.heap.size ∧ RdK w' (some ⟨g, 0, none⟩) T ∧ (handOkB L h = true ∧ T = L ∧ h2 = h)) ∨ (Gives e ∧ handOkB L h = false)) ∧ Below w.heap.size w w' := by
  have P0 : Hid (Below w.heap.size w (w.alloc (.cells #[.slice none 0 0, .int .i64 0, .int .i64 0, .int .i64 0, .int .i64 0] 62)) ∧ Ow (w.alloc (.cells #[.slice none 0 0, .int .i64 0, .int .i64 0, .int .i64 0, .int .i64 0] 62)) w.heap.size (.slice none 0 0) (.int .i64 0) (.int .i64 0) (.int .i64 0) (.int .i64 0)) := ⟨(Below.refl _ w).alloc (Nat.le_refl _) _, ow_new w _ _ _ _ _ _⟩
  have HLA : Hid (∀ V : World, Below w.heap.size w V → Calls Tryd.prog 87 #[.slice ao L.length cap] V (Lc.LacePost L V)) := hla0
  have HCC : Hid (w.cell? ⟨lb, 0, none⟩ = some (.slice ao L.length cap) ∧ HAt w hb 0 h ∧ NoH w a) := ⟨hlc, hhc, hn⟩
  clear hla0 hlc hhc hn
  go_enter Tryd.func47, Tryd.ntmps47
  go_upto_region 1 with fail
  generalize w.alloc (.cells #[.slice none 0 0, .int .i64 0, .int .i64 0, .int .i64 0, .int .i64 0] 62) = V at P0 ⊢
  have HB0 : Hid (Below w.heap.size w V) := P0.out.1
  have HZ0 : Hid (Ow V w.heap.size (.slice none 0 0) (.int .i64 0) (.int .i64 0) (.int .i64 0) (.int .i64 0)) := P0.out.2
  clear P0
  have hVl : V.cell? ⟨lb, 0, none⟩ = some (.slice ao L.length cap) := (HB0.out.cell (p := ⟨lb, 0, none⟩) (cell_lt HCC.out.1)).trans HCC.out.1
  obtain ⟨a0, a1, a2, a3⟩ := cellsH (hat_below HCC.out.2.1 HB0.out)
  have hro := rightOwner ao cap L h a V (fun X hX => HLA.out X (HB0.out.trans (hX.mono HB0.out.size))) hk (HCC.out.2.2.below HB0.out)
  clear HLA HCC
  go_wp2_with fail
  refine hro.mono ?_
  clear hro a0 a1 a2 a3 hVl
  intro e w1 hp
  rcases hp with ⟨hl, g, rfl, hg1, hr1, hb1⟩ | ⟨hl, ⟨v, rfl⟩, hb1⟩
  · have HL : Hid (handOkB L h = true) := hl
    have HZ1 : Hid (Ow w1 w.heap.size (.slice none 0 0) (.int .i64 0) (.int .i64 0) (.int .i64 0) (.int .i64 0)) := HZ0.out.below hb1
    have HB1 : Hid (Below w.heap.size w w1) := HB0.out.trans (hb1.mono HB0.out.size)
    have HRK : Hid (g < w1.heap.size ∧ RdK w1 (some ⟨g, 0, none⟩) L) := ⟨hg1, hr1⟩
    clear hl hg1 hr1 hb1 HZ0 HB0
    obtain ⟨_, z0, z1, z2, z3, z4, f0, f1, f2, f3, f4⟩ := HZ1.out
    obtain ⟨WW, hW, hOW, hBW, hsW, hcW⟩ := HZ1.out.put (.slice (some ⟨g, 0, none⟩) L.length L.length) (.int .i64 h.who) (.int .i64 h.has) (.int .i64 h.kept) (.int .i64 h.last)
    have HW : Hid (WW = _) := hW
    have HE : Hid (g < WW.heap.size ∧ RdK WW (some ⟨g, 0, none⟩) L ∧ Below w.heap.size w WW) := ⟨by rw [hsW]; exact HRK.out.1, rdk_other HRK.out.2 hcW hsW z0, hBW _ _ HB1.out (Nat.le_refl _)⟩
    obtain ⟨_, y0, y1, y2, y3, y4, _, _, _, _, _⟩ := hOW
    clear hW hBW hsW hcW HZ1 HB1 HRK
    go_wp2
    rw [← HW.out]
    refine bodyPost_ret (v := .agg #[.slice (some ⟨g, 0, none⟩) L.length L.length, .int .i64 h.who, .int .i64 h.has, .int .i64 h.kept, .int .i64 h.last]) (by simp [results, Tryd.f47, go_sem, y0, y1, y2, y3, y4]) rfl ?_
    exact ⟨.inl ⟨g, L, h, rfl, HE.out.1, HE.out.2.1, HL.out, rfl, rfl⟩, HE.out.2.2⟩
  · have HL : Hid (handOkB L h = false) := hl
    have HB1 : Hid (Below w.heap.size w w1) := HB0.out.trans (hb1.mono HB0.out.size)
    clear hl
    go_wp2
    exact ⟨rfl, .inr ⟨⟨_, rfl⟩, HL.out⟩, HB1.out⟩

set_option maxHeartbeats 1600000 in
theorem ties2 (g ob wb : Nat) (L : List K) (h : Hd) (word : ByteArray) (w : World) (hob : Ow w ob (.slice (some ⟨g, 0, none⟩) L.length L.length) (.int .i64 h.who) (.int .i64 h.has) (.int .i64 h.kept) (.int .i64 h.last)) (hwc : w.cell? ⟨wb, 0, none⟩ = some (.string word)) (hi : HandIs L h) (hws : word.size ≤ 1099511627776) (hg : g < w.heap.size) (hr : RdK w (some ⟨g, 0, none⟩) L) (he : HoldsE w 5) (hf : HoldsE w 6) (hu : HoldsE w 7) :
    Calls Tryd.prog 48 #[.pointer (some ⟨ob, 0, none⟩), .pointer (some ⟨wb, 0, none⟩)] w fun e w' => ((∃ (g : Nat) (T : List K) (h2 : Hd), e = .returned (.agg #[.slice (some ⟨g, 0, none⟩) T.length T.length, .int .i64 h2.who, .int .i64 h2.has, .int .i64 h2.kept, .int .i64 h2.last]) ∧ g < w'.heap.size ∧ RdK w' (some ⟨g, 0, none⟩) T ∧ (tieB L h word = true ∧ T = L ++ [tieK L h word] ∧ h2 = ⟨h.who, orB h.has (2 ^ L.length), orB h.has (2 ^ L.length), (L.length : Int)⟩)) ∨ (Gives e ∧ tieB L h word = false)) ∧ Below w.heap.size w w' := by
  have P0 : Hid (Below w.heap.size w (w.alloc (.cells #[.slice none 0 0, .int .i64 0, .int .i64 0, .int .i64 0, .int .i64 0] 62)) ∧ Ow (w.alloc (.cells #[.slice none 0 0, .int .i64 0, .int .i64 0, .int .i64 0, .int .i64 0] 62)) w.heap.size (.slice none 0 0) (.int .i64 0) (.int .i64 0) (.int .i64 0) (.int .i64 0)) := ⟨(Below.refl _ w).alloc (Nat.le_refl _) _, ow_new w _ _ _ _ _ _⟩
  have HCC : Hid (Ow w ob (.slice (some ⟨g, 0, none⟩) L.length L.length) (.int .i64 h.who) (.int .i64 h.has) (.int .i64 h.kept) (.int .i64 h.last) ∧ w.cell? ⟨wb, 0, none⟩ = some (.string word)) := ⟨hob, hwc⟩
  clear hob hwc
  go_enter Tryd.func48, Tryd.ntmps48
  go_upto_region 1 with fail
  generalize w.alloc (.cells #[.slice none 0 0, .int .i64 0, .int .i64 0, .int .i64 0, .int .i64 0] 62) = V at P0 ⊢
  have HB0 : Hid (Below w.heap.size w V) := P0.out.1
  have HZ0 : Hid (Ow V w.heap.size (.slice none 0 0) (.int .i64 0) (.int .i64 0) (.int .i64 0) (.int .i64 0)) := P0.out.2
  clear P0
  have hVw : V.cell? ⟨wb, 0, none⟩ = some (.string word) := (HB0.out.cell (p := ⟨wb, 0, none⟩) (cell_lt HCC.out.2)).trans HCC.out.2
  obtain ⟨_, x0, x1, x2, x3, x4, _, _, _, _, _⟩ := HCC.out.1.below HB0.out
  have hti := ties g L.length L h word V hi (Nat.le_refl _) hws (Nat.lt_of_lt_of_le hg HB0.out.size) (hr.below HB0.out) (he.below HB0.out) (hf.below HB0.out) (hu.below HB0.out)
  clear HCC hr he hf hu
  go_wp2_with fail
  refine hti.mono ?_
  clear hti x0 x1 x2 x3 x4 hVw
  rintro e w1 ⟨hp, hb1⟩
  have HB1 : Hid (Below w.heap.size w w1) := HB0.out.trans (hb1.mono HB0.out.size)
  have HZ1 : Hid (Ow w1 w.heap.size (.slice none 0 0) (.int .i64 0) (.int .i64 0) (.int .i64 0) (.int .i64 0)) := HZ0.out.below hb1
  clear HB0 HZ0 hb1
  rcases hp with ⟨hl, hlt, gt, rfl, hg1, hr1⟩ | ⟨hl, v, rfl⟩
  · have HL : Hid (tieB L h word = true) := hl
    have HRK : Hid (gt < w1.heap.size ∧ RdK w1 (some ⟨gt, 0, none⟩) (L ++ [tieK L h word])) := ⟨hg1, hr1⟩
    clear hl hg1 hr1 hlt
    have HT : Hid (∃ T, T = L ++ [tieK L h word]) := ⟨_, rfl⟩
    generalize hTT : L ++ [tieK L h word] = T at HRK ⊢
    generalize hNH : orB h.has (2 ^ L.length) = nh
    have HTT : Hid (L ++ [tieK L h word] = T ∧ orB h.has (2 ^ L.length) = nh) := ⟨hTT, hNH⟩
    clear hTT hNH HT
    obtain ⟨_, z0, z1, z2, z3, z4, f0, f1, f2, f3, f4⟩ := HZ1.out
    obtain ⟨WW, hW, hOW, hBW, hsW, hcW⟩ := HZ1.out.put (.slice (some ⟨gt, 0, none⟩) T.length T.length) (.int .i64 h.who) (.int .i64 nh) (.int .i64 nh) (.int .i64 (L.length : Int))
    have HW : Hid (WW = _) := hW
    have HE : Hid (gt < WW.heap.size ∧ RdK WW (some ⟨gt, 0, none⟩) T ∧ Below w.heap.size w WW) := ⟨by rw [hsW]; exact HRK.out.1, rdk_other HRK.out.2 hcW hsW z0, hBW _ _ HB1.out (Nat.le_refl _)⟩
    obtain ⟨_, y0, y1, y2, y3, y4, _, _, _, _, _⟩ := hOW
    clear hW hBW hsW hcW HZ1 HB1 HRK
    go_wp2
    rw [← HW.out]
    refine bodyPost_ret (v := .agg #[.slice (some ⟨gt, 0, none⟩) T.length T.length, .int .i64 h.who, .int .i64 nh, .int .i64 nh, .int .i64 (L.length : Int)]) (by simp [results, Tryd.f48, go_sem, y0, y1, y2, y3, y4]) rfl ?_
    exact ⟨.inl ⟨gt, T, ⟨h.who, nh, nh, (L.length : Int)⟩, rfl, HE.out.1, HE.out.2.1, HL.out, HTT.out.1.symm, by rw [HTT.out.2]⟩, HE.out.2.2⟩
  · have HL : Hid (tieB L h word = false) := hl
    clear hl
    go_wp2
    exact ⟨rfl, .inr ⟨⟨_, rfl⟩, HL.out⟩, HB1.out⟩

/-- what the tying wants of the listed errors -/
def STie3 (W : World) : Prop := (STie1 W ∧ HoldsE W 6) ∧ HoldsE W 7
theorem STie3.below {W V : World} (h : STie3 W) (hb : Below W.heap.size W V) : STie3 V := ⟨⟨h.1.1.below hb, h.1.2.below hb⟩, h.2.below hb⟩

end Rm
end Go.Proofs.YtapfmadnkaimeaaDoor

namespace Go.Proofs.YtapfmadnkaimeaaDoor
open Go.RowKit
set_option maxRecDepth 100000
set_option linter.unusedVariables false
namespace Rm
open Kn (K okK)
open Lc (at' RdK laceB WordsOk handsN roundS)
open Sg (bel belows closedTo orB)

/-- how Ties ends: the lace in a block of its own -/
def TiesMade (L : List K) (h : Hd) (word : ByteArray) (w : World) (e : Ending) (w' : World) : Prop :=
  ∃ g, e = .returned (.tuple #[.slice (some ⟨g, 0, none⟩) (tiesL L h word).length (tiesL L h word).length, .agg #[.int .i64 (tiesH L h word).who, .int .i64 (tiesH L h word).has, .int .i64 (tiesH L h word).kept, .int .i64 (tiesH L h word).last], .bool (tiesB L h word)]) ∧ w.heap.size ≤ g ∧ Lc.Made w' g (tiesL L h word).length (tiesL L h word) (tiesL L h word).length ∧ Below w.heap.size w w'

/-- the boxes of a face: a list, a hand and a text, and the answer's hand -/
theorem boxesT_new (w : World) (x y : Value) (h : Hd) (t0 t1 t2 t3 : TypeId) : ∃ V, V = (((w.alloc (.cells #[x] t0)).alloc (.cells #[.int .i64 h.who, .int .i64 h.has, .int .i64 h.kept, .int .i64 h.last] t1)).alloc (.cells #[y] t2)).alloc (.cells #[.int .i64 0, .int .i64 0, .int .i64 0, .int .i64 0] t3) ∧ Below w.heap.size w V ∧ V.cell? ⟨w.heap.size, 0, none⟩ = some x ∧ HAt V (w.heap.size + 1) 0 h ∧ V.cell? ⟨w.heap.size + 1 + 1, 0, none⟩ = some y ∧ HAt V (w.heap.size + 1 + 1 + 1) 0 ⟨0, 0, 0, 0⟩ := by
  refine ⟨_, rfl, ?_⟩
  obtain ⟨b0, c0, h0⟩ := boxes_new w x h t0 t1
  have hs : ((w.alloc (.cells #[x] t0)).alloc (.cells #[.int .i64 h.who, .int .i64 h.has, .int .i64 h.kept, .int .i64 h.last] t1)).heap.size = w.heap.size + 1 + 1 := by simp
  generalize (w.alloc (.cells #[x] t0)).alloc (.cells #[.int .i64 h.who, .int .i64 h.has, .int .i64 h.kept, .int .i64 h.last] t1) = W at b0 c0 h0 hs ⊢
  have b1 : Below W.heap.size W ((W.alloc (.cells #[y] t2)).alloc (.cells #[.int .i64 0, .int .i64 0, .int .i64 0, .int .i64 0] t3)) := ((Below.refl _ _).alloc (Nat.le_refl _) _).alloc (by simp) _
  have b2 : Below (W.alloc (.cells #[y] t2)).heap.size (W.alloc (.cells #[y] t2)) ((W.alloc (.cells #[y] t2)).alloc (.cells #[.int .i64 0, .int .i64 0, .int .i64 0, .int .i64 0] t3)) := (Below.refl _ _).alloc (Nat.le_refl _) _
  have e1 : (W.alloc (.cells #[y] t2)).cell? ⟨W.heap.size, 0, none⟩ = some y := by simp
  have q := hat_new (W.alloc (.cells #[y] t2)) ⟨0, 0, 0, 0⟩ t3
  rw [World.size_alloc, hs] at q
  have e2 := (b2.cell (p := ⟨W.heap.size, 0, none⟩) (by simp)).trans e1
  rw [hs] at e2
  exact ⟨b0.trans (b1.mono b0.size), (b1.cell (p := ⟨w.heap.size, 0, none⟩) (cell_lt c0)).trans c0, hat_below h0 b1, e2, q⟩
theorem made_nil (W : World) (b : Nat) (hb : b < W.heap.size) : Lc.Made W b 0 [] 0 := ⟨hb, fun i hi => by omega, fun i hi => by omega, fun i hi => by omega⟩
theorem made_set {W : World} {b n c i : Nat} {L : List K} {j : Nat} (x : Lc.Made W b n L j) (hne : b ≠ c) (u : Value) : Lc.Made (W.setCell ⟨c, i, none⟩ u) b n L j := by
  have hn : ∀ j : Nat, (⟨c, i, none⟩ : Addr) ≠ ⟨b, j, none⟩ := fun j e => hne (by injection e with e; exact e.symm)
  have hc : ∀ j : Nat, (W.setCell ⟨c, i, none⟩ u).cell? ⟨b, j, none⟩ = W.cell? ⟨b, j, none⟩ := fun j => World.cell?_setCell_other _ _ _ _ (hn j)
  exact ⟨by simpa using x.lt, fun i hi => ⟨(hc _).trans (x.rd i hi).c0, (hc _).trans (x.rd i hi).c1, (hc _).trans (x.rd i hi).c2, (hc _).trans (x.rd i hi).c3⟩, fun i hi => (x.ex i hi).elim fun v q => ⟨v, (hc _).trans q⟩, fun i hi => by rw [World.frozen?_setCell]; exact x.fr i hi⟩

set_option maxHeartbeats 6400000 in
theorem implTiesA (ao : Option Addr) (cap : Nat) (L : List K) (h : Hd) (word : ByteArray) (a : Addr) (w : World) (hla0 : ∀ V : World, Below w.heap.size w V → Calls Tryd.prog 87 #[.slice ao L.length cap] V (Lc.LacePost L V)) (hk : H64 h) (hws : word.size ≤ 1099511627776) (hn : NoH w a) (he : HoldsE w 5) (hf : HoldsE w 6) (hu : HoldsE w 7) :
    Calls Tryd.prog 23 #[.slice ao L.length cap, .agg #[.int .i64 h.who, .int .i64 h.has, .int .i64 h.kept, .int .i64 h.last], .string word] w (TiesMade L h word w) := by
  have hmf : ∀ (fn : Fn) (first cap : Array Value) (w : World), (Instr.makeFunc fn first cap).run Tryd.prog w = .ok (.func fn first cap) w := fun _ _ _ _ => rfl
  obtain ⟨V, hV, P0⟩ := boxesT_new w (.slice ao L.length cap) (.string word) h 29 26 9 26
  have HV : Hid (V = _) := hV
  clear hV
  have HB0 : Hid (Below w.heap.size w V) := P0.1
  have HZ0 : Hid (HAt V (w.heap.size + 1 + 1 + 1) 0 ⟨0, 0, 0, 0⟩) := P0.2.2.2.2
  have HWC : Hid (V.cell? ⟨w.heap.size + 1 + 1, 0, none⟩ = some (.string word)) := P0.2.2.2.1
  have HSS : Hid (HoldsE w 5 ∧ HoldsE w 6 ∧ HoldsE w 7) := ⟨he, hf, hu⟩
  have HO1 : Hid (Calls Tryd.prog 46 #[.agg #[.slice none 0 0, .int .i64 0, .int .i64 0, .int .i64 0, .int .i64 0], .func (.func 47) #[] #[.pointer (some ⟨w.heap.size, 0, none⟩), .pointer (some ⟨w.heap.size + 1, 0, none⟩)]] V fun e w' => ((∃ (g : Nat) (T : List K) (h2 : Hd), e = .returned (.tuple #[.agg #[.slice (some ⟨g, 0, none⟩) T.length T.length, .int .i64 h2.who, .int .i64 h2.has, .int .i64 h2.kept, .int .i64 h2.last], .bool true]) ∧ g < w'.heap.size ∧ RdK w' (some ⟨g, 0, none⟩) T ∧ (handOkB L h = true ∧ T = L ∧ h2 = h)) ∨ (e = .returned (.tuple #[.agg #[.slice none 0 0, .int .i64 0, .int .i64 0, .int .i64 0, .int .i64 0], .bool false]) ∧ handOkB L h = false)) ∧ Below V.heap.size V w') :=
    orNoneO 47 (enters_of Tryd.func47 (by kernel_rfl) rfl) _ _ none 0 0 0 0 0 0 (fun T h2 => handOkB L h = true ∧ T = L ∧ h2 = h) (handOkB L h = false) V (fun X hX => ties1 ao w.heap.size (w.heap.size + 1) cap L h a X ((hX.cell (p := ⟨w.heap.size, 0, none⟩) (cell_lt P0.2.1)).trans P0.2.1) (hat_below P0.2.2.1 hX) (fun Y hY => hla0 Y ((HB0.out.trans (hX.mono HB0.out.size)).trans (hY.mono (HB0.out.trans (hX.mono HB0.out.size)).size))) hk ((hn.below HB0.out).below hX))
  clear P0 hla0 hn he hf hu
  go_enter Tryd.func23, Tryd.ntmps23
  go_upto_region 1 with fail
  rw [← HV.out]
  clear HV
  go_wp2_with fail
  refine HO1.out.mono ?_
  clear HO1
  rintro e w1 ⟨hp, hb1⟩
  have HB1 : Hid (Below w.heap.size w w1) := HB0.out.trans (hb1.mono HB0.out.size)
  have HZ1 : Hid (HAt w1 (w.heap.size + 1 + 1 + 1) 0 ⟨0, 0, 0, 0⟩) := hat_below HZ0.out hb1
  have HW1 : Hid (w1.cell? ⟨w.heap.size + 1 + 1, 0, none⟩ = some (.string word)) := (hb1.cell (p := ⟨w.heap.size + 1 + 1, 0, none⟩) (cell_lt HWC.out)).trans HWC.out
  clear HB0 HZ0 HWC hb1
  have hzb : w.heap.size + 1 + 1 + 1 < w1.heap.size := HZ1.out.lt
  rcases hp with ⟨g, T, h2, rfl, hg, hr, hok, hT, hh⟩ | ⟨rfl, hok⟩
  rotate_left
  · have HL : Hid (tiesL L h word = [] ∧ tiesH L h word = ⟨0, 0, 0, 0⟩ ∧ tiesB L h word = false) := ⟨by unfold tiesL; rw [hok]; rfl, by unfold tiesH; rw [hok]; rfl, by unfold tiesB; rw [hok]; rfl⟩
    have P2 : Hid (Below w.heap.size w ((w1.alloc (.cells #[.slice none 0 0, .int .i64 0, .int .i64 0, .int .i64 0, .int .i64 0] 62)).alloc (.cells #[] 38)) ∧ HAt ((w1.alloc (.cells #[.slice none 0 0, .int .i64 0, .int .i64 0, .int .i64 0, .int .i64 0] 62)).alloc (.cells #[] 38)) (w.heap.size + 1 + 1 + 1) 0 ⟨0, 0, 0, 0⟩ ∧ w1.heap.size + 1 < ((w1.alloc (.cells #[.slice none 0 0, .int .i64 0, .int .i64 0, .int .i64 0, .int .i64 0] 62)).alloc (.cells #[] 38)).heap.size) :=
      ⟨(HB1.out.alloc HB1.out.size _).alloc (by simp; have := HB1.out.size; omega) _, hat_below (hat_below HZ1.out ((Below.refl _ _).alloc (Nat.le_refl _) _)) ((Below.refl _ _).alloc (Nat.le_refl _) _), by simp⟩
    clear HB1 HZ1 HW1 hok
    obtain ⟨z0, z1, z2, z3⟩ := cellsH P2.out.2.1
    have f0 := P2.out.2.1.f0
    have f1 := P2.out.2.1.f1
    have f2 := P2.out.2.1.f2
    have f3 := P2.out.2.1.f3
    simp only [Nat.zero_add] at f1 f2 f3
    obtain ⟨q0, q1, q2, q3⟩ := hput P2.out.2.1 (.int .i64 0) (.int .i64 0) (.int .i64 0) (.int .i64 0)
    have HE : Hid (Below w.heap.size w ((((((w1.alloc (.cells #[.slice none 0 0, .int .i64 0, .int .i64 0, .int .i64 0, .int .i64 0] 62)).alloc (.cells #[] 38)).setCell ⟨w.heap.size + 1 + 1 + 1, 0, none⟩ (.int .i64 0)).setCell ⟨w.heap.size + 1 + 1 + 1, 1, none⟩ (.int .i64 0)).setCell ⟨w.heap.size + 1 + 1 + 1, 2, none⟩ (.int .i64 0)).setCell ⟨w.heap.size + 1 + 1 + 1, 3, none⟩ (.int .i64 0)) ∧ w1.heap.size + 1 < ((((((w1.alloc (.cells #[.slice none 0 0, .int .i64 0, .int .i64 0, .int .i64 0, .int .i64 0] 62)).alloc (.cells #[] 38)).setCell ⟨w.heap.size + 1 + 1 + 1, 0, none⟩ (.int .i64 0)).setCell ⟨w.heap.size + 1 + 1 + 1, 1, none⟩ (.int .i64 0)).setCell ⟨w.heap.size + 1 + 1 + 1, 2, none⟩ (.int .i64 0)).setCell ⟨w.heap.size + 1 + 1 + 1, 3, none⟩ (.int .i64 0)).heap.size) := ⟨below_set4 P2.out.1 (by omega) _ _ _ _, by simp⟩
    clear P2
    go_wp2
    refine bodyPost_ret (v := .tuple #[.slice (some ⟨w1.heap.size + 1, 0, none⟩) 0 0, .agg #[.int .i64 0, .int .i64 0, .int .i64 0, .int .i64 0], .bool false]) (by simp [results, Tryd.f23, go_sem, q0, q1, q2, q3]) rfl ?_
    exact ⟨w1.heap.size + 1, by rw [HL.out.1, HL.out.2.1, HL.out.2.2]; rfl, by omega, by rw [HL.out.1]; exact made_nil _ _ HE.out.2, HE.out.1⟩
  · have hT' := hT.symm
    have hh' := hh.symm
    subst hT' hh'
    clear hT hh
    have hi := hand_is hk hok
    have h60 := ((Lc.lace_iff L).1 hi.lace).1
    have HTL : Hid (tiesL L h word = (if tieB L h word then L ++ [tieK L h word] else L) ∧ tiesH L h word = (if tieB L h word then ⟨h.who, orB h.has (2 ^ L.length), orB h.has (2 ^ L.length), (L.length : Int)⟩ else h) ∧ tiesB L h word = tieB L h word) := ⟨by unfold tiesL; rw [if_pos hok], by unfold tiesH; rw [if_pos hok], by unfold tiesB; rw [hok]; rfl⟩
    have P2 : Hid (Below w.heap.size w (w1.alloc (.cells #[.slice (some ⟨g, 0, none⟩) L.length L.length, .int .i64 h.who, .int .i64 h.has, .int .i64 h.kept, .int .i64 h.last] 62)) ∧ HAt (w1.alloc (.cells #[.slice (some ⟨g, 0, none⟩) L.length L.length, .int .i64 h.who, .int .i64 h.has, .int .i64 h.kept, .int .i64 h.last] 62)) (w.heap.size + 1 + 1 + 1) 0 ⟨0, 0, 0, 0⟩ ∧ Ow (w1.alloc (.cells #[.slice (some ⟨g, 0, none⟩) L.length L.length, .int .i64 h.who, .int .i64 h.has, .int .i64 h.kept, .int .i64 h.last] 62)) w1.heap.size (.slice (some ⟨g, 0, none⟩) L.length L.length) (.int .i64 h.who) (.int .i64 h.has) (.int .i64 h.kept) (.int .i64 h.last) ∧ (w1.alloc (.cells #[.slice (some ⟨g, 0, none⟩) L.length L.length, .int .i64 h.who, .int .i64 h.has, .int .i64 h.kept, .int .i64 h.last] 62)).cell? ⟨w.heap.size + 1 + 1, 0, none⟩ = some (.string word) ∧ g < (w1.alloc (.cells #[.slice (some ⟨g, 0, none⟩) L.length L.length, .int .i64 h.who, .int .i64 h.has, .int .i64 h.kept, .int .i64 h.last] 62)).heap.size ∧ RdK (w1.alloc (.cells #[.slice (some ⟨g, 0, none⟩) L.length L.length, .int .i64 h.who, .int .i64 h.has, .int .i64 h.kept, .int .i64 h.last] 62)) (some ⟨g, 0, none⟩) L) :=
      ⟨HB1.out.alloc HB1.out.size _, hat_below HZ1.out ((Below.refl _ _).alloc (Nat.le_refl _) _), ow_new w1 _ _ _ _ _ _, (((Below.refl _ w1).alloc (Nat.le_refl _) _).cell (p := ⟨w.heap.size + 1 + 1, 0, none⟩) (cell_lt HW1.out)).trans HW1.out, by simp; omega, hr.below ((Below.refl _ _).alloc (Nat.le_refl _) _)⟩
    clear HB1 HZ1 HW1 hr hg hok
    go_upto_region 2 with fail
    generalize w1.alloc (.cells #[.slice (some ⟨g, 0, none⟩) L.length L.length, .int .i64 h.who, .int .i64 h.has, .int .i64 h.kept, .int .i64 h.last] 62) = V2 at P2 ⊢
    generalize w1.heap.size = bb at P2 hzb ⊢
    have HO2 : Hid (Calls Tryd.prog 46 #[.agg #[.slice (some ⟨g, 0, none⟩) L.length L.length, .int .i64 h.who, .int .i64 h.has, .int .i64 h.kept, .int .i64 h.last], .func (.func 48) #[] #[.pointer (some ⟨bb, 0, none⟩), .pointer (some ⟨w.heap.size + 1 + 1, 0, none⟩)]] V2 fun e w' => ((∃ (g : Nat) (T : List K) (h2 : Hd), e = .returned (.tuple #[.agg #[.slice (some ⟨g, 0, none⟩) T.length T.length, .int .i64 h2.who, .int .i64 h2.has, .int .i64 h2.kept, .int .i64 h2.last], .bool true]) ∧ g < w'.heap.size ∧ RdK w' (some ⟨g, 0, none⟩) T ∧ (tieB L h word = true ∧ T = L ++ [tieK L h word] ∧ h2 = ⟨h.who, orB h.has (2 ^ L.length), orB h.has (2 ^ L.length), (L.length : Int)⟩)) ∨ (e = .returned (.tuple #[.agg #[.slice (some ⟨g, 0, none⟩) L.length L.length, .int .i64 h.who, .int .i64 h.has, .int .i64 h.kept, .int .i64 h.last], .bool false]) ∧ tieB L h word = false)) ∧ Below V2.heap.size V2 w') :=
      orNoneO 48 (enters_of Tryd.func48 (by kernel_rfl) rfl) _ _ (some ⟨g, 0, none⟩) L.length L.length h.who h.has h.kept h.last (fun T h2 => tieB L h word = true ∧ T = L ++ [tieK L h word] ∧ h2 = ⟨h.who, orB h.has (2 ^ L.length), orB h.has (2 ^ L.length), (L.length : Int)⟩) (tieB L h word = false) V2 (fun X hX => ties2 g bb (w.heap.size + 1 + 1) L h word X (P2.out.2.2.1.below hX) ((hX.cell (p := ⟨w.heap.size + 1 + 1, 0, none⟩) (cell_lt P2.out.2.2.2.1)).trans P2.out.2.2.2.1) hi hws (Nat.lt_of_lt_of_le P2.out.2.2.2.2.1 hX.size) (P2.out.2.2.2.2.2.below hX) ((HSS.out.1.below P2.out.1).below hX) ((HSS.out.2.1.below P2.out.1).below hX) ((HSS.out.2.2.below P2.out.1).below hX))
    obtain ⟨_, x0, x1, x2, x3, x4, _, _, _, _, _⟩ := P2.out.2.2.1
    go_wp2_with fail
    refine HO2.out.mono ?_
    clear HO2 x0 x1 x2 x3 x4 HSS
    rintro e w3 ⟨hp, hb3⟩
    obtain ⟨g2, T, h2, b, hE, hg2, hr2, hlen, hq⟩ : ∃ (g2 : Nat) (T : List K) (h2 : Hd) (b : Bool), e = .returned (.tuple #[.agg #[.slice (some ⟨g2, 0, none⟩) T.length T.length, .int .i64 h2.who, .int .i64 h2.has, .int .i64 h2.kept, .int .i64 h2.last], .bool b]) ∧ g2 < w3.heap.size ∧ RdK w3 (some ⟨g2, 0, none⟩) T ∧ T.length ≤ 61 ∧ (tiesL L h word = T ∧ tiesH L h word = h2 ∧ tiesB L h word = b) := by
      rcases hp with ⟨g3, T3, h3, e1, e2, e3, e4, e5, e6⟩ | ⟨e1, e2⟩
      · refine ⟨g3, T3, h3, true, e1, e2, e3, by rw [e5]; simp; omega, ?_, ?_, ?_⟩
        · rw [HTL.out.1, e4, e5]; rfl
        · rw [HTL.out.2.1, e4, e6]; rfl
        · rw [HTL.out.2.2, e4]
      · refine ⟨g, L, h, false, e1, Nat.lt_of_lt_of_le P2.out.2.2.2.2.1 hb3.size, P2.out.2.2.2.2.2.below hb3, by omega, ?_, ?_, ?_⟩
        · rw [HTL.out.1, e2]; rfl
        · rw [HTL.out.2.1, e2]; rfl
        · rw [HTL.out.2.2, e2]
    have HQ : Hid (tiesL L h word = T ∧ tiesH L h word = h2 ∧ tiesB L h word = b) := hq
    clear hp hq HTL
    subst hE
    have P3 : Hid (Below w.heap.size w (w3.alloc (.cells #[.slice (some ⟨g2, 0, none⟩) T.length T.length, .int .i64 h2.who, .int .i64 h2.has, .int .i64 h2.kept, .int .i64 h2.last] 62)) ∧ HAt (w3.alloc (.cells #[.slice (some ⟨g2, 0, none⟩) T.length T.length, .int .i64 h2.who, .int .i64 h2.has, .int .i64 h2.kept, .int .i64 h2.last] 62)) (w.heap.size + 1 + 1 + 1) 0 ⟨0, 0, 0, 0⟩ ∧ Ow (w3.alloc (.cells #[.slice (some ⟨g2, 0, none⟩) T.length T.length, .int .i64 h2.who, .int .i64 h2.has, .int .i64 h2.kept, .int .i64 h2.last] 62)) w3.heap.size (.slice (some ⟨g2, 0, none⟩) T.length T.length) (.int .i64 h2.who) (.int .i64 h2.has) (.int .i64 h2.kept) (.int .i64 h2.last) ∧ RdK (w3.alloc (.cells #[.slice (some ⟨g2, 0, none⟩) T.length T.length, .int .i64 h2.who, .int .i64 h2.has, .int .i64 h2.kept, .int .i64 h2.last] 62)) (some ⟨g2, 0, none⟩) T) :=
      ⟨(P2.out.1.trans (hb3.mono P2.out.1.size)).alloc (P2.out.1.trans (hb3.mono P2.out.1.size)).size _, hat_below (hat_below P2.out.2.1 hb3) ((Below.refl _ _).alloc (Nat.le_refl _) _), ow_new w3 _ _ _ _ _ _, hr2.below ((Below.refl _ _).alloc (Nat.le_refl _) _)⟩
    clear P2 hr2 hg2 hb3
    go_upto_region 5 with fail
    generalize w3.alloc (.cells #[.slice (some ⟨g2, 0, none⟩) T.length T.length, .int .i64 h2.who, .int .i64 h2.has, .int .i64 h2.kept, .int .i64 h2.last] 62) = V4 at P3 ⊢
    generalize w3.heap.size = ab at P3 ⊢
    have HB4 : Hid (Below w.heap.size w V4) := P3.out.1
    have HZ4 : Hid (HAt V4 (w.heap.size + 1 + 1 + 1) 0 ⟨0, 0, 0, 0⟩) := P3.out.2.1
    have HOB : Hid (∀ X : World, Below V4.heap.size V4 X → Ow X ab (.slice (some ⟨g2, 0, none⟩) T.length T.length) (.int .i64 h2.who) (.int .i64 h2.has) (.int .i64 h2.kept) (.int .i64 h2.last)) := fun X hX => P3.out.2.2.1.below hX
    have HRK : Hid (RdK V4 (some ⟨g2, 0, none⟩) T) := P3.out.2.2.2
    obtain ⟨_, x0, x1, x2, x3, x4, _, _, _, _, _⟩ := P3.out.2.2.1
    clear P3
    have hsz := HB4.out.size
    have HZF : Hid (∀ X : World, Below V4.heap.size V4 X → Below w.heap.size w X ∧ HAt X (w.heap.size + 1 + 1 + 1) 0 ⟨0, 0, 0, 0⟩) := fun X hX => ⟨HB4.out.trans (hX.mono HB4.out.size), hat_below HZ4.out hX⟩
    have HLO : Hid (∀ X : World, Below V4.heap.size V4 X → X.heap.size = V4.heap.size → Calls Tryd.prog 50 #[.slice (some ⟨g2, 0, none⟩) T.length T.length] X fun e w' => e = .returned (.slice (some ⟨V4.heap.size, 0, none⟩) T.length T.length) ∧ Hid (Lc.Made w' V4.heap.size T.length T T.length) ∧ Hid (Below V4.heap.size V4 w')) := fun X hX hs => (Lc.laceOut g2 0 T.length T X (by omega) (HRK.out.below hX)).mono fun e w' q => by
      obtain ⟨e1, e2, e3⟩ := q
      rw [hs] at e1 e2 e3
      exact ⟨e1, e2, hX.trans e3⟩
    have hz4 : w.heap.size + 1 + 1 + 1 < V4.heap.size := HZ4.out.lt
    clear HB4 HZ4 HRK
    go_region_law (first
      | (rw [if_pos (by simp [Region.wanted])]
         go_simp
         go_at_call 50
         refine (HLO.out _ (by first | exact Below.refl _ _ | exact (Below.refl _ _).drew) (by rfl)).mono ?_
         rintro e W1 ⟨rfl, HM1, HB1⟩
         obtain ⟨_, y0, y1, y2, y3, y4, _, _, _, _, _⟩ := HOB.out W1 HB1.out)
      | (rw [if_pos (by simp [Region.wanted])]
         go_simp
         go_at_call 51
         refine (handedOut _ h2 _).mono ?_
         rintro e W2 ⟨rfl, hb2⟩
         have HB2 : Hid (Below V4.heap.size V4 W2) := HB1.out.trans (hb2.mono HB1.out.size)
         have HM2 : Hid (Lc.Made W2 V4.heap.size T.length T T.length) := HM1.out.below hb2
         have HZ2 := (HZF.out W2 HB2.out).2
         obtain ⟨z0, z1, z2, z3⟩ := cellsH HZ2
         have f0 := HZ2.f0
         have f1 := HZ2.f1
         have f2 := HZ2.f2
         have f3 := HZ2.f3
         simp only [Nat.zero_add] at f1 f2 f3
         have HZZ : Hid (HAt W2 (w.heap.size + 1 + 1 + 1) 0 ⟨0, 0, 0, 0⟩) := HZ2))
    all_goals
      obtain ⟨q0, q1, q2, q3⟩ := hput HZZ.out (.int .i64 h2.who) (.int .i64 h2.has) (.int .i64 h2.kept) (.int .i64 h2.last)
      have HE : Hid (Below w.heap.size w ((((W2.setCell ⟨w.heap.size + 1 + 1 + 1, 0, none⟩ (.int .i64 h2.who)).setCell ⟨w.heap.size + 1 + 1 + 1, 1, none⟩ (.int .i64 h2.has)).setCell ⟨w.heap.size + 1 + 1 + 1, 2, none⟩ (.int .i64 h2.kept)).setCell ⟨w.heap.size + 1 + 1 + 1, 3, none⟩ (.int .i64 h2.last)) ∧ Lc.Made ((((W2.setCell ⟨w.heap.size + 1 + 1 + 1, 0, none⟩ (.int .i64 h2.who)).setCell ⟨w.heap.size + 1 + 1 + 1, 1, none⟩ (.int .i64 h2.has)).setCell ⟨w.heap.size + 1 + 1 + 1, 2, none⟩ (.int .i64 h2.kept)).setCell ⟨w.heap.size + 1 + 1 + 1, 3, none⟩ (.int .i64 h2.last)) V4.heap.size T.length T T.length) := ⟨below_set4 (HZF.out W2 HB2.out).1 (by omega) _ _ _ _, made_set (made_set (made_set (made_set HM2.out (by omega) _) (by omega) _) (by omega) _) (by omega) _⟩
      go_wp2
      refine bodyPost_ret (v := .tuple #[.slice (some ⟨V4.heap.size, 0, none⟩) T.length T.length, .agg #[.int .i64 h2.who, .int .i64 h2.has, .int .i64 h2.kept, .int .i64 h2.last], .bool b]) (by simp [results, Tryd.f23, go_sem, q0, q1, q2, q3]) rfl ?_
      exact ⟨V4.heap.size, by rw [HQ.out.1, HQ.out.2.1, HQ.out.2.2], hsz, by rw [HQ.out.1]; exact HE.out.2, HE.out.1⟩

theorem implTies (g off cap : Nat) (L : List K) (h : Hd) (word : ByteArray) (a : Addr) (w : World) (hlen : L.length ≤ 1099511627776) (hw : WordsOk L) (hk : H64 h) (hws : word.size ≤ 1099511627776) (hr : RdK w (some ⟨g, off, none⟩) L) (hn : NoH w a) (he : HoldsE w 5) (hf : HoldsE w 6) (hu : HoldsE w 7) :
    Calls Tryd.prog 23 #[.slice (some ⟨g, off, none⟩) L.length cap, .agg #[.int .i64 h.who, .int .i64 h.has, .int .i64 h.kept, .int .i64 h.last], .string word] w (TiesMade L h word w) :=
  implTiesA _ cap L h word a w (fun V hV => Lc.laceOf g off cap L V hlen hw (hr.below hV)) hk hws hn he hf hu

end Rm
end Go.Proofs.YtapfmadnkaimeaaDoor

namespace Go.Proofs.YtapfmadnkaimeaaDoor
open Go.RowKit Go.ChangeShapes Go.WideShapes Go.ChangeAt
set_option maxRecDepth 100000
namespace Ld

theorem star : "*" ++ "errors.errorString" = "*errors.errorString" := by decide
theorem rowE (u : TypeId) (h : Tryd.prog.typeName? 3 u = some "*errors.errorString") : u = 159 :=
  typeName_ptr_named (nm := "errors.errorString") (by rw [star]; kernel_rfl) (by kernel_rfl) (by decide) u (by rw [star]; exact h)
theorem gNoHand : Tryd.prog.globalNamed "loop.example/g00418/impl.errNoHand" = some 0 := by kernel_rfl
theorem tNoHand : (Tryd.prog.globals[0]?).map (·.type) = some 89 := by kernel_rfl
theorem cellsE : Tryd.prog.cellsOf 182 = 1 := by kernel_rfl
theorem cellsS : Tryd.prog.cellsOf 9 = 1 := by kernel_rfl

theorem one {W : World} {text : List UInt8} {r : List (String × DataW Unit)} (h : laidMet Tryd.prog (("loop.example/g00418/impl.errNoHand", .iface "*errors.errorString" (.ptr (.agg [.lit (.string text)]))) :: r) W) :
    ∃ a, W.var? Tryd.prog "loop.example/g00418/impl.errNoHand" = some #[.iface 159 (.pointer (some a))] := by
  obtain ⟨a, s, hv, _⟩ := laid_sentinel h gNoHand tNoHand Tryd.underlying89 rowE Tryd.underlying159 Tryd.underlying182 rfl rfl Tryd.underlying9 cellsE cellsS
  exact ⟨a, hv⟩
theorem noh {W : World} {a : Addr} (h : W.var? Tryd.prog "loop.example/g00418/impl.errNoHand" = some #[.iface 159 (.pointer (some a))]) : Rm.NoH W a := by
  unfold Rm.NoH
  simpa using World.var?_cell gNoHand h 0
theorem var_below {n : String} {g : Nat} {W V : World} {cs : Array Value} (hg : Tryd.prog.globalNamed n = some g) (hb : Below W.heap.size W V) (h : W.var? Tryd.prog n = some cs) : V.var? Tryd.prog n = some cs := by
  refine var?_below hb hg ?_ h
  rcases Nat.lt_or_ge g W.heap.size with q | q
  · exact q
  · unfold World.var? at h
    rw [hg] at h
    simp [Array.getElem?_eq_none q] at h

/-- a row's wrap: a condition on the heap and the world's shape are both handed on -/
theorem wrap {H : Type} {enc : TypeId × Value → H} {a : Assume} {C : Checked} {os : Os} {f : FuncId} {fn : Func} {s : ChangeSpec} {apart fresh handsOn again : Bool} {X : World → Prop}
    (hX : ∀ w w' : World, w.heap = w'.heap → X w → X w') (own : ownKnob C.prog.godebug = none) (started : os.Started) (noInit : C.prog.inits.idxOf? f = none) (hfn : C.prog.funcs[f]? = some fn)
    (witness : ∃ (w : World) (tape : Tape) (i : Input), w.os = os ∧ (w.forCall tape i).Shaped C.prog ∧ i.vars = [] ∧ Input.okWide C.prog (w.forCall tape i) .any w.heap.size f i ∧
      ((s.pre enc C.prog fn [] apart (w.forCall tape i).memory i.args ∧ X (w.forCall tape i).memory) ∧ sizedMet enc C.prog fn (OpenSpec.ofChange s) apart (w.forCall tape i).memory i.args) ∧ a.holds C.prog (lone (Frame.enter C.prog f i.args .normal) [] (w.forCall tape i)))
    (contract : ∀ (W : World) (base : Nat) (args : Array Value) (ds gs : List (DataW H)) (before : List MemPlace),
      (∀ (j : Nat) t v, fn.params[j]? = some t → args[j]? = some v → Value.okWide C.prog W .any base t v) → DataW.Whole enc C.prog fn.params.toList s.vars apart W args.toList ds gs before →
      X W → W.ShapedOpen C.prog → Calls C.prog f args W fun e W' => ∃ v, e = .returned v ∧ s.post enc C.prog fn apart fresh handsOn again W args v W') :
    ReturnsInHanded a C os f .any (fun w args => (s.pre enc C.prog fn [] apart w args ∧ X w) ∧ sizedMet enc C.prog fn (OpenSpec.ofChange s) apart w args) (s.post enc C.prog fn apart fresh handsOn again) := by
  refine returnsInHanded_of_calls own started noInit witness ?_
  intro w tape i _ hsh _ hok hpre _
  obtain ⟨_, _, _, fn', hfn', _, _, _, _, hval⟩ := hok
  obtain rfl : fn' = fn := Option.some.inj (hfn'.symm.trans hfn)
  obtain ⟨⟨⟨ds, gs, before, hw, _⟩, hx⟩, _⟩ := hpre
  refine (contract (w.forCall tape i) w.heap.size i.args ds gs before hval (DataW.Whole.of_heap (w' := w.forCall tape i) (by rfl) hw) (hX _ _ (by rfl) hx) hsh).mono fun e W' ⟨v, he, hp⟩ => ?_
  subst he
  exact ChangeSpec.post_blind hp

end Ld
end Go.Proofs.YtapfmadnkaimeaaDoor

namespace Go.Proofs.YtapfmadnkaimeaaDoor
open Go.RowKit Go.ChangeShapes Go.WideShapes Go.ChangeAt
set_option maxRecDepth 100000
namespace Ld

theorem gOnce : Tryd.prog.globalNamed "loop.example/g00418/impl.errOnce" = some 5 := by kernel_rfl
theorem tOnce : (Tryd.prog.globals[5]?).map (·.type) = some 89 := by kernel_rfl
theorem gNoWord : Tryd.prog.globalNamed "loop.example/g00418/impl.errNoWord" = some 6 := by kernel_rfl
theorem tNoWord : (Tryd.prog.globals[6]?).map (·.type) = some 89 := by kernel_rfl
theorem gFull : Tryd.prog.globalNamed "loop.example/g00418/impl.errFull" = some 7 := by kernel_rfl
theorem tFull : (Tryd.prog.globals[7]?).map (·.type) = some 89 := by kernel_rfl

/-- the first of the list -/
theorem sent {W : World} {n : String} {g : Nat} {text : List UInt8} {r : List (String × DataW Unit)} (h : laidMet Tryd.prog ((n, .iface "*errors.errorString" (.ptr (.agg [.lit (.string text)]))) :: r) W) (hg : Tryd.prog.globalNamed n = some g) (ht : (Tryd.prog.globals[g]?).map (·.type) = some 89) :
    ∃ a, W.var? Tryd.prog n = some #[.iface 159 (.pointer (some a))] := by
  obtain ⟨a, s, hv, _⟩ := laid_sentinel h hg ht Tryd.underlying89 rowE Tryd.underlying159 Tryd.underlying182 rfl rfl Tryd.underlying9 cellsE cellsS
  exact ⟨a, hv⟩
theorem holds {W : World} {n : String} {g : Nat} {a : Addr} (hg : Tryd.prog.globalNamed n = some g) (h : W.var? Tryd.prog n = some #[.iface 159 (.pointer (some a))]) : Rm.HoldsE W g :=
  ⟨_, by simpa using World.var?_cell hg h 0⟩

theorem read3 {H : Type} (enc : TypeId × Value → H) {P : Program} {W : World} {n0 n1 n2 : String} {g0 g1 g2 : Nat} {t0 t1 t2 : TypeId} {ms0 ms1 ms2 : Array (String × TypeId)} {x0 x1 x2 : Value}
    (hg0 : P.globalNamed n0 = some g0) (ht0 : (P.globals[g0]?).map (·.type) = some t0) (hi0 : P.underlying t0 = some (.interface ms0)) (h0 : W.var? P n0 = some #[x0]) (i0 : IsIface x0)
    (hg1 : P.globalNamed n1 = some g1) (ht1 : (P.globals[g1]?).map (·.type) = some t1) (hi1 : P.underlying t1 = some (.interface ms1)) (h1 : W.var? P n1 = some #[x1]) (i1 : IsIface x1)
    (hg2 : P.globalNamed n2 = some g2) (ht2 : (P.globals[g2]?).map (·.type) = some t2) (hi2 : P.underlying t2 = some (.interface ms2)) (h2 : W.var? P n2 = some #[x2]) (i2 : IsIface x2) (sp : Nat → Bool) :
    DataW.TrodVars enc P W sp [n0, n1, n2] [tok enc x0, tok enc x1, tok enc x2] [.cell g0 0, .cell g1 0, .cell g2 0] :=
  ⟨g0, t0, #[x0], 1, [], _, hg0, ht0, h0, trod_held hi0 i0 0, ⟨g1, t1, #[x1], 1, [], _, hg1, ht1, h1, trod_held hi1 i1 0, ⟨g2, t2, #[x2], 1, [], [], hg2, ht2, h2, trod_held hi2 i2 0, rfl, rfl⟩, rfl⟩, rfl⟩
theorem read4 {H : Type} (enc : TypeId × Value → H) {P : Program} {W : World} {n0 n1 n2 n3 : String} {g0 g1 g2 g3 : Nat} {t0 t1 t2 t3 : TypeId} {ms0 ms1 ms2 ms3 : Array (String × TypeId)} {x0 x1 x2 x3 : Value}
    (hg0 : P.globalNamed n0 = some g0) (ht0 : (P.globals[g0]?).map (·.type) = some t0) (hi0 : P.underlying t0 = some (.interface ms0)) (h0 : W.var? P n0 = some #[x0]) (i0 : IsIface x0)
    (hg1 : P.globalNamed n1 = some g1) (ht1 : (P.globals[g1]?).map (·.type) = some t1) (hi1 : P.underlying t1 = some (.interface ms1)) (h1 : W.var? P n1 = some #[x1]) (i1 : IsIface x1)
    (hg2 : P.globalNamed n2 = some g2) (ht2 : (P.globals[g2]?).map (·.type) = some t2) (hi2 : P.underlying t2 = some (.interface ms2)) (h2 : W.var? P n2 = some #[x2]) (i2 : IsIface x2)
    (hg3 : P.globalNamed n3 = some g3) (ht3 : (P.globals[g3]?).map (·.type) = some t3) (hi3 : P.underlying t3 = some (.interface ms3)) (h3 : W.var? P n3 = some #[x3]) (i3 : IsIface x3) (sp : Nat → Bool) :
    DataW.TrodVars enc P W sp [n0, n1, n2, n3] [tok enc x0, tok enc x1, tok enc x2, tok enc x3] [.cell g0 0, .cell g1 0, .cell g2 0, .cell g3 0] :=
  ⟨g0, t0, #[x0], 1, [], _, hg0, ht0, h0, trod_held hi0 i0 0, ⟨g1, t1, #[x1], 1, [], _, hg1, ht1, h1, trod_held hi1 i1 0, ⟨g2, t2, #[x2], 1, [], _, hg2, ht2, h2, trod_held hi2 i2 0, ⟨g3, t3, #[x3], 1, [], [], hg3, ht3, h3, trod_held hi3 i3 0, rfl, rfl⟩, rfl⟩, rfl⟩, rfl⟩

end Ld
end Go.Proofs.YtapfmadnkaimeaaDoor
