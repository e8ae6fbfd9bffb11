/-
  What the program's learnsAll and LearnsAll answer: as the model's; the five variables hold different errors of errors.New's make, errors.errorType the handle of the type error.
-/
import Derived.Test.YtapfmadnkaimeaaDoorHaG
import Derived.Test.YtapfmadnkaimeaaDoorHaH
namespace Go.Proofs.YtapfmadnkaimeaaDoor
open Go.RowKit
set_option maxRecDepth 100000
set_option linter.unusedVariables false
namespace Rm
open Kn (K okK)
open Bit (bit withB)
open Lc (at' RdK laceB WordsOk)
open Sg (bel belows closedTo orB)

/-- the five errors, and the handle -/
def SenA (W : World) (x : Ad) : Prop := Sen W x ∧ Er.HandleE W
theorem SenA.below {W V : World} {x : Ad} (h : SenA W x) (hb : Below W.heap.size W V) : SenA V x := ⟨h.1.below hb, h.2.below hb⟩
def SensA (W : World) : Prop := ∃ x, SenA W x
theorem SensA.below {W V : World} (h : SensA W) (hb : Below W.heap.size W V) : SensA V := h.elim fun a q => ⟨a, q.below hb⟩

/-- what errors.As leaves, as far as it is asked -/
theorem as_refusal (t : Nat) (k l : Int) (b : Addr) (w V : World) (hg : Er.HandleE w) (ht : t = V.heap.size) (hw : w = V.alloc (.cells #[.int .i64 0, .int .i64 0, .nilIface] 97)) :
    Calls Tryd.prog 66 #[.iface 97 (.agg #[.int .i64 k, .int .i64 l, .iface 159 (.pointer (some b))]), .iface 101 (.pointer (some ⟨t, 0, none⟩))] w fun e w' => e = .returned (.bool true) ∧ Below V.heap.size V w' ∧ w'.cell? ⟨t, 1, none⟩ = some (.int .i64 l) := by
  subst ht hw
  refine (Er.as_hit _ _ _ _ (.int .i64 0) (.int .i64 0) .nilIface _ hg (by simp) (by simp) (by simp) (by simp) (by simp) (by simp) rfl rfl rfl).mono ?_
  rintro e w' ⟨rfl, rfl⟩
  refine ⟨rfl, ?_, ?_⟩
  · have B0 : Below V.heap.size V (V.alloc (.cells #[.int .i64 0, .int .i64 0, .nilIface] 97)) := (Below.refl _ V).alloc (Nat.le_refl _) _
    exact (((((((B0.alloc B0.size _).alloc (by simp; omega) _).alloc (by simp; omega) _).alloc (by simp; omega) _).setCell (p := ⟨V.heap.size, 0, none⟩) (Nat.le_refl _) _).setCell (p := ⟨V.heap.size, 1, none⟩) (Nat.le_refl _) _).setCell (p := ⟨V.heap.size, 2, none⟩) (Nat.le_refl _) _)
  · rw [World.cell?_setCell_other _ _ _ _ (by simp)]
    refine World.cell?_setCell_same _ _ _ (u := .int .i64 0) ?_
    rw [World.cell?_setCell_other _ _ _ _ (by simp), World.cell?_alloc_lt _ _ ⟨V.heap.size, 1, none⟩ (by simp; omega), World.cell?_alloc_lt _ _ ⟨V.heap.size, 1, none⟩ (by simp; omega), World.cell?_alloc_lt _ _ ⟨V.heap.size, 1, none⟩ (by simp; omega), World.cell?_alloc_lt _ _ ⟨V.heap.size, 1, none⟩ (by simp)]
    simp

/-- where it is not loose, it ends as Learns; else it is asked what lacks -/
theorem learn_split {g cap : Nat} {L : List K} {h : Hd} {k : Int} {x : Ad} {w w' : World} {e : Ending} (hok : handOkB L h = true) (hk : H64 h) (q : LearnsPost g cap L h k x (whyB L h k) w e w') : Below w.heap.size w w' ∧
    ((∃ nh E b, e = .returned (.tuple #[.agg #[.slice (some ⟨g, 0, none⟩) L.length cap, .int .i64 h.who, .int .i64 nh, .int .i64 h.kept, .int .i64 h.last], E]) ∧ LearnAns L h k x false nh E b ∧ ∀ W : World, Sen W x → Calls Tryd.prog 59 #[E, .iface 159 (.pointer (some x.loose))] W fun e w' => e = .returned (.bool false) ∧ Below W.heap.size W w') ∨
     (e = .returned (.tuple #[.agg #[.slice (some ⟨g, 0, none⟩) L.length cap, .int .i64 h.who, .int .i64 h.has, .int .i64 h.kept, .int .i64 h.last], .iface 97 (.agg #[.int .i64 k, .int .i64 (lackB L h.has k), .iface 159 (.pointer (some x.loose))])]) ∧
       (ownI L h.who (lackB L h.has k) = 0 → LearnAns L h k x false (bits .or .i64 h.has (lackB L h.has k)) .nilIface true) ∧
       (¬ ownI L h.who (lackB L h.has k) = 0 → LearnAns L h k x false h.has (.iface 97 (.agg #[.int .i64 k, .int .i64 (lackB L h.has k), .iface 159 (.pointer (some x.loose))])) false))) := by
  have hi := hand_is hk hok
  have hb : learnedB L h k false = tookB L h k (whyB L h k) false := by unfold learnedB; rw [hok, Bool.true_and, learn_why hi]
  have hh : learnedH L h k false = if tookB L h k (whyB L h k) false then { h with has := orB h.has ((belows L L.length).getD k.toNat 0) } else h := by unfold learnedH; rw [if_pos hok, learn_why hi]
  have ho := learn_or hi k false
  rw [learn_why hi] at ho
  refine ⟨q.1, ?_⟩
  have q2 := q.2
  generalize whyB L h k = y at hb hh ho q2
  cases y
  · exact .inl ⟨_, _, true, q2, ⟨by rw [hh, ← ho rfl]; rfl, hb, .inl ⟨rfl, rfl⟩⟩, fun W hs => (Er.is_nil _ W).mono fun e w' z => ⟨z.1, z.2 ▸ Below.refl _ _⟩⟩
  · refine .inl ⟨_, _, false, q2, ⟨hh, hb, .inr ⟨rfl, .knot, by simp, _, rfl⟩⟩, fun W hs => ?_⟩
    obtain ⟨ch, th, hl⟩ := hs.r4
    obtain ⟨c, t, hc⟩ := hs.r1
    exact Er.is_other k _ _ _ _ _ _ _ W hs.m1 hc hl
  · refine .inl ⟨_, _, false, q2, ⟨hh, hb, .inr ⟨rfl, .there, by simp, _, rfl⟩⟩, fun W hs => ?_⟩
    obtain ⟨ch, th, hl⟩ := hs.r4
    obtain ⟨c, t, hc⟩ := hs.r2
    exact Er.is_other k _ _ _ _ _ _ _ W hs.m2 hc hl
  · refine .inr ⟨q2, fun e0 => ?_, fun e0 => ?_⟩
    · have ht : tookB L h k .loose false = true := by unfold tookB; rw [e0]; rfl
      exact ⟨by rw [hh, ht, ← ho ht]; rfl, by rw [hb, ht], .inl ⟨rfl, rfl⟩⟩
    · have ht : tookB L h k .loose false = false := by unfold tookB; rw [bne_iff_ne.2 e0]; rfl
      exact ⟨by rw [hh, ht]; rfl, by rw [hb, ht], .inr ⟨rfl, .loose, by simp, _, rfl⟩⟩
  · refine .inl ⟨_, _, false, q2, ⟨hh, hb, .inr ⟨rfl, .own, by simp, _, rfl⟩⟩, fun W hs => ?_⟩
    obtain ⟨ch, th, hl⟩ := hs.r4
    obtain ⟨c, t, hc⟩ := hs.r3
    exact Er.is_other k _ _ _ _ _ _ _ W hs.m3 hc hl

set_option maxHeartbeats 6400000 in
theorem learnsAll (g cap : Nat) (L : List K) (h : Hd) (k : Int) (x : Ad) (w : World) (hlc : laceB L = true) (hok : handOkB L h = true) (hk : H64 h) (hh0 : 0 ≤ h.has) (hh1 : h.has < 1152921504606846976) (hg : g < w.heap.size) (hr : RdK w (some ⟨g, 0, none⟩) L) (hs : SenA w x) :
    Calls Tryd.prog 33 #[.agg #[.slice (some ⟨g, 0, none⟩) L.length cap, .int .i64 h.who, .int .i64 h.has, .int .i64 h.kept, .int .i64 h.last], .int .i64 k] w (LearnEnds g cap L h k x false w) := by
  have h60 := ((Lc.lace_iff L).1 hlc).1
  have P0 : Hid (Below w.heap.size w ((w.alloc (.cells #[.slice (some ⟨g, 0, none⟩) L.length cap, .int .i64 h.who, .int .i64 h.has, .int .i64 h.kept, .int .i64 h.last] 62)).alloc (.cells #[.slice none 0 0, .int .i64 0, .int .i64 0, .int .i64 0, .int .i64 0] 62)) ∧ Ow ((w.alloc (.cells #[.slice (some ⟨g, 0, none⟩) L.length cap, .int .i64 h.who, .int .i64 h.has, .int .i64 h.kept, .int .i64 h.last] 62)).alloc (.cells #[.slice none 0 0, .int .i64 0, .int .i64 0, .int .i64 0, .int .i64 0] 62)) w.heap.size (.slice (some ⟨g, 0, none⟩) L.length cap) (.int .i64 h.who) (.int .i64 h.has) (.int .i64 h.kept) (.int .i64 h.last) ∧ Ow ((w.alloc (.cells #[.slice (some ⟨g, 0, none⟩) L.length cap, .int .i64 h.who, .int .i64 h.has, .int .i64 h.kept, .int .i64 h.last] 62)).alloc (.cells #[.slice none 0 0, .int .i64 0, .int .i64 0, .int .i64 0, .int .i64 0] 62)) (w.heap.size + 1) (.slice none 0 0) (.int .i64 0) (.int .i64 0) (.int .i64 0) (.int .i64 0)) :=
    ⟨((Below.refl _ w).alloc (Nat.le_refl _) _).alloc (by simp) _, (ow_new w _ _ _ _ _ _).below ((Below.refl _ _).alloc (Nat.le_refl _) _), by
      have q := ow_new (w.alloc (.cells #[.slice (some ⟨g, 0, none⟩) L.length cap, .int .i64 h.who, .int .i64 h.has, .int .i64 h.kept, .int .i64 h.last] 62)) (.slice none 0 0) (.int .i64 0) (.int .i64 0) (.int .i64 0) (.int .i64 0) 62
      rw [World.size_alloc] at q
      exact q⟩
  have HR : Hid (RdK w (some ⟨g, 0, none⟩) L) := hr
  have HS : Hid (SenA w x) := hs
  clear hr hs
  go_enter Tryd.func33, Tryd.ntmps33
  go_upto_region 1 with fail
  generalize (w.alloc (.cells #[.slice (some ⟨g, 0, none⟩) L.length cap, .int .i64 h.who, .int .i64 h.has, .int .i64 h.kept, .int .i64 h.last] 62)).alloc (.cells #[.slice none 0 0, .int .i64 0, .int .i64 0, .int .i64 0, .int .i64 0] 62) = V at P0 ⊢
  have HB0 : Hid (Below w.heap.size w V) := P0.out.1
  have HO0 : Hid (Ow V w.heap.size (.slice (some ⟨g, 0, none⟩) L.length cap) (.int .i64 h.who) (.int .i64 h.has) (.int .i64 h.kept) (.int .i64 h.last)) := P0.out.2.1
  have HZ0 : Hid (Ow V (w.heap.size + 1) (.slice none 0 0) (.int .i64 0) (.int .i64 0) (.int .i64 0) (.int .i64 0)) := P0.out.2.2
  clear P0
  obtain ⟨_, x0, x1, x2, x3, x4, _, _, _, _, _⟩ := HO0.out
  have hle := learns g cap L h k x V hlc hh0 hh1 (Nat.lt_of_lt_of_le hg HB0.out.size) (HR.out.below HB0.out) (HS.out.below HB0.out).1
  go_wp2_with fail
  refine hle.mono ?_
  clear hle x0 x1 x2 x3 x4
  intro e w1 hp
  obtain ⟨hb1, hp⟩ := learn_split hok hk hp
  have HB1 : Hid (Below w.heap.size w w1) := HB0.out.trans (hb1.mono HB0.out.size)
  have HO1 : Hid (Ow w1 w.heap.size (.slice (some ⟨g, 0, none⟩) L.length cap) (.int .i64 h.who) (.int .i64 h.has) (.int .i64 h.kept) (.int .i64 h.last)) := HO0.out.below hb1
  have HZ1 : Hid (Ow w1 (w.heap.size + 1) (.slice none 0 0) (.int .i64 0) (.int .i64 0) (.int .i64 0) (.int .i64 0)) := HZ0.out.below hb1
  clear HB0 HO0 HZ0 hb1 hk hok
  have hzb : w.heap.size + 1 < w1.heap.size := HZ1.out.lt
  rcases hp with ⟨nh, E, b, rfl, hans, his⟩ | ⟨rfl, hq0, hq1⟩
  · have HAN : Hid (LearnAns L h k x false nh E b) := hans
    have HIS : Hid (∀ W : World, Sen W x → Calls Tryd.prog 59 #[E, .iface 159 (.pointer (some x.loose))] W fun e w' => e = .returned (.bool false) ∧ Below W.heap.size W w') := his
    have HQ : Hid (Below w.heap.size w (w1.alloc (.cells #[.slice (some ⟨g, 0, none⟩) L.length cap, .int .i64 h.who, .int .i64 nh, .int .i64 h.kept, .int .i64 h.last] 62)) ∧ Ow (w1.alloc (.cells #[.slice (some ⟨g, 0, none⟩) L.length cap, .int .i64 h.who, .int .i64 nh, .int .i64 h.kept, .int .i64 h.last] 62)) w1.heap.size (.slice (some ⟨g, 0, none⟩) L.length cap) (.int .i64 h.who) (.int .i64 nh) (.int .i64 h.kept) (.int .i64 h.last) ∧ Ow (w1.alloc (.cells #[.slice (some ⟨g, 0, none⟩) L.length cap, .int .i64 h.who, .int .i64 nh, .int .i64 h.kept, .int .i64 h.last] 62)) (w.heap.size + 1) (.slice none 0 0) (.int .i64 0) (.int .i64 0) (.int .i64 0) (.int .i64 0)) :=
      ⟨HB1.out.alloc HB1.out.size _, ow_new w1 _ _ _ _ _ _, HZ1.out.below ((Below.refl _ _).alloc (Nat.le_refl _) _)⟩
    clear hans his HO1 HZ1 HB1
    go_upto_region 2 with fail
    generalize w1.alloc (.cells #[.slice (some ⟨g, 0, none⟩) L.length cap, .int .i64 h.who, .int .i64 nh, .int .i64 h.kept, .int .i64 h.last] 62) = V2 at HQ ⊢
    have HB2 : Hid (Below w.heap.size w V2) := HQ.out.1
    have HM2 : Hid (Ow V2 w1.heap.size (.slice (some ⟨g, 0, none⟩) L.length cap) (.int .i64 h.who) (.int .i64 nh) (.int .i64 h.kept) (.int .i64 h.last)) := HQ.out.2.1
    have HZ2 : Hid (Ow V2 (w.heap.size + 1) (.slice none 0 0) (.int .i64 0) (.int .i64 0) (.int .i64 0) (.int .i64 0)) := HQ.out.2.2
    clear HQ
    generalize w1.heap.size = mb at HM2 hzb ⊢
    have HSN : Hid (Sen V2 x) := (HS.out.below HB2.out).1
    have hc4 := HSN.out.c4
    go_upto_region 3 with (go_at_call 59; refine (HIS.out _ HSN.out).mono ?_; rintro e w3 ⟨rfl, hb3⟩)
    have HB3 : Hid (Below w.heap.size w w3) := HB2.out.trans (hb3.mono HB2.out.size)
    have HM3 : Hid (Ow w3 mb (.slice (some ⟨g, 0, none⟩) L.length cap) (.int .i64 h.who) (.int .i64 nh) (.int .i64 h.kept) (.int .i64 h.last)) := HM2.out.below hb3
    have HZ3 : Hid (Ow w3 (w.heap.size + 1) (.slice none 0 0) (.int .i64 0) (.int .i64 0) (.int .i64 0) (.int .i64 0)) := HZ2.out.below hb3
    clear HSN hc4 HB2 HM2 HZ2 hb3 HIS
    obtain ⟨_, x0, x1, x2, x3, x4, _, _, _, _, _⟩ := HM3.out
    obtain ⟨_, z0, z1, z2, z3, z4, f0, f1, f2, f3, f4⟩ := HZ3.out
    obtain ⟨WW, hW, hOW, hBW, hsW, hcW⟩ := HZ3.out.put (.slice (some ⟨g, 0, none⟩) L.length cap) (.int .i64 h.who) (.int .i64 nh) (.int .i64 h.kept) (.int .i64 h.last)
    have HW : Hid (WW = _) := hW
    have HBE : Hid (Below w.heap.size w WW) := hBW _ _ HB3.out (by omega)
    obtain ⟨_, y0, y1, y2, y3, y4, _, _, _, _, _⟩ := hOW
    clear hW hBW hsW hcW
    go_wp2
    rw [← HW.out]
    refine bodyPost_ret (v := .tuple #[.agg #[.slice (some ⟨g, 0, none⟩) L.length cap, .int .i64 h.who, .int .i64 nh, .int .i64 h.kept, .int .i64 h.last], E]) (by simp [results, Tryd.f33, go_sem, y0, y1, y2, y3, y4]) rfl ?_
    exact ⟨HBE.out, nh, E, b, rfl, HAN.out⟩
  · have hmb := met_bd hlc k
    have hlb := Rm.andNot_bd (Sg.metI L k) h.has hmb.1 hmb.2
    have hlok : Base.okB (lackB L h.has k) = true := (Base.okB_iff _).2 hlb
    have HOW : Hid (∀ W : World, RdK W (some ⟨g, 0, none⟩) L → Calls Tryd.prog 64 #[.agg #[.slice (some ⟨g, 0, none⟩) L.length cap, .int .i64 h.who, .int .i64 h.has, .int .i64 h.kept, .int .i64 h.last], .int .i64 (lackB L h.has k)] W fun e w' => e = .returned (.int .i64 (ownI L h.who (lackB L h.has k))) ∧ Below W.heap.size W w') := fun W hW => own g cap L h _ W h60 hlok hW
    have HTK : Hid (∀ W : World, Calls Tryd.prog 65 #[.agg #[.slice (some ⟨g, 0, none⟩) L.length cap, .int .i64 h.who, .int .i64 h.has, .int .i64 h.kept, .int .i64 h.last], .int .i64 (lackB L h.has k)] W fun e w' => e = .returned (.agg #[.slice (some ⟨g, 0, none⟩) L.length cap, .int .i64 h.who, .int .i64 (bits .or .i64 h.has (lackB L h.has k)), .int .i64 h.kept, .int .i64 h.last]) ∧ Below W.heap.size W w') := fun W => taking g L.length cap h _ W
    clear hmb hlb hlok
    generalize lackB L h.has k = lk at HOW HTK hq0 hq1 ⊢
    generalize ownI L h.who lk = ow at HOW hq0 hq1
    have HQ0 : Hid (ow = 0 → LearnAns L h k x false (bits .or .i64 h.has lk) .nilIface true) := hq0
    have HQ1 : Hid (¬ ow = 0 → LearnAns L h k x false h.has (.iface 97 (.agg #[.int .i64 k, .int .i64 lk, .iface 159 (.pointer (some x.loose))])) false) := hq1
    have HQ : Hid (Below w.heap.size w (w1.alloc (.cells #[.slice (some ⟨g, 0, none⟩) L.length cap, .int .i64 h.who, .int .i64 h.has, .int .i64 h.kept, .int .i64 h.last] 62)) ∧ Ow (w1.alloc (.cells #[.slice (some ⟨g, 0, none⟩) L.length cap, .int .i64 h.who, .int .i64 h.has, .int .i64 h.kept, .int .i64 h.last] 62)) w.heap.size (.slice (some ⟨g, 0, none⟩) L.length cap) (.int .i64 h.who) (.int .i64 h.has) (.int .i64 h.kept) (.int .i64 h.last) ∧ Ow (w1.alloc (.cells #[.slice (some ⟨g, 0, none⟩) L.length cap, .int .i64 h.who, .int .i64 h.has, .int .i64 h.kept, .int .i64 h.last] 62)) (w.heap.size + 1) (.slice none 0 0) (.int .i64 0) (.int .i64 0) (.int .i64 0) (.int .i64 0)) :=
      ⟨HB1.out.alloc HB1.out.size _, HO1.out.below ((Below.refl _ _).alloc (Nat.le_refl _) _), HZ1.out.below ((Below.refl _ _).alloc (Nat.le_refl _) _)⟩
    clear hq0 hq1 HO1 HZ1 HB1
    go_upto_region 2 with fail
    generalize w1.alloc (.cells #[.slice (some ⟨g, 0, none⟩) L.length cap, .int .i64 h.who, .int .i64 h.has, .int .i64 h.kept, .int .i64 h.last] 62) = V2 at HQ ⊢
    have HB2 : Hid (Below w.heap.size w V2) := HQ.out.1
    have HO2 : Hid (Ow V2 w.heap.size (.slice (some ⟨g, 0, none⟩) L.length cap) (.int .i64 h.who) (.int .i64 h.has) (.int .i64 h.kept) (.int .i64 h.last)) := HQ.out.2.1
    have HZ2 : Hid (Ow V2 (w.heap.size + 1) (.slice none 0 0) (.int .i64 0) (.int .i64 0) (.int .i64 0) (.int .i64 0)) := HQ.out.2.2
    clear HQ
    generalize w1.heap.size = mb at hzb ⊢
    have hc4 := (HS.out.below HB2.out).1.c4
    go_upto_region 4 with (go_at_call 59; refine (Er.is_wrap _ _ _ _).mono ?_; rintro e w3 ⟨rfl, hb3⟩)
    have HB3 : Hid (Below w.heap.size w w3) := HB2.out.trans (hb3.mono HB2.out.size)
    have HO3 : Hid (Ow w3 w.heap.size (.slice (some ⟨g, 0, none⟩) L.length cap) (.int .i64 h.who) (.int .i64 h.has) (.int .i64 h.kept) (.int .i64 h.last)) := HO2.out.below hb3
    have HZ3 : Hid (Ow w3 (w.heap.size + 1) (.slice none 0 0) (.int .i64 0) (.int .i64 0) (.int .i64 0) (.int .i64 0)) := HZ2.out.below hb3
    clear hc4 HB2 HO2 HZ2 hb3
    have HSA : Hid (SenA w3 x) := HS.out.below HB3.out
    have HAS : Hid (Calls Tryd.prog 66 #[.iface 97 (.agg #[.int .i64 k, .int .i64 lk, .iface 159 (.pointer (some x.loose))]), .iface 101 (.pointer (some ⟨w3.heap.size, 0, none⟩))] (w3.alloc (.cells #[.int .i64 0, .int .i64 0, .nilIface] 97)) fun e w' => e = .returned (.bool true) ∧ Below w3.heap.size w3 w' ∧ w'.cell? ⟨w3.heap.size, 1, none⟩ = some (.int .i64 lk)) := as_refusal _ k lk x.loose _ w3 (HSA.out.2.below ((Below.refl _ _).alloc (Nat.le_refl _) _)) rfl rfl
    go_upto_region 5 with fail
    have hzl : w.heap.size + 1 < w3.heap.size := HZ3.out.lt
    generalize w3.alloc (.cells #[.int .i64 0, .int .i64 0, .nilIface] 97) = V4 at HAS ⊢
    clear HSA
    have HAS2 : Hid (Calls Tryd.prog 66 #[.iface 97 (.agg #[.int .i64 k, .int .i64 lk, .iface 159 (.pointer (some x.loose))]), .iface 101 (.pointer (some ⟨w3.heap.size, 0, none⟩))] V4 fun e w' => e = .returned (.bool true) ∧ Hid (Below w.heap.size w w') ∧ Hid (Ow w' (w.heap.size + 1) (.slice none 0 0) (.int .i64 0) (.int .i64 0) (.int .i64 0) (.int .i64 0)) ∧ Ow w' w.heap.size (.slice (some ⟨g, 0, none⟩) L.length cap) (.int .i64 h.who) (.int .i64 h.has) (.int .i64 h.kept) (.int .i64 h.last) ∧ w'.cell? ⟨w3.heap.size, 1, none⟩ = some (.int .i64 lk) ∧ RdK w' (some ⟨g, 0, none⟩) L) := HAS.out.mono fun e w' q => ⟨q.1, HB3.out.trans (q.2.1.mono HB3.out.size), HZ3.out.below q.2.1, HO3.out.below q.2.1, q.2.2, (HR.out.below HB3.out).below q.2.1⟩
    clear HAS HB3 HO3 HZ3 HR HS
    generalize w3.heap.size = lb at HAS2 hzl ⊢
    have HFO : Hid (∀ X Y : World, Below X.heap.size X Y → Ow X w.heap.size (.slice (some ⟨g, 0, none⟩) L.length cap) (.int .i64 h.who) (.int .i64 h.has) (.int .i64 h.kept) (.int .i64 h.last) → X.cell? ⟨lb, 1, none⟩ = some (.int .i64 lk) → Ow Y w.heap.size (.slice (some ⟨g, 0, none⟩) L.length cap) (.int .i64 h.who) (.int .i64 h.has) (.int .i64 h.kept) (.int .i64 h.last) ∧ Y.cell? ⟨lb, 1, none⟩ = some (.int .i64 lk)) := fun X Y hb o c => ⟨o.below hb, (hb.cell (p := ⟨lb, 1, none⟩) (cell_lt c)).trans c⟩
    by_cases how : ow = 0
    · go_upto_region 6 with (first
        | (go_at_call 66; refine HAS2.out.mono ?_; rintro e w5 ⟨rfl, HB5, HZ5, ho5, hl5, hr5⟩; have HO5 : Hid (Ow w5 w.heap.size (.slice (some ⟨g, 0, none⟩) L.length cap) (.int .i64 h.who) (.int .i64 h.has) (.int .i64 h.kept) (.int .i64 h.last)) := ho5; obtain ⟨_, x0, x1, x2, x3, x4, _, _, _, _, _⟩ := ho5)
        | (go_at_call 64; refine (HOW.out _ hr5).mono ?_; rintro e w6 ⟨rfl, hb6⟩))
      have HB6 : Hid (Below w.heap.size w w6) := HB5.out.trans (hb6.mono HB5.out.size)
      have HO6 : Hid (Ow w6 w.heap.size (.slice (some ⟨g, 0, none⟩) L.length cap) (.int .i64 h.who) (.int .i64 h.has) (.int .i64 h.kept) (.int .i64 h.last)) := HO5.out.below hb6
      have HZ6 : Hid (Ow w6 (w.heap.size + 1) (.slice none 0 0) (.int .i64 0) (.int .i64 0) (.int .i64 0) (.int .i64 0)) := HZ5.out.below hb6
      have hl6 : w6.cell? ⟨lb, 1, none⟩ = some (.int .i64 lk) := (hb6.cell (p := ⟨lb, 1, none⟩) (cell_lt hl5)).trans hl5
      clear x0 x1 x2 x3 x4 HB5 HO5 HZ5 hl5 hr5 hb6 HFO
      obtain ⟨_, x0, x1, x2, x3, x4, _, _, _, _, _⟩ := HO6.out
      have HFZ : Hid (∀ X : World, Below w6.heap.size w6 X → Below w.heap.size w X ∧ Ow X (w.heap.size + 1) (.slice none 0 0) (.int .i64 0) (.int .i64 0) (.int .i64 0) (.int .i64 0)) := fun X hX => ⟨HB6.out.trans (hX.mono HB6.out.size), HZ6.out.below hX⟩
      clear HB6 HO6 HZ6
      go_wp2_with fail
      refine (HTK.out _).mono ?_
      rintro e w7 ⟨rfl, hb7⟩
      have HB7 : Hid (Below w.heap.size w w7) := (HFZ.out w7 hb7).1
      have HZ7 : Hid (Ow w7 (w.heap.size + 1) (.slice none 0 0) (.int .i64 0) (.int .i64 0) (.int .i64 0) (.int .i64 0)) := (HFZ.out w7 hb7).2
      clear x0 x1 x2 x3 x4 hl6 hb7 HFZ
      obtain ⟨_, z0, z1, z2, z3, z4, f0, f1, f2, f3, f4⟩ := HZ7.out
      obtain ⟨WW, hW, hOW, hBW, hsW, hcW⟩ := HZ7.out.put (.slice (some ⟨g, 0, none⟩) L.length cap) (.int .i64 h.who) (.int .i64 (bits .or .i64 h.has lk)) (.int .i64 h.kept) (.int .i64 h.last)
      have HW : Hid (WW = _) := hW
      have HBE : Hid (Below w.heap.size w WW) := hBW _ _ HB7.out (by omega)
      obtain ⟨_, y0, y1, y2, y3, y4, _, _, _, _, _⟩ := hOW
      clear hW hBW hsW hcW
      go_wp2
      rw [← HW.out]
      refine bodyPost_ret (v := .tuple #[.agg #[.slice (some ⟨g, 0, none⟩) L.length cap, .int .i64 h.who, .int .i64 (bits .or .i64 h.has lk), .int .i64 h.kept, .int .i64 h.last], .nilIface]) (by simp [results, Tryd.f33, go_sem, y0, y1, y2, y3, y4]) rfl ?_
      exact ⟨HBE.out, _, _, true, rfl, HQ0.out how⟩
    · go_upto_region 7 with (first
        | (go_at_call 66; refine HAS2.out.mono ?_; rintro e w5 ⟨rfl, HB5, HZ5, ho5, hl5, hr5⟩; have HO5 : Hid (Ow w5 w.heap.size (.slice (some ⟨g, 0, none⟩) L.length cap) (.int .i64 h.who) (.int .i64 h.has) (.int .i64 h.kept) (.int .i64 h.last)) := ho5; obtain ⟨_, x0, x1, x2, x3, x4, _, _, _, _, _⟩ := ho5)
        | (go_at_call 64; refine (HOW.out _ hr5).mono ?_; rintro e w6 ⟨rfl, hb6⟩))
      have HB6 : Hid (Below w.heap.size w w6) := HB5.out.trans (hb6.mono HB5.out.size)
      have HO6 : Hid (Ow w6 w.heap.size (.slice (some ⟨g, 0, none⟩) L.length cap) (.int .i64 h.who) (.int .i64 h.has) (.int .i64 h.kept) (.int .i64 h.last)) := HO5.out.below hb6
      have HZ6 : Hid (Ow w6 (w.heap.size + 1) (.slice none 0 0) (.int .i64 0) (.int .i64 0) (.int .i64 0) (.int .i64 0)) := HZ5.out.below hb6
      clear x0 x1 x2 x3 x4 HB5 HO5 HZ5 hl5 hr5 hb6 HFO
      obtain ⟨_, x0, x1, x2, x3, x4, _, _, _, _, _⟩ := HO6.out
      obtain ⟨_, z0, z1, z2, z3, z4, f0, f1, f2, f3, f4⟩ := HZ6.out
      obtain ⟨WW, hW, hOW, hBW, hsW, hcW⟩ := HZ6.out.put (.slice (some ⟨g, 0, none⟩) L.length cap) (.int .i64 h.who) (.int .i64 h.has) (.int .i64 h.kept) (.int .i64 h.last)
      have HW : Hid (WW = _) := hW
      have HBE : Hid (Below w.heap.size w WW) := hBW _ _ HB6.out (by omega)
      obtain ⟨_, y0, y1, y2, y3, y4, _, _, _, _, _⟩ := hOW
      clear hW hBW hsW hcW
      go_wp2
      rw [← HW.out]
      refine bodyPost_ret (v := .tuple #[.agg #[.slice (some ⟨g, 0, none⟩) L.length cap, .int .i64 h.who, .int .i64 h.has, .int .i64 h.kept, .int .i64 h.last], .iface 97 (.agg #[.int .i64 k, .int .i64 lk, .iface 159 (.pointer (some x.loose))])]) (by simp [results, Tryd.f33, go_sem, y0, y1, y2, y3, y4]) rfl ?_
      exact ⟨HBE.out, _, _, false, rfl, HQ1.out how⟩


set_option maxHeartbeats 1600000 in
theorem implLearnsAll (g off cap : Nat) (L : List K) (h : Hd) (k : Int) (x : Ad) (w : World) (hlen : L.length ≤ 1099511627776) (hw : WordsOk L) (hk : H64 h) (hr : RdK w (some ⟨g, off, none⟩) L) (hn : SenA w x) :
    Calls Tryd.prog 16 #[.slice (some ⟨g, off, none⟩) L.length cap, .agg #[.int .i64 h.who, .int .i64 h.has, .int .i64 h.kept, .int .i64 h.last], .int .i64 k] w fun e w' => e = .returned (.tuple #[.agg #[.int .i64 (learnedH L h k false).who, .int .i64 (learnedH L h k false).has, .int .i64 (learnedH L h k false).kept, .int .i64 (learnedH L h k false).last], .bool (learnedB L h k false)]) ∧ Below w.heap.size w w' := by
  have P0 : Hid (HzO w ((w.alloc (.cells #[.int .i64 h.who, .int .i64 h.has, .int .i64 h.kept, .int .i64 h.last] 26)).alloc (.cells #[.int .i64 0, .int .i64 0, .int .i64 0, .int .i64 0] 26)) h ⟨0, 0, 0, 0⟩) := hzo_new w h _
  go_enter Tryd.func16, Tryd.ntmps16
  go_upto_region 1 with fail
  generalize (w.alloc (.cells #[.int .i64 h.who, .int .i64 h.has, .int .i64 h.kept, .int .i64 h.last] 26)).alloc (.cells #[.int .i64 0, .int .i64 0, .int .i64 0, .int .i64 0] 26) = V at P0 ⊢
  obtain ⟨a0, a1, a2, a3⟩ := cellsH P0.out.hh
  have ho := taught 33 (enters_of Tryd.func33 (by kernel_rfl) rfl) false (fun W => SenA W x) g off cap L h k x V (fun q b => q.below b) (fun q => q.1) hlen hw hk (hr.below P0.out.bel) (hn.below P0.out.bel) (fun hok g1 V1 hg hr1 hs => by
    have hpt := hok
    unfold handOkB at hpt
    rw [Bool.and_eq_true] at hpt
    have hbd := hok_parts hk hpt.1 hpt.2
    exact learnsAll g1 L.length L h k x V1 hpt.1 hok hk hbd.1 hbd.2.1 hg hr1 hs)
  clear hr hn
  generalize hxe : learnedH L h k false = hx at ho
  generalize hbe : learnedB L h k false = bx at ho
  have HXE : Hid (learnedH L h k false = hx ∧ learnedB L h k false = bx) := ⟨hxe, hbe⟩
  clear hxe hbe
  go_wp2_with fail
  refine ho.mono ?_
  clear ho a0 a1 a2 a3
  rintro e w1 ⟨rfl, hb1⟩
  have P1 : Hid (HzO w w1 h ⟨0, 0, 0, 0⟩) := P0.out.below hb1
  obtain ⟨W, hW, b0, b1, b2, b3, hB⟩ := P1.out.put hx
  have HW : Hid (W = _) := hW
  obtain ⟨z0, z1, z2, z3⟩ := cellsH P1.out.zz
  have f0 := P1.out.zz.f0
  have f1 := P1.out.zz.f1
  have f2 := P1.out.zz.f2
  have f3 := P1.out.zz.f3
  simp only [Nat.zero_add] at f1 f2 f3
  clear hW P0 hb1
  go_wp2
  rw [← HW.out]
  refine bodyPost_ret (v := .tuple #[.agg #[.int .i64 hx.who, .int .i64 hx.has, .int .i64 hx.kept, .int .i64 hx.last], .bool bx]) (by simp [results, Tryd.f16, go_sem, b0, b1, b2, b3]) rfl ?_
  exact ⟨by rw [HXE.out.1, HXE.out.2], hB⟩

end Rm
end Go.Proofs.YtapfmadnkaimeaaDoor
