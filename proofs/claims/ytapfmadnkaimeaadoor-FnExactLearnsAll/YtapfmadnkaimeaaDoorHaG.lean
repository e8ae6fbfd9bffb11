/-
  What the program's taught and Learns answer: as the model's; the five variables hold different errors of errors.New's make.
-/
import Derived.Test.YtapfmadnkaimeaaDoorHaP
import Derived.Test.YtapfmadnkaimeaaDoorHandM
namespace Go.Proofs.YtapfmadnkaimeaaDoor
open Go.RowKit
set_option maxRecDepth 100000
set_option linter.unusedVariables false
namespace Rm
open Kn (K okK)
open Bit (bit withB)
open Lc (at' RdK laceB WordsOk)
open Sg (bel belows closedTo orB)

/-- what learning hands back: the new set, the error, whether it was learned -/
structure LearnAns (L : List K) (h : Hd) (k : Int) (x : Ad) (al : Bool) (nh : Int) (E : Value) (b : Bool) : Prop where
  hd : learnedH L h k al = ⟨h.who, nh, h.kept, h.last⟩
  bo : learnedB L h k al = b
  er : (E = .nilIface ∧ b = true) ∨ (b = false ∧ ∃ y : Why, y ≠ .taken ∧ ∃ lk : Int, E = .iface 97 (.agg #[.int .i64 k, .int .i64 lk, .iface 159 (.pointer (some (whyA x y)))]))
def LearnEnds (g cap : Nat) (L : List K) (h : Hd) (k : Int) (x : Ad) (al : Bool) (w : World) (e : Ending) (w' : World) : Prop :=
  Below w.heap.size w w' ∧ ∃ nh E b, e = .returned (.tuple #[.agg #[.slice (some ⟨g, 0, none⟩) L.length cap, .int .i64 h.who, .int .i64 nh, .int .i64 h.kept, .int .i64 h.last], E]) ∧ LearnAns L h k x al nh E b
theorem LearnAns.isHand {L : List K} {h : Hd} {k : Int} {x : Ad} {al : Bool} {nh : Int} {E : Value} {b : Bool} (q : LearnAns L h k x al nh E b) (W : World) (hs : Sen W x) : Calls Tryd.prog 59 #[E, .iface 159 (.pointer (some x.hand))] W fun e w' => e = .returned (.bool false) ∧ Below W.heap.size W w' := by
  rcases q.er with ⟨rfl, _⟩ | ⟨_, y, hy, lk, rfl⟩
  · exact (Er.is_nil _ W).mono fun e w' z => ⟨z.1, z.2 ▸ Below.refl _ _⟩
  · obtain ⟨ch, th, hh⟩ := hs.r0
    cases y
    · exact absurd rfl hy
    · obtain ⟨c, t, hc⟩ := hs.r1; exact Er.is_other k lk _ _ _ _ _ _ W hs.n1 hc hh
    · obtain ⟨c, t, hc⟩ := hs.r2; exact Er.is_other k lk _ _ _ _ _ _ W hs.n2 hc hh
    · obtain ⟨c, t, hc⟩ := hs.r4; exact Er.is_other k lk _ _ _ _ _ _ W hs.n4 hc hh
    · obtain ⟨c, t, hc⟩ := hs.r3; exact Er.is_other k lk _ _ _ _ _ _ W hs.n3 hc hh
theorem hat_put5 {W : World} {b c : Nat} {h : Hd} (x : HAt W b 0 h) (hne : b ≠ c) (u0 u1 u2 u3 u4 : Value) : HAt (((((W.setCell ⟨c, 0, none⟩ u0).setCell ⟨c, 1, none⟩ u1).setCell ⟨c, 2, none⟩ u2).setCell ⟨c, 3, none⟩ u3).setCell ⟨c, 4, none⟩ u4) b 0 h := by
  have hn : ∀ i j : Nat, (⟨c, i, none⟩ : Addr) ≠ ⟨b, j, none⟩ := fun i j e => hne (by injection e with e; exact e.symm)
  have hc : ∀ j : Nat, (((((W.setCell ⟨c, 0, none⟩ u0).setCell ⟨c, 1, none⟩ u1).setCell ⟨c, 2, none⟩ u2).setCell ⟨c, 3, none⟩ u3).setCell ⟨c, 4, none⟩ u4).cell? ⟨b, j, none⟩ = W.cell? ⟨b, j, none⟩ := fun j => by
    rw [World.cell?_setCell_other _ _ _ _ (hn 4 j), World.cell?_setCell_other _ _ _ _ (hn 3 j), World.cell?_setCell_other _ _ _ _ (hn 2 j), World.cell?_setCell_other _ _ _ _ (hn 1 j), World.cell?_setCell_other _ _ _ _ (hn 0 j)]
  obtain ⟨lt, c0, c1, c2, c3, f0, f1, f2, f3⟩ := x
  refine ⟨by simpa using lt, (hc _).trans c0, (hc _).trans c1, (hc _).trans c2, (hc _).trans c3, ?_, ?_, ?_, ?_⟩
  all_goals (simp only [World.frozen?_setCell]; assumption)

set_option maxHeartbeats 3200000 in
theorem taught (fid : Nat) (eg : ∀ (args : Array Value) (w : World), (callFunc fid args).run Tryd.prog w = .ok (.enter fid args) w) (al : Bool) (S : World → Prop) (g off cap : Nat) (L : List K) (h : Hd) (k : Int) (x : Ad) (w : World) (hSb : ∀ {W V : World}, S W → Below W.heap.size W V → S V) (hS : ∀ {W : World}, S W → Sen W x) (hlen : L.length ≤ 1099511627776) (hw : WordsOk L) (hk : H64 h) (hr : RdK w (some ⟨g, off, none⟩) L) (hn : S w)
    (hlc : handOkB L h = true → ∀ (g1 : Nat) (V : World), g1 < V.heap.size → RdK V (some ⟨g1, 0, none⟩) L → S V → Calls Tryd.prog fid #[.agg #[.slice (some ⟨g1, 0, none⟩) L.length L.length, .int .i64 h.who, .int .i64 h.has, .int .i64 h.kept, .int .i64 h.last], .int .i64 k] V (LearnEnds g1 L.length L h k x al V)) :
    Calls Tryd.prog 31 #[.slice (some ⟨g, off, none⟩) L.length cap, .agg #[.int .i64 h.who, .int .i64 h.has, .int .i64 h.kept, .int .i64 h.last], .int .i64 k, .func (.func fid) #[] #[]] w fun e w' => e = .returned (.tuple #[.agg #[.int .i64 (learnedH L h k al).who, .int .i64 (learnedH L h k al).has, .int .i64 (learnedH L h k al).kept, .int .i64 (learnedH L h k al).last], .bool (learnedB L h k al)]) ∧ Below w.heap.size w w' := by
  have P0 : Hid (HzO w ((w.alloc (.cells #[.int .i64 h.who, .int .i64 h.has, .int .i64 h.kept, .int .i64 h.last] 26)).alloc (.cells #[.int .i64 0, .int .i64 0, .int .i64 0, .int .i64 0] 26)) h ⟨0, 0, 0, 0⟩) := hzo_new w h _
  have HS : Hid (S w) := hn
  have HLC : Hid (handOkB L h = true → ∀ (g1 : Nat) (V : World), g1 < V.heap.size → RdK V (some ⟨g1, 0, none⟩) L → S V → Calls Tryd.prog fid #[.agg #[.slice (some ⟨g1, 0, none⟩) L.length L.length, .int .i64 h.who, .int .i64 h.has, .int .i64 h.kept, .int .i64 h.last], .int .i64 k] V (LearnEnds g1 L.length L h k x al V)) := hlc
  clear hn hlc
  go_enter Tryd.func31, Tryd.ntmps31
  go_upto_region 1 with fail
  generalize (w.alloc (.cells #[.int .i64 h.who, .int .i64 h.has, .int .i64 h.kept, .int .i64 h.last] 26)).alloc (.cells #[.int .i64 0, .int .i64 0, .int .i64 0, .int .i64 0] 26) = V at P0 ⊢
  obtain ⟨a0, a1, a2, a3⟩ := cellsH P0.out.hh
  have ho := ownerOf g off cap L h x.hand V hlen hw hk (hr.below P0.out.bel) (hS (hSb HS.out P0.out.bel)).noh
  clear hr
  go_wp2_with fail
  refine ho.mono ?_
  clear ho a0 a1 a2 a3
  intro e w1 hp
  rcases hp with ⟨hl, g1, rfl, hg1, hr1, hb1⟩ | ⟨hl, rfl, hb1⟩
  · have hle := HLC.out hl g1
    have P1 : Hid (HzO w w1 h ⟨0, 0, 0, 0⟩) := P0.out.below hb1
    have HQ : Hid (HzO w (w1.alloc (.cells #[.slice (some ⟨g1, 0, none⟩) L.length L.length, .int .i64 h.who, .int .i64 h.has, .int .i64 h.kept, .int .i64 h.last] 62)) h ⟨0, 0, 0, 0⟩ ∧ Ow (w1.alloc (.cells #[.slice (some ⟨g1, 0, none⟩) L.length L.length, .int .i64 h.who, .int .i64 h.has, .int .i64 h.kept, .int .i64 h.last] 62)) w1.heap.size (.slice (some ⟨g1, 0, none⟩) L.length L.length) (.int .i64 h.who) (.int .i64 h.has) (.int .i64 h.kept) (.int .i64 h.last) ∧ RdK (w1.alloc (.cells #[.slice (some ⟨g1, 0, none⟩) L.length L.length, .int .i64 h.who, .int .i64 h.has, .int .i64 h.kept, .int .i64 h.last] 62)) (some ⟨g1, 0, none⟩) L ∧ g1 < (w1.alloc (.cells #[.slice (some ⟨g1, 0, none⟩) L.length L.length, .int .i64 h.who, .int .i64 h.has, .int .i64 h.kept, .int .i64 h.last] 62)).heap.size) := ⟨P1.out.below ((Below.refl _ _).alloc (Nat.le_refl _) _), ow_new w1 _ _ _ _ _ _, hr1.below ((Below.refl _ _).alloc (Nat.le_refl _) _), by simp; omega⟩
    have hzb : w.heap.size + 1 < w1.heap.size := P1.out.zz.lt
    clear hb1 P0 P1 hr1 hl HLC
    go_upto_region 2 with fail
    generalize w1.alloc (.cells #[.slice (some ⟨g1, 0, none⟩) L.length L.length, .int .i64 h.who, .int .i64 h.has, .int .i64 h.kept, .int .i64 h.last] 62) = V2 at HQ ⊢
    have P2 : Hid (HzO w V2 h ⟨0, 0, 0, 0⟩) := HQ.out.1
    have HX2 : Hid (Ow V2 w1.heap.size (.slice (some ⟨g1, 0, none⟩) L.length L.length) (.int .i64 h.who) (.int .i64 h.has) (.int .i64 h.kept) (.int .i64 h.last)) := HQ.out.2.1
    obtain ⟨_, x0, x1, x2, x3, x4, _, _, _, _, _⟩ := HQ.out.2.1
    have hle := hle V2 HQ.out.2.2.2 HQ.out.2.2.1 (hSb HS.out P2.out.bel)
    clear HQ hg1
    generalize w1.heap.size = xb at HX2 x0 x1 x2 x3 x4 hzb ⊢
    go_wp2_with fail
    refine hle.mono ?_
    clear hle x0 x1 x2 x3 x4
    intro e w3 hp3
    obtain ⟨hb3, nh, E, b, rfl, hans⟩ := hp3
    have HA : Hid (LearnAns L h k x al nh E b) := hans
    have HIS : Hid (∀ W : World, Sen W x → Calls Tryd.prog 59 #[E, .iface 159 (.pointer (some x.hand))] W fun e w' => e = .returned (.bool false) ∧ Below W.heap.size W w') := hans.isHand
    have HX3 : Hid (Ow w3 xb (.slice (some ⟨g1, 0, none⟩) L.length L.length) (.int .i64 h.who) (.int .i64 h.has) (.int .i64 h.kept) (.int .i64 h.last)) := HX2.out.below hb3
    have HB3 : Hid (Below w.heap.size w w3) := P2.out.bel.trans (hb3.mono P2.out.bel.size)
    obtain ⟨WW, hW, hOW, hBW, hsW, hcW⟩ := HX3.out.put (.slice (some ⟨g1, 0, none⟩) L.length L.length) (.int .i64 h.who) (.int .i64 nh) (.int .i64 h.kept) (.int .i64 h.last)
    have HW : Hid (WW = _) := hW
    have HB4 : Hid (Below w.heap.size w WW) := hBW _ _ HB3.out (by omega)
    have HZ4 : Hid (HAt WW (w.heap.size + 1) 0 ⟨0, 0, 0, 0⟩) := by show HAt _ _ _ _; rw [hW]; exact hat_put5 (hat_below P2.out.zz hb3) (by omega) _ _ _ _ _
    have HO4 : Hid (Ow WW xb (.slice (some ⟨g1, 0, none⟩) L.length L.length) (.int .i64 h.who) (.int .i64 nh) (.int .i64 h.kept) (.int .i64 h.last)) := hOW
    obtain ⟨_, x0, x1, x2, x3, x4, f0, f1, f2, f3, f4⟩ := HX3.out
    clear hW hBW hsW hcW hOW hans hb3 P2 HX2 HX3 HB3
    go_upto_region 4 with fail
    rw [← HW.out]
    clear HW x0 x1 x2 x3 x4 f0 f1 f2 f3 f4
    have HSN : Hid (Sen WW x) := hS (hSb HS.out HB4.out)
    have hc0 := HSN.out.c0
    go_upto_region 6 with (go_at_call 59; refine (HIS.out _ HSN.out).mono ?_; rintro e w5 ⟨rfl, hb5⟩)
    have HB5 : Hid (Below w.heap.size w w5) := HB4.out.trans (hb5.mono HB4.out.size)
    have HZ5 : Hid (HAt w5 (w.heap.size + 1) 0 ⟨0, 0, 0, 0⟩) := hat_below HZ4.out hb5
    have HO5 : Hid (Ow w5 xb (.slice (some ⟨g1, 0, none⟩) L.length L.length) (.int .i64 h.who) (.int .i64 nh) (.int .i64 h.kept) (.int .i64 h.last)) := HO4.out.below hb5
    clear HB4 HZ4 HO4 hb5 HSN hc0 HIS
    obtain ⟨_, x0, x1, x2, x3, x4, _, _, _, _, _⟩ := HO5.out
    clear HO5
    have HFIN : Hid (∀ X : World, Below w5.heap.size w5 X → Below w.heap.size w X ∧ HAt X (w.heap.size + 1) 0 ⟨0, 0, 0, 0⟩) := fun X hX => ⟨HB5.out.trans (hX.mono HB5.out.size), hat_below HZ5.out hX⟩
    clear HB5 HZ5
    have HD : Hid (learnedH L h k al = ⟨h.who, nh, h.kept, h.last⟩ ∧ learnedB L h k al = b) := ⟨HA.out.hd, HA.out.bo⟩
    have er := HA.out.er
    clear HA
    obtain ⟨rv, her⟩ : ∃ rv : Value, (E = .nilIface ∧ b = true) ∨ (b = false ∧ E = .iface 97 rv) := by
      rcases er with q | ⟨q, y, _, lk, r⟩
      · exact ⟨.nilIface, .inl q⟩
      · exact ⟨_, .inr ⟨q, r⟩⟩
    clear er
    rcases her with ⟨rfl, rfl⟩ | ⟨rfl, rfl⟩
    all_goals
      go_region_law (first
        | (rw [if_pos (by simp [Region.wanted])]
           go_simp
           refine (handedOut _ ⟨h.who, nh, h.kept, h.last⟩ _).mono ?_
           rintro e w6 ⟨rfl, hb6⟩
           have HB6 := HFIN.out w6 (by first | exact hb6 | exact (Below.refl _ w5).drew.trans hb6)
           have HZ6 : Hid (HAt w6 (w.heap.size + 1) 0 ⟨0, 0, 0, 0⟩) := HB6.2
           obtain ⟨z0, z1, z2, z3⟩ := cellsH HB6.2
           have f0 := HB6.2.f0
           have f1 := HB6.2.f1
           have f2 := HB6.2.f2
           have f3 := HB6.2.f3
           simp only [Nat.zero_add] at f1 f2 f3
           have HB6 : Hid (Below w.heap.size w w6) := HB6.1))
    all_goals
      obtain ⟨b0, b1, b2, b3⟩ := hput HZ6.out (.int .i64 h.who) (.int .i64 nh) (.int .i64 h.kept) (.int .i64 h.last)
      have HE : Hid _ := (((HB6.out.setCell (p := ⟨w.heap.size + 1, 0, none⟩) (by simp) (.int .i64 h.who)).setCell (p := ⟨w.heap.size + 1, 1, none⟩) (by simp) (.int .i64 nh)).setCell (p := ⟨w.heap.size + 1, 2, none⟩) (by simp) (.int .i64 h.kept)).setCell (p := ⟨w.heap.size + 1, 3, none⟩) (by simp) (.int .i64 h.last)
      go_wp2
    · refine bodyPost_ret (v := .tuple #[.agg #[.int .i64 h.who, .int .i64 nh, .int .i64 h.kept, .int .i64 h.last], .bool true]) (by simp [results, Tryd.f31, go_sem, b0, b1, b2, b3]) rfl ?_
      exact ⟨by rw [HD.out.1, HD.out.2], HE.out⟩
    · refine bodyPost_ret (v := .tuple #[.agg #[.int .i64 h.who, .int .i64 nh, .int .i64 h.kept, .int .i64 h.last], .bool false]) (by simp [results, Tryd.f31, go_sem, b0, b1, b2, b3]) rfl ?_
      exact ⟨by rw [HD.out.1, HD.out.2], HE.out⟩
  · have HT : Hid (learnedH L h k al = ⟨0, 0, 0, 0⟩ ∧ learnedB L h k al = false) := by
      constructor
      · unfold learnedH; rw [hl]; rfl
      · unfold learnedB; rw [hl]; rfl
    have P1 : Hid (HzO w w1 h ⟨0, 0, 0, 0⟩) := P0.out.below hb1
    have HQ : Hid (HzO w (w1.alloc (.cells #[.slice none 0 0, .int .i64 0, .int .i64 0, .int .i64 0, .int .i64 0] 62)) h ⟨0, 0, 0, 0⟩) := P1.out.below ((Below.refl _ _).alloc (Nat.le_refl _) _)
    clear hl hb1 P0 P1 HLC
    go_upto_region 2 with fail
    generalize w1.alloc (.cells #[.slice none 0 0, .int .i64 0, .int .i64 0, .int .i64 0, .int .i64 0] 62) = V2 at HQ ⊢
    obtain ⟨W, hW, b0, b1, b2, b3, hB⟩ := HQ.out.put ⟨0, 0, 0, 0⟩
    have HW : Hid (W = _) := hW
    obtain ⟨z0, z1, z2, z3⟩ := cellsH HQ.out.zz
    have f0 := HQ.out.zz.f0
    have f1 := HQ.out.zz.f1
    have f2 := HQ.out.zz.f2
    have f3 := HQ.out.zz.f3
    simp only [Nat.zero_add] at f1 f2 f3
    dsimp only at b0 b1 b2 b3 HW
    have hc0 := (hS (hSb HS.out HQ.out.bel)).c0
    clear hW
    go_wp2_with (go_at_call 59; refine (Er.is_same _ _).mono ?_; rintro e w' ⟨rfl, rfl⟩)
    rw [← HW.out]
    refine bodyPost_ret (v := .tuple #[.agg #[.int .i64 0, .int .i64 0, .int .i64 0, .int .i64 0], .bool false]) (by simp [results, Tryd.f31, go_sem, b0, b1, b2, b3]) rfl ?_
    exact ⟨by rw [HT.out.1, HT.out.2], hB⟩

theorem learn_ends {g cap : Nat} {L : List K} {h : Hd} {k : Int} {x : Ad} {w w' : World} {e : Ending} (hok : handOkB L h = true) (hk : H64 h) (q : LearnsPost g cap L h k x (whyB L h k) w e w') : LearnEnds g cap L h k x true w e w' := by
  have hi := hand_is hk hok
  have hb : learnedB L h k true = tookB L h k (whyB L h k) true := by unfold learnedB; rw [hok, Bool.true_and, learn_why hi]
  have hh : learnedH L h k true = if tookB L h k (whyB L h k) true then { h with has := orB h.has ((belows L L.length).getD k.toNat 0) } else h := by unfold learnedH; rw [if_pos hok, learn_why hi]
  have ho := learn_or hi k true
  rw [learn_why hi] at ho
  refine ⟨q.1, ?_⟩
  have q2 := q.2
  generalize whyB L h k = y at hb hh ho q2
  cases y
  · exact ⟨_, _, true, q2, by rw [hh, ← ho rfl]; rfl, hb, .inl ⟨rfl, rfl⟩⟩
  · exact ⟨_, _, false, q2, hh, hb, .inr ⟨rfl, .knot, by simp, _, rfl⟩⟩
  · exact ⟨_, _, false, q2, hh, hb, .inr ⟨rfl, .there, by simp, _, rfl⟩⟩
  · exact ⟨_, _, false, q2, hh, hb, .inr ⟨rfl, .loose, by simp, _, rfl⟩⟩
  · exact ⟨_, _, false, q2, hh, hb, .inr ⟨rfl, .own, by simp, _, rfl⟩⟩

set_option maxHeartbeats 1600000 in
theorem implLearns (g off cap : Nat) (L : List K) (h : Hd) (k : Int) (x : Ad) (w : World) (hlen : L.length ≤ 1099511627776) (hw : WordsOk L) (hk : H64 h) (hr : RdK w (some ⟨g, off, none⟩) L) (hn : Sen w x) :
    Calls Tryd.prog 12 #[.slice (some ⟨g, off, none⟩) L.length cap, .agg #[.int .i64 h.who, .int .i64 h.has, .int .i64 h.kept, .int .i64 h.last], .int .i64 k] w fun e w' => e = .returned (.tuple #[.agg #[.int .i64 (learnedH L h k true).who, .int .i64 (learnedH L h k true).has, .int .i64 (learnedH L h k true).kept, .int .i64 (learnedH L h k true).last], .bool (learnedB L h k true)]) ∧ Below w.heap.size w w' := by
  have P0 : Hid (HzO w ((w.alloc (.cells #[.int .i64 h.who, .int .i64 h.has, .int .i64 h.kept, .int .i64 h.last] 26)).alloc (.cells #[.int .i64 0, .int .i64 0, .int .i64 0, .int .i64 0] 26)) h ⟨0, 0, 0, 0⟩) := hzo_new w h _
  go_enter Tryd.func12, Tryd.ntmps12
  go_upto_region 1 with fail
  generalize (w.alloc (.cells #[.int .i64 h.who, .int .i64 h.has, .int .i64 h.kept, .int .i64 h.last] 26)).alloc (.cells #[.int .i64 0, .int .i64 0, .int .i64 0, .int .i64 0] 26) = V at P0 ⊢
  obtain ⟨a0, a1, a2, a3⟩ := cellsH P0.out.hh
  have ho := taught 32 (enters_of Tryd.func32 (by kernel_rfl) rfl) true (fun W => Sen W x) g off cap L h k x V (fun q b => q.below b) (fun q => q) hlen hw hk (hr.below P0.out.bel) (hn.below P0.out.bel) (fun hok g1 V1 hg hr1 hs => by
    have hpt := hok
    unfold handOkB at hpt
    rw [Bool.and_eq_true] at hpt
    have hbd := hok_parts hk hpt.1 hpt.2
    exact (learns g1 L.length L h k x V1 hpt.1 hbd.1 hbd.2.1 hg hr1 hs).mono fun _ _ q => learn_ends hok hk q)
  clear hr hn
  generalize hxe : learnedH L h k true = hx at ho
  generalize hbe : learnedB L h k true = bx at ho
  have HXE : Hid (learnedH L h k true = hx ∧ learnedB L h k true = bx) := ⟨hxe, hbe⟩
  clear hxe hbe
  go_wp2_with fail
  refine ho.mono ?_
  clear ho a0 a1 a2 a3
  rintro e w1 ⟨rfl, hb1⟩
  have P1 : Hid (HzO w w1 h ⟨0, 0, 0, 0⟩) := P0.out.below hb1
  obtain ⟨W, hW, b0, b1, b2, b3, hB⟩ := P1.out.put hx
  have HW : Hid (W = _) := hW
  obtain ⟨z0, z1, z2, z3⟩ := cellsH P1.out.zz
  have f0 := P1.out.zz.f0
  have f1 := P1.out.zz.f1
  have f2 := P1.out.zz.f2
  have f3 := P1.out.zz.f3
  simp only [Nat.zero_add] at f1 f2 f3
  clear hW P0 hb1
  go_wp2
  rw [← HW.out]
  refine bodyPost_ret (v := .tuple #[.agg #[.int .i64 hx.who, .int .i64 hx.has, .int .i64 hx.kept, .int .i64 hx.last], .bool bx]) (by simp [results, Tryd.f12, go_sem, b0, b1, b2, b3]) rfl ?_
  exact ⟨by rw [HXE.out.1, HXE.out.2], hB⟩

end Rm
end Go.Proofs.YtapfmadnkaimeaaDoor
