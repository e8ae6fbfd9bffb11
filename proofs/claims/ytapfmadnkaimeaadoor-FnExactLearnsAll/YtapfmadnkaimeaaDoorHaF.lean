/-
  What the program's learning answers: as the model's, or an error that wraps its reason and tells what lacks; the five variables hold different errors of errors.New's make.
-/
import Derived.Test.YtapfmadnkaimeaaDoorHaC
import Derived.Test.YtapfmadnkaimeaaDoorHaE
namespace Go.Proofs.YtapfmadnkaimeaaDoor
open Go.RowKit
set_option maxRecDepth 100000
set_option linter.unusedVariables false
namespace Rm
open Kn (K okK)
open Bit (bit withB)
open Lc (at' RdK laceB WordsOk)
open Sg (bel belows closedTo orB)

/-- where the five errors lie -/
structure Ad where
  hand : Addr
  knot : Addr
  there : Addr
  own : Addr
  loose : Addr
def RowE (W : World) (a : Addr) : Prop := ∃ c t, W.heap[a.block]? = some (.cells c t (0, 0))
theorem RowE.below {W V : World} {a : Addr} (h : RowE W a) (hb : Below W.heap.size W V) : RowE V a := by
  obtain ⟨c, t, h⟩ := h
  have hlt : a.block < W.heap.size := by
    rcases Nat.lt_or_ge a.block W.heap.size with q | q
    · exact q
    · rw [Array.getElem?_eq_none q] at h; cases h
  exact ⟨c, t, (hb.block _ hlt).trans h⟩
structure Sen (W : World) (x : Ad) : Prop where
  c0 : W.cell? ⟨0, 0, none⟩ = some (.iface 159 (.pointer (some x.hand)))
  c1 : W.cell? ⟨1, 0, none⟩ = some (.iface 159 (.pointer (some x.knot)))
  c2 : W.cell? ⟨2, 0, none⟩ = some (.iface 159 (.pointer (some x.there)))
  c3 : W.cell? ⟨4, 0, none⟩ = some (.iface 159 (.pointer (some x.own)))
  c4 : W.cell? ⟨3, 0, none⟩ = some (.iface 159 (.pointer (some x.loose)))
  r0 : RowE W x.hand
  r1 : RowE W x.knot
  r2 : RowE W x.there
  r3 : RowE W x.own
  r4 : RowE W x.loose
  n1 : x.knot ≠ x.hand
  n2 : x.there ≠ x.hand
  n3 : x.own ≠ x.hand
  n4 : x.loose ≠ x.hand
  m1 : x.knot ≠ x.loose
  m2 : x.there ≠ x.loose
  m3 : x.own ≠ x.loose
theorem Sen.below {W V : World} {x : Ad} (h : Sen W x) (hb : Below W.heap.size W V) : Sen V x :=
  ⟨(hb.cell (p := ⟨0, 0, none⟩) (cell_lt h.c0)).trans h.c0, (hb.cell (p := ⟨1, 0, none⟩) (cell_lt h.c1)).trans h.c1, (hb.cell (p := ⟨2, 0, none⟩) (cell_lt h.c2)).trans h.c2, (hb.cell (p := ⟨4, 0, none⟩) (cell_lt h.c3)).trans h.c3, (hb.cell (p := ⟨3, 0, none⟩) (cell_lt h.c4)).trans h.c4,
   h.r0.below hb, h.r1.below hb, h.r2.below hb, h.r3.below hb, h.r4.below hb, h.n1, h.n2, h.n3, h.n4, h.m1, h.m2, h.m3⟩
def Sens (W : World) : Prop := ∃ x, Sen W x
theorem Sens.below {W V : World} (h : Sens W) (hb : Below W.heap.size W V) : Sens V := h.elim fun a q => ⟨a, q.below hb⟩
theorem Sen.noh {W : World} {x : Ad} (h : Sen W x) : NoH W x.hand := h.c0

/-- what a knot lacks -/
def lackB (L : List K) (has k : Int) : Int := bits .andNot .i64 (Sg.metI L k) has
/-- why it is not taken; none: it is taken -/
inductive Why where
  | taken
  | knot
  | there
  | loose
  | own
def whyB (L : List K) (h : Hd) (k : Int) : Why :=
  if !(decide (0 ≤ k) && decide (k < (L.length : Int))) then .knot else if Base.inB k && bit h.has k.toNat then .there else if lackB L h.has k != Sg.oneI k then .loose else if ownI L h.who (lackB L h.has k) != 0 then .own else .taken
/-- how learning ends -/
def whyA (x : Ad) : Why → Addr
  | .taken => x.hand
  | .knot => x.knot
  | .there => x.there
  | .loose => x.loose
  | .own => x.own
def LearnsPost (g cap : Nat) (L : List K) (h : Hd) (k : Int) (x : Ad) (y : Why) (w : World) (e : Ending) (w' : World) : Prop :=
  Below w.heap.size w w' ∧ match y with
  | .taken => e = .returned (.tuple #[.agg #[.slice (some ⟨g, 0, none⟩) L.length cap, .int .i64 h.who, .int .i64 (bits .or .i64 h.has (lackB L h.has k)), .int .i64 h.kept, .int .i64 h.last], .nilIface])
  | y => e = .returned (.tuple #[.agg #[.slice (some ⟨g, 0, none⟩) L.length cap, .int .i64 h.who, .int .i64 h.has, .int .i64 h.kept, .int .i64 h.last], .iface 97 (.agg #[.int .i64 k, .int .i64 (lackB L h.has k), .iface 159 (.pointer (some (whyA x y)))])])

theorem met_bd {L : List K} (hl : laceB L = true) (k : Int) : 0 ≤ Sg.metI L k ∧ Sg.metI L k < 1152921504606846976 := by
  have h60 := ((Lc.lace_iff L).1 hl).1
  unfold Sg.metI
  split
  · exact Sg.bel_bd L _ (by omega)
  · omega

set_option maxHeartbeats 6400000 in
theorem learns (g cap : Nat) (L : List K) (h : Hd) (k : Int) (x : Ad) (w : World) (hlc : laceB L = true) (hh0 : 0 ≤ h.has) (hh1 : h.has < 1152921504606846976) (hg : g < w.heap.size) (hr : RdK w (some ⟨g, 0, none⟩) L) (hs : Sen w x) :
    Calls Tryd.prog 32 #[.agg #[.slice (some ⟨g, 0, none⟩) L.length cap, .int .i64 h.who, .int .i64 h.has, .int .i64 h.kept, .int .i64 h.last], .int .i64 k] w (LearnsPost g cap L h k x (whyB L h k) w) := by
  have h60 := ((Lc.lace_iff L).1 hlc).1
  have P0 : Hid (Below w.heap.size w ((w.alloc (.cells #[.slice (some ⟨g, 0, none⟩) L.length cap, .int .i64 h.who, .int .i64 h.has, .int .i64 h.kept, .int .i64 h.last] 62)).alloc (.cells #[.slice none 0 0, .int .i64 0, .int .i64 0, .int .i64 0, .int .i64 0] 62)) ∧ Ow ((w.alloc (.cells #[.slice (some ⟨g, 0, none⟩) L.length cap, .int .i64 h.who, .int .i64 h.has, .int .i64 h.kept, .int .i64 h.last] 62)).alloc (.cells #[.slice none 0 0, .int .i64 0, .int .i64 0, .int .i64 0, .int .i64 0] 62)) w.heap.size (.slice (some ⟨g, 0, none⟩) L.length cap) (.int .i64 h.who) (.int .i64 h.has) (.int .i64 h.kept) (.int .i64 h.last) ∧ Ow ((w.alloc (.cells #[.slice (some ⟨g, 0, none⟩) L.length cap, .int .i64 h.who, .int .i64 h.has, .int .i64 h.kept, .int .i64 h.last] 62)).alloc (.cells #[.slice none 0 0, .int .i64 0, .int .i64 0, .int .i64 0, .int .i64 0] 62)) (w.heap.size + 1) (.slice none 0 0) (.int .i64 0) (.int .i64 0) (.int .i64 0) (.int .i64 0)) :=
    ⟨((Below.refl _ w).alloc (Nat.le_refl _) _).alloc (by simp) _, (ow_new w _ _ _ _ _ _).below ((Below.refl _ _).alloc (Nat.le_refl _) _), by
      have q := ow_new (w.alloc (.cells #[.slice (some ⟨g, 0, none⟩) L.length cap, .int .i64 h.who, .int .i64 h.has, .int .i64 h.kept, .int .i64 h.last] 62)) (.slice none 0 0) (.int .i64 0) (.int .i64 0) (.int .i64 0) (.int .i64 0) 62
      rw [World.size_alloc] at q
      exact q⟩
  have HR : Hid (RdK w (some ⟨g, 0, none⟩) L) := hr
  have HS : Hid (Sen w x) := hs
  clear hr hs
  go_enter Tryd.func32, Tryd.ntmps32
  go_upto_region 1 with fail
  generalize (w.alloc (.cells #[.slice (some ⟨g, 0, none⟩) L.length cap, .int .i64 h.who, .int .i64 h.has, .int .i64 h.kept, .int .i64 h.last] 62)).alloc (.cells #[.slice none 0 0, .int .i64 0, .int .i64 0, .int .i64 0, .int .i64 0] 62) = V at P0 ⊢
  have HB0 : Hid (Below w.heap.size w V) := P0.out.1
  have HO0 : Hid (Ow V w.heap.size (.slice (some ⟨g, 0, none⟩) L.length cap) (.int .i64 h.who) (.int .i64 h.has) (.int .i64 h.kept) (.int .i64 h.last)) := P0.out.2.1
  have HZ0 : Hid (Ow V (w.heap.size + 1) (.slice none 0 0) (.int .i64 0) (.int .i64 0) (.int .i64 0) (.int .i64 0)) := P0.out.2.2
  have hgV : g < V.heap.size := Nat.lt_of_lt_of_le hg P0.out.1.size
  have HRV : Hid (RdK V (some ⟨g, 0, none⟩) L) := HR.out.below P0.out.1
  have hbV : w.heap.size < V.heap.size := P0.out.2.1.lt
  clear P0
  have HBW : Hid (∀ W : World, Below V.heap.size V W → Calls Tryd.prog 60 #[.slice (some ⟨g, 0, none⟩) L.length cap, .int .i64 k] W fun e w' => e = .returned (.int .i64 (Sg.metI L k)) ∧ Below V.heap.size V w') := fun W hW => (Sg.below g 0 cap L k W hlc (Nat.lt_of_lt_of_le hgV hW.size) (HRV.out.below hW)).mono fun _ _ q => ⟨q.1, hW.trans (q.2.mono hW.size)⟩
  have hmb := met_bd hlc k
  have hlb := Rm.andNot_bd (Sg.metI L k) h.has hmb.1 hmb.2
  have HLK : Hid (lackB L h.has k = bits .andNot .i64 (Sg.metI L k) h.has) := rfl
  obtain ⟨X, _, F, HF, HG⟩ := Fam.fam V
  have HC : Hid (∀ z, Ow (F z) w.heap.size (.slice (some ⟨g, 0, none⟩) L.length cap) (.int .i64 h.who) (.int .i64 h.has) (.int .i64 h.kept) (.int .i64 h.last)) := fun z => HO0.out.below (HF.out z)
  have d0 : ∀ z, (F z).cell? ⟨w.heap.size, 0, none⟩ = some (.slice (some ⟨g, 0, none⟩) L.length cap) := fun z => (HC.out z).c0
  have d2 : ∀ z, (F z).cell? ⟨w.heap.size, 2, none⟩ = some (.int .i64 h.has) := fun z => (HC.out z).c2
  clear HC
  refine Fam.region (F := F) (by kernel_rfl) (by kernel_rfl) (HG.out _ (Below.refl _ V).drew) ?_
  repeat (go_big_quiet_step (first
    | (go_at_call 60; exact (HBW.out _ (HF.out _)).mono fun _ _ q => ⟨q.1, HG.out _ q.2⟩)))
  refine wpQuiet_nil ?_
  intro w2 hw2
  obtain ⟨z, rfl⟩ := hw2
  have HB1 : Hid (Below w.heap.size w (F z)) := HB0.out.trans ((HF.out z).mono HB0.out.size)
  have HO1 : Hid (Ow (F z) w.heap.size (.slice (some ⟨g, 0, none⟩) L.length cap) (.int .i64 h.who) (.int .i64 h.has) (.int .i64 h.kept) (.int .i64 h.last)) := HO0.out.below (HF.out z)
  have HZ1 : Hid (Ow (F z) (w.heap.size + 1) (.slice none 0 0) (.int .i64 0) (.int .i64 0) (.int .i64 0) (.int .i64 0)) := HZ0.out.below (HF.out z)
  have HR1 : Hid (RdK (F z) (some ⟨g, 0, none⟩) L) := HRV.out.below (HF.out z)
  clear d0 d2 HBW HB0 HO0 HZ0 HRV hbV hgV
  generalize F z = W1 at HB1 HO1 HZ1 HR1 ⊢
  clear HF HG
  rw [← HLK.out] at hlb ⊢
  have hlok : Base.okB (lackB L h.has k) = true := (Base.okB_iff _).2 hlb
  have HHK : Hid (Base.okB h.has = true) := (Base.okB_iff _).2 ⟨hh0, hh1⟩
  have HAL : Hid ((Base.okB (2 ^ L.length - 1) && (Base.inB k && bit (2 ^ L.length - 1) k.toNat)) = (decide (0 ≤ k) && decide (k < (L.length : Int)))) := Sg.all_has h60 k
  clear HLK hmb
  have HOW : Hid (∀ W : World, RdK W (some ⟨g, 0, none⟩) L → Calls Tryd.prog 64 #[.agg #[.slice (some ⟨g, 0, none⟩) L.length cap, .int .i64 h.who, .int .i64 h.has, .int .i64 h.kept, .int .i64 h.last], .int .i64 (lackB L h.has k)] W fun e w' => e = .returned (.int .i64 (ownI L h.who (lackB L h.has k))) ∧ Below W.heap.size W w') := fun W hW => own g cap L h _ W h60 hlok hW
  have HTK : Hid (∀ W : World, Calls Tryd.prog 65 #[.agg #[.slice (some ⟨g, 0, none⟩) L.length cap, .int .i64 h.who, .int .i64 h.has, .int .i64 h.kept, .int .i64 h.last], .int .i64 (lackB L h.has k)] W fun e w' => e = .returned (.agg #[.slice (some ⟨g, 0, none⟩) L.length cap, .int .i64 h.who, .int .i64 (bits .or .i64 h.has (lackB L h.has k)), .int .i64 h.kept, .int .i64 h.last]) ∧ Below W.heap.size W w') := fun W => taking g L.length cap h _ W
  have HWY : Hid (whyB L h k = if !(decide (0 ≤ k) && decide (k < (L.length : Int))) then .knot else if Base.inB k && bit h.has k.toNat then .there else if lackB L h.has k != Sg.oneI k then .loose else if ownI L h.who (lackB L h.has k) != 0 then .own else .taken) := rfl
  clear hlok hlb
  cases hk1 : (decide (0 ≤ k) && decide (k < (L.length : Int)))
  · have HT : Hid (whyB L h k = .knot) := by show _ = _; rw [HWY.out, hk1]; rfl
    rw [hk1] at HAL
    obtain ⟨_, x0, _, _, _, _, _, _, _, _, _⟩ := HO1.out
    clear HWY hk1 HOW HTK HHK
    go_upto_region 3 with (first | (go_at_call 61; refine (Lc.all _ _ _ _ h60).mono ?_; rintro e w' ⟨rfl, rfl⟩) | (go_at_call 62; refine (Base.has _ _ _).mono ?_; rintro e w' ⟨rfl, rfl⟩; rw [HAL.out]))
    clear x0
    -- not taken
    have HSW := HS.out.below HB1.out
    obtain ⟨_, x0, x1, x2, x3, x4, _, _, _, _, _⟩ := HO1.out
    obtain ⟨_, z0, z1, z2, z3, z4, f0, f1, f2, f3, f4⟩ := HZ1.out
    have hgc := HSW.c1
    have hgn : 1 < w.heap.size := cell_lt HS.out.c1
    obtain ⟨WW, hW, hOW, hBW, hsW, hcW⟩ := HZ1.out.put (.slice (some ⟨g, 0, none⟩) L.length cap) (.int .i64 h.who) (.int .i64 h.has) (.int .i64 h.kept) (.int .i64 h.last)
    have HW : Hid (WW = _) := hW
    have HBE : Hid (Below w.heap.size w WW.drew) := (hBW _ _ HB1.out (by omega)).drew
    obtain ⟨_, y0, y1, y2, y3, y4, _, _, _, _, _⟩ := hOW.drew
    have hne : ¬ w.heap.size + 1 = 1 := by omega
    have hnb : ¬ w.heap.size + 1 = w.heap.size := by omega
    clear hW hBW hsW hcW hgn
    generalize w.heap.size + 1 = zb at HW z0 z1 z2 z3 z4 f0 f1 f2 f3 f4 y0 y1 y2 y3 y4 hne hnb ⊢
    go_region
    all_goals go_wp2
    all_goals rw [← HW.out]
    all_goals refine bodyPost_ret (v := .tuple #[.agg #[.slice (some ⟨g, 0, none⟩) L.length cap, .int .i64 h.who, .int .i64 h.has, .int .i64 h.kept, .int .i64 h.last], .iface 97 (.agg #[.int .i64 k, .int .i64 (lackB L h.has k), .iface 159 (.pointer (some x.knot))])]) (by simp [results, Tryd.f32, go_sem, y0, y1, y2, y3, y4]) rfl ?_
    all_goals exact ⟨HBE.out, by rw [HT.out]; rfl⟩
  rw [hk1] at HAL HWY
  cases hk2 : (Base.inB k && bit h.has k.toNat)
  rotate_left
  · have HT : Hid (whyB L h k = .there) := by show _ = _; rw [HWY.out, hk2]; rfl
    have HHS : Hid ((Base.okB h.has && (Base.inB k && bit h.has k.toNat)) = true) := by show _ = _; rw [HHK.out, hk2]; rfl
    obtain ⟨_, x0, _, x2, _, _, _, _, _, _, _⟩ := HO1.out
    clear HWY hk1 hk2 HOW HTK HHK
    go_upto_region 5 with (first | (go_at_call 61; refine (Lc.all _ _ _ _ h60).mono ?_; rintro e w' ⟨rfl, rfl⟩) | (go_at_call 62; refine (Base.has _ _ _).mono ?_; rintro e w' ⟨rfl, rfl⟩; first | rw [HAL.out] | rw [HHS.out]))
    clear x0 x2
    -- not taken
    have HSW := HS.out.below HB1.out
    obtain ⟨_, x0, x1, x2, x3, x4, _, _, _, _, _⟩ := HO1.out
    obtain ⟨_, z0, z1, z2, z3, z4, f0, f1, f2, f3, f4⟩ := HZ1.out
    have hgc := HSW.c2
    have hgn : 2 < w.heap.size := cell_lt HS.out.c2
    obtain ⟨WW, hW, hOW, hBW, hsW, hcW⟩ := HZ1.out.put (.slice (some ⟨g, 0, none⟩) L.length cap) (.int .i64 h.who) (.int .i64 h.has) (.int .i64 h.kept) (.int .i64 h.last)
    have HW : Hid (WW = _) := hW
    have HBE : Hid (Below w.heap.size w WW.drew) := (hBW _ _ HB1.out (by omega)).drew
    obtain ⟨_, y0, y1, y2, y3, y4, _, _, _, _, _⟩ := hOW.drew
    have hne : ¬ w.heap.size + 1 = 2 := by omega
    have hnb : ¬ w.heap.size + 1 = w.heap.size := by omega
    clear hW hBW hsW hcW hgn
    generalize w.heap.size + 1 = zb at HW z0 z1 z2 z3 z4 f0 f1 f2 f3 f4 y0 y1 y2 y3 y4 hne hnb ⊢
    go_region
    all_goals go_wp2
    all_goals rw [← HW.out]
    all_goals refine bodyPost_ret (v := .tuple #[.agg #[.slice (some ⟨g, 0, none⟩) L.length cap, .int .i64 h.who, .int .i64 h.has, .int .i64 h.kept, .int .i64 h.last], .iface 97 (.agg #[.int .i64 k, .int .i64 (lackB L h.has k), .iface 159 (.pointer (some x.there))])]) (by simp [results, Tryd.f32, go_sem, y0, y1, y2, y3, y4]) rfl ?_
    all_goals exact ⟨HBE.out, by rw [HT.out]; rfl⟩
  have HHS : Hid ((Base.okB h.has && (Base.inB k && bit h.has k.toNat)) = false) := by show _ = _; rw [HHK.out, hk2]; rfl
  rw [hk2] at HWY
  clear HHK hk1 hk2
  have HWO : Hid (Base.withI 0 k = Sg.oneI k) := Sg.with_one k
  cases hk3 : (lackB L h.has k != Sg.oneI k)
  rotate_left
  · have HT : Hid (whyB L h k = .loose) := by show _ = _; rw [HWY.out, hk3]; rfl
    obtain ⟨_, x0, _, x2, _, _, _, _, _, _, _⟩ := HO1.out
    clear HWY HOW HTK
    generalize hlk : lackB L h.has k = lk at hk3 ⊢
    have HLK2 : Hid (lackB L h.has k = lk) := hlk
    clear hlk
    generalize Sg.oneI k = ok at hk3 HWO
    go_upto_region 7 with (first | (go_at_call 61; refine (Lc.all _ _ _ _ h60).mono ?_; rintro e w' ⟨rfl, rfl⟩) | (go_at_call 62; refine (Base.has _ _ _).mono ?_; rintro e w' ⟨rfl, rfl⟩; first | rw [HAL.out] | rw [HHS.out]) | (go_at_call 63; refine (Base.withM _ _ _).mono ?_; rintro e w' ⟨rfl, rfl⟩; rw [HWO.out]))
    clear x0 x2 hk3
    -- not taken
    have HSW := HS.out.below HB1.out
    obtain ⟨_, x0, x1, x2, x3, x4, _, _, _, _, _⟩ := HO1.out
    obtain ⟨_, z0, z1, z2, z3, z4, f0, f1, f2, f3, f4⟩ := HZ1.out
    have hgc := HSW.c4
    have hgn : 3 < w.heap.size := cell_lt HS.out.c4
    obtain ⟨WW, hW, hOW, hBW, hsW, hcW⟩ := HZ1.out.put (.slice (some ⟨g, 0, none⟩) L.length cap) (.int .i64 h.who) (.int .i64 h.has) (.int .i64 h.kept) (.int .i64 h.last)
    have HW : Hid (WW = _) := hW
    have HBE : Hid (Below w.heap.size w WW.drew) := (hBW _ _ HB1.out (by omega)).drew
    obtain ⟨_, y0, y1, y2, y3, y4, _, _, _, _, _⟩ := hOW.drew
    have hne : ¬ w.heap.size + 1 = 3 := by omega
    have hnb : ¬ w.heap.size + 1 = w.heap.size := by omega
    clear hW hBW hsW hcW hgn
    generalize w.heap.size + 1 = zb at HW z0 z1 z2 z3 z4 f0 f1 f2 f3 f4 y0 y1 y2 y3 y4 hne hnb ⊢
    go_region
    all_goals go_wp2
    all_goals rw [← HW.out]
    all_goals refine bodyPost_ret (v := .tuple #[.agg #[.slice (some ⟨g, 0, none⟩) L.length cap, .int .i64 h.who, .int .i64 h.has, .int .i64 h.kept, .int .i64 h.last], .iface 97 (.agg #[.int .i64 k, .int .i64 lk, .iface 159 (.pointer (some x.loose))])]) (by simp [results, Tryd.f32, go_sem, y0, y1, y2, y3, y4]) rfl ?_
    all_goals exact ⟨HBE.out, by rw [HT.out]; show _ = _; rw [HLK2.out]; rfl⟩
  rw [hk3] at HWY
  generalize hlk : lackB L h.has k = lk at hk3 HOW HTK HWY ⊢
  have HLK2 : Hid (lackB L h.has k = lk) := hlk
  clear hlk
  generalize hwi : ownI L h.who lk = ow at HOW HWY
  clear hwi
  generalize Sg.oneI k = ok at hk3 HWO
  obtain ⟨_, x0, x1, x2, x3, x4, _, _, _, _, _⟩ := HO1.out
  go_upto_region 8 with (first | (go_at_call 61; refine (Lc.all _ _ _ _ h60).mono ?_; rintro e w' ⟨rfl, rfl⟩) | (go_at_call 62; refine (Base.has _ _ _).mono ?_; rintro e w' ⟨rfl, rfl⟩; first | rw [HAL.out] | rw [HHS.out]) | (go_at_call 63; refine (Base.withM _ _ _).mono ?_; rintro e w' ⟨rfl, rfl⟩; rw [HWO.out]))
  go_wp2_with fail
  refine (HOW.out _ HR1.out).mono ?_
  rintro e W2 ⟨rfl, hb2⟩
  have HB2 : Hid (Below w.heap.size w W2) := HB1.out.trans (hb2.mono HB1.out.size)
  have HO2 : Hid (Ow W2 w.heap.size (.slice (some ⟨g, 0, none⟩) L.length cap) (.int .i64 h.who) (.int .i64 h.has) (.int .i64 h.kept) (.int .i64 h.last)) := HO1.out.below hb2
  have HZ2 : Hid (Ow W2 (w.heap.size + 1) (.slice none 0 0) (.int .i64 0) (.int .i64 0) (.int .i64 0) (.int .i64 0)) := HZ1.out.below hb2
  clear hb2 HB1 HO1 HZ1 HR1 HOW x0 x1 x2 x3 x4 HAL HHS HWO hk3
  cases hk4 : (ow != 0)
  rotate_left
  · have HT : Hid (whyB L h k = .own) := by show _ = _; rw [HWY.out, hk4]; rfl
    clear HWY HTK
    go_upto_region 9 with fail
    clear hk4
    -- not taken
    have HSW := HS.out.below HB2.out
    obtain ⟨_, x0, x1, x2, x3, x4, _, _, _, _, _⟩ := HO2.out
    obtain ⟨_, z0, z1, z2, z3, z4, f0, f1, f2, f3, f4⟩ := HZ2.out
    have hgc := HSW.c3
    have hgn : 4 < w.heap.size := cell_lt HS.out.c3
    obtain ⟨WW, hW, hOW, hBW, hsW, hcW⟩ := HZ2.out.put (.slice (some ⟨g, 0, none⟩) L.length cap) (.int .i64 h.who) (.int .i64 h.has) (.int .i64 h.kept) (.int .i64 h.last)
    have HW : Hid (WW = _) := hW
    have HBE : Hid (Below w.heap.size w WW.drew) := (hBW _ _ HB2.out (by omega)).drew
    obtain ⟨_, y0, y1, y2, y3, y4, _, _, _, _, _⟩ := hOW.drew
    have hne : ¬ w.heap.size + 1 = 4 := by omega
    have hnb : ¬ w.heap.size + 1 = w.heap.size := by omega
    clear hW hBW hsW hcW hgn
    generalize w.heap.size + 1 = zb at HW z0 z1 z2 z3 z4 f0 f1 f2 f3 f4 y0 y1 y2 y3 y4 hne hnb ⊢
    go_region
    all_goals go_wp2
    all_goals rw [← HW.out]
    all_goals refine bodyPost_ret (v := .tuple #[.agg #[.slice (some ⟨g, 0, none⟩) L.length cap, .int .i64 h.who, .int .i64 h.has, .int .i64 h.kept, .int .i64 h.last], .iface 97 (.agg #[.int .i64 k, .int .i64 lk, .iface 159 (.pointer (some x.own))])]) (by simp [results, Tryd.f32, go_sem, y0, y1, y2, y3, y4]) rfl ?_
    all_goals exact ⟨HBE.out, by rw [HT.out]; show _ = _; rw [HLK2.out]; rfl⟩
  · have HT : Hid (whyB L h k = .taken) := by show _ = _; rw [HWY.out, hk4]; rfl
    clear HWY
    obtain ⟨_, x0, x1, x2, x3, x4, _, _, _, _, _⟩ := HO2.out
    go_wp2_with fail
    refine (HTK.out _).mono ?_
    rintro e W3 ⟨rfl, hb3⟩
    have HB3 : Hid (Below w.heap.size w W3) := HB2.out.trans (hb3.mono HB2.out.size)
    have HZ3 : Hid (Ow W3 (w.heap.size + 1) (.slice none 0 0) (.int .i64 0) (.int .i64 0) (.int .i64 0) (.int .i64 0)) := HZ2.out.below hb3
    clear hb3 HB2 HO2 HZ2 x0 x1 x2 x3 x4 hk4
    obtain ⟨_, z0, z1, z2, z3, z4, f0, f1, f2, f3, f4⟩ := HZ3.out
    obtain ⟨WW, hW, hOW, hBW, hsW, hcW⟩ := HZ3.out.put (.slice (some ⟨g, 0, none⟩) L.length cap) (.int .i64 h.who) (.int .i64 (bits .or .i64 h.has lk)) (.int .i64 h.kept) (.int .i64 h.last)
    have HW : Hid (WW = _) := hW
    have HBE : Hid (Below w.heap.size w WW) := hBW _ _ HB3.out (by omega)
    obtain ⟨_, y0, y1, y2, y3, y4, _, _, _, _, _⟩ := hOW
    clear hW hBW hsW hcW
    generalize w.heap.size + 1 = zb at HW z0 z1 z2 z3 z4 f0 f1 f2 f3 f4 y0 y1 y2 y3 y4 ⊢
    go_wp2
    rw [← HW.out]
    refine bodyPost_ret (v := .tuple #[.agg #[.slice (some ⟨g, 0, none⟩) L.length cap, .int .i64 h.who, .int .i64 (bits .or .i64 h.has lk), .int .i64 h.kept, .int .i64 h.last], .nilIface]) (by simp [results, Tryd.f32, go_sem, y0, y1, y2, y3, y4]) rfl ?_
    exact ⟨HBE.out, by rw [HT.out]; show _ = _; rw [HLK2.out]⟩

end Rm
end Go.Proofs.YtapfmadnkaimeaaDoor
