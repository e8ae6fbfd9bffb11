/-
  What the program's asking for an owner answers, and HandOk, Keeps and Forgets: as the model's; the variable errNoHand holds an error of errors.New's make.
-/
import Derived.Test.YtapfmadnkaimeaaDoorHaT
namespace Go.Proofs.YtapfmadnkaimeaaDoor
open Go.RowKit
set_option maxRecDepth 100000
set_option linter.unusedVariables false
namespace Rm
open Kn (K okK)
open Bit (bit withB)
open Lc (at' RdK laceB WordsOk)
open Sg (bel belows closedTo orB)

/-- five cells of one block, that may be written -/
structure Ow (W : World) (b : Nat) (v0 v1 v2 v3 v4 : Value) : Prop where
  lt : b < W.heap.size
  c0 : W.cell? ⟨b, 0, none⟩ = some v0
  c1 : W.cell? ⟨b, 1, none⟩ = some v1
  c2 : W.cell? ⟨b, 2, none⟩ = some v2
  c3 : W.cell? ⟨b, 3, none⟩ = some v3
  c4 : W.cell? ⟨b, 4, none⟩ = some v4
  f0 : W.frozen? ⟨b, 0, none⟩ = false
  f1 : W.frozen? ⟨b, 1, none⟩ = false
  f2 : W.frozen? ⟨b, 2, none⟩ = false
  f3 : W.frozen? ⟨b, 3, none⟩ = false
  f4 : W.frozen? ⟨b, 4, none⟩ = false
theorem ow_new (W : World) (v0 v1 v2 v3 v4 : Value) (t : TypeId) : Ow (W.alloc (.cells #[v0, v1, v2, v3, v4] t)) W.heap.size v0 v1 v2 v3 v4 := ⟨by simp, by simp, by simp, by simp, by simp, by simp, by simp, by simp, by simp, by simp, by simp⟩
theorem fro_below {W V : World} {p : Addr} (hb : Below W.heap.size W V) (hl : p.block < W.heap.size) : V.frozen? p = W.frozen? p := hb.frozen hl
theorem Ow.below {W V : World} {b : Nat} {v0 v1 v2 v3 v4 : Value} (x : Ow W b v0 v1 v2 v3 v4) (hb : Below W.heap.size W V) : Ow V b v0 v1 v2 v3 v4 :=
  ⟨Nat.lt_of_lt_of_le x.lt hb.size, (hb.cell (p := ⟨b, 0, none⟩) x.lt).trans x.c0, (hb.cell (p := ⟨b, 1, none⟩) x.lt).trans x.c1, (hb.cell (p := ⟨b, 2, none⟩) x.lt).trans x.c2, (hb.cell (p := ⟨b, 3, none⟩) x.lt).trans x.c3, (hb.cell (p := ⟨b, 4, none⟩) x.lt).trans x.c4,
   (fro_below (p := ⟨b, 0, none⟩) hb x.lt).trans x.f0, (fro_below (p := ⟨b, 1, none⟩) hb x.lt).trans x.f1, (fro_below (p := ⟨b, 2, none⟩) hb x.lt).trans x.f2, (fro_below (p := ⟨b, 3, none⟩) hb x.lt).trans x.f3, (fro_below (p := ⟨b, 4, none⟩) hb x.lt).trans x.f4⟩
theorem Ow.drew {W : World} {b : Nat} {v0 v1 v2 v3 v4 : Value} (x : Ow W b v0 v1 v2 v3 v4) : Ow W.drew b v0 v1 v2 v3 v4 := ⟨x.lt, x.c0, x.c1, x.c2, x.c3, x.c4, x.f0, x.f1, x.f2, x.f3, x.f4⟩
theorem Ow.put {W : World} {b : Nat} {v0 v1 v2 v3 v4 : Value} (x : Ow W b v0 v1 v2 v3 v4) (u0 u1 u2 u3 u4 : Value) : ∃ V, V = (((((W.setCell ⟨b, 0, none⟩ u0).setCell ⟨b, 1, none⟩ u1).setCell ⟨b, 2, none⟩ u2).setCell ⟨b, 3, none⟩ u3).setCell ⟨b, 4, none⟩ u4) ∧
    Ow V b u0 u1 u2 u3 u4 ∧ (∀ (n : Nat) (w : World), Below n w W → n ≤ b → Below n w V) ∧ V.heap.size = W.heap.size ∧ (∀ p : Addr, p.block ≠ b → V.cell? p = W.cell? p) := by
  refine ⟨_, rfl, ?_, ?_, by simp, ?_⟩
  · refine ⟨by simp; exact x.lt, ?_, ?_, ?_, ?_, ?_, ?_, ?_, ?_, ?_, ?_⟩
    · rw [World.cell?_setCell_other _ _ _ _ (by simp), World.cell?_setCell_other _ _ _ _ (by simp), World.cell?_setCell_other _ _ _ _ (by simp), World.cell?_setCell_other _ _ _ _ (by simp)]
      exact World.cell?_setCell_same _ _ _ x.c0
    · rw [World.cell?_setCell_other _ _ _ _ (by simp), World.cell?_setCell_other _ _ _ _ (by simp), World.cell?_setCell_other _ _ _ _ (by simp)]
      exact World.cell?_setCell_same _ _ _ ((World.cell?_setCell_other _ _ _ _ (by simp)).trans x.c1)
    · rw [World.cell?_setCell_other _ _ _ _ (by simp), World.cell?_setCell_other _ _ _ _ (by simp)]
      exact World.cell?_setCell_same _ _ _ ((World.cell?_setCell_other _ _ _ _ (by simp)).trans ((World.cell?_setCell_other _ _ _ _ (by simp)).trans x.c2))
    · rw [World.cell?_setCell_other _ _ _ _ (by simp)]
      exact World.cell?_setCell_same _ _ _ ((World.cell?_setCell_other _ _ _ _ (by simp)).trans ((World.cell?_setCell_other _ _ _ _ (by simp)).trans ((World.cell?_setCell_other _ _ _ _ (by simp)).trans x.c3)))
    · exact World.cell?_setCell_same _ _ _ ((World.cell?_setCell_other _ _ _ _ (by simp)).trans ((World.cell?_setCell_other _ _ _ _ (by simp)).trans ((World.cell?_setCell_other _ _ _ _ (by simp)).trans ((World.cell?_setCell_other _ _ _ _ (by simp)).trans x.c4))))
    all_goals simp only [World.frozen?_setCell]
    · exact x.f0
    · exact x.f1
    · exact x.f2
    · exact x.f3
    · exact x.f4
  · intro n w hb hn
    exact ((((hb.setCell (p := ⟨b, 0, none⟩) hn _).setCell (p := ⟨b, 1, none⟩) hn _).setCell (p := ⟨b, 2, none⟩) hn _).setCell (p := ⟨b, 3, none⟩) hn _).setCell (p := ⟨b, 4, none⟩) hn _
  · intro p hp
    have hne : ∀ i : Nat, (⟨b, i, none⟩ : Addr) ≠ p := fun i e => hp (by rw [← e])
    rw [World.cell?_setCell_other _ _ _ _ (hne 4), World.cell?_setCell_other _ _ _ _ (hne 3), World.cell?_setCell_other _ _ _ _ (hne 2), World.cell?_setCell_other _ _ _ _ (hne 1), World.cell?_setCell_other _ _ _ _ (hne 0)]

theorem rdk_other {W V : World} {g b : Nat} {L : List K} {x : Option Addr} {n m : Nat} (h : RdK W (some ⟨g, 0, none⟩) L) (hc : ∀ p : Addr, p.block ≠ b → V.cell? p = W.cell? p) (hs : V.heap.size = W.heap.size) (hx : W.cell? ⟨b, 0, none⟩ = some (.slice x n m)) : RdK V (some ⟨g, 0, none⟩) L := by
  rcases h with h | ⟨g', off, ha, hg, hk⟩
  · exact .inl h
  · by_cases hl : L.length = 0
    · exact .inl (List.length_eq_zero_iff.1 hl)
    injection ha with ha
    injection ha with h1 h2
    subst h1 h2
    have hgb : g ≠ b := by
      rintro rfl
      have q := (hk 0 (by omega)).c0
      rw [show 0 + 0 * 4 = 0 from rfl, hx] at q
      cases q
    exact .inr ⟨g, 0, rfl, by rw [hs]; exact hg, fun i hi => ⟨(hc _ hgb).trans (hk i hi).c0, (hc _ hgb).trans (hk i hi).c1, (hc _ hgb).trans (hk i hi).c2, (hc _ hgb).trans (hk i hi).c3⟩⟩

set_option maxHeartbeats 3200000 in
theorem ownerOfA (ao : Option Addr) (cap : Nat) (L : List K) (h : Hd) (a : Addr) (w : World) (hla0 : ∀ V : World, Below w.heap.size w V → Calls Tryd.prog 87 #[.slice ao L.length cap] V (Lc.LacePost L V)) (hk : H64 h) (hn : NoH w a) :
    Calls Tryd.prog 58 #[.slice ao L.length cap, .agg #[.int .i64 h.who, .int .i64 h.has, .int .i64 h.kept, .int .i64 h.last]] w (OwnerPost L h a w) := by
  have P0 : Hid (Below w.heap.size w ((w.alloc (.cells #[.int .i64 h.who, .int .i64 h.has, .int .i64 h.kept, .int .i64 h.last] 26)).alloc (.cells #[.slice none 0 0, .int .i64 0, .int .i64 0, .int .i64 0, .int .i64 0] 62)) ∧ HAt ((w.alloc (.cells #[.int .i64 h.who, .int .i64 h.has, .int .i64 h.kept, .int .i64 h.last] 26)).alloc (.cells #[.slice none 0 0, .int .i64 0, .int .i64 0, .int .i64 0, .int .i64 0] 62)) w.heap.size 0 h ∧ Ow ((w.alloc (.cells #[.int .i64 h.who, .int .i64 h.has, .int .i64 h.kept, .int .i64 h.last] 26)).alloc (.cells #[.slice none 0 0, .int .i64 0, .int .i64 0, .int .i64 0, .int .i64 0] 62)) (w.heap.size + 1) (.slice none 0 0) (.int .i64 0) (.int .i64 0) (.int .i64 0) (.int .i64 0)) :=
    ⟨((Below.refl _ w).alloc (Nat.le_refl _) _).alloc (by simp) _, hat_below (hat_new w h _) ((Below.refl _ _).alloc (Nat.le_refl _) _), by
      have q := ow_new (w.alloc (.cells #[.int .i64 h.who, .int .i64 h.has, .int .i64 h.kept, .int .i64 h.last] 26)) (.slice none 0 0) (.int .i64 0) (.int .i64 0) (.int .i64 0) (.int .i64 0) 62
      rw [World.size_alloc] at q
      exact q⟩
  have hgl : 0 < w.heap.size := cell_lt hn
  have HN : Hid (NoH w a) := hn
  clear hn
  go_enter Tryd.func58, Tryd.ntmps58
  go_upto_region 1 with fail
  generalize (w.alloc (.cells #[.int .i64 h.who, .int .i64 h.has, .int .i64 h.kept, .int .i64 h.last] 26)).alloc (.cells #[.slice none 0 0, .int .i64 0, .int .i64 0, .int .i64 0, .int .i64 0] 62) = V at P0 ⊢
  obtain ⟨hB0, hH0, hO0⟩ := P0
  have HB0 : Hid (Below w.heap.size w V) := hB0
  have HH0 : Hid (HAt V w.heap.size 0 h) := hH0
  have HO0 : Hid (Ow V (w.heap.size + 1) (.slice none 0 0) (.int .i64 0) (.int .i64 0) (.int .i64 0) (.int .i64 0)) := hO0
  have hla := hla0 V hB0
  clear hla0
  clear hB0 hH0 hO0
  go_wp2_with fail
  refine hla.mono ?_
  clear hla
  intro e V1 hp
  have HEQ : Hid (handOkB L h = (laceB L && hokB L h)) := rfl
  rcases hp with ⟨hl, g1, rfl, hg1, hr1, hb1⟩ | ⟨hl, rfl, hb1⟩
  · have HB1 : Hid (Below w.heap.size w V1) := HB0.out.trans (hb1.mono HB0.out.size)
    have HH1 : Hid (HAt V1 w.heap.size 0 h) := hat_below HH0.out hb1
    have HO1 : Hid (Ow V1 (w.heap.size + 1) (.slice none 0 0) (.int .i64 0) (.int .i64 0) (.int .i64 0) (.int .i64 0)) := HO0.out.below hb1
    clear hb1 HB0 HH0 HO0
    have HQ : Hid (Below w.heap.size w (V1.alloc (.cells #[.slice (some ⟨g1, 0, none⟩) L.length L.length, .int .i64 h.who, .int .i64 h.has, .int .i64 h.kept, .int .i64 h.last] 62)) ∧ Ow (V1.alloc (.cells #[.slice (some ⟨g1, 0, none⟩) L.length L.length, .int .i64 h.who, .int .i64 h.has, .int .i64 h.kept, .int .i64 h.last] 62)) V1.heap.size (.slice (some ⟨g1, 0, none⟩) L.length L.length) (.int .i64 h.who) (.int .i64 h.has) (.int .i64 h.kept) (.int .i64 h.last) ∧ Ow (V1.alloc (.cells #[.slice (some ⟨g1, 0, none⟩) L.length L.length, .int .i64 h.who, .int .i64 h.has, .int .i64 h.kept, .int .i64 h.last] 62)) (w.heap.size + 1) (.slice none 0 0) (.int .i64 0) (.int .i64 0) (.int .i64 0) (.int .i64 0) ∧ RdK (V1.alloc (.cells #[.slice (some ⟨g1, 0, none⟩) L.length L.length, .int .i64 h.who, .int .i64 h.has, .int .i64 h.kept, .int .i64 h.last] 62)) (some ⟨g1, 0, none⟩) L ∧ g1 < (V1.alloc (.cells #[.slice (some ⟨g1, 0, none⟩) L.length L.length, .int .i64 h.who, .int .i64 h.has, .int .i64 h.kept, .int .i64 h.last] 62)).heap.size) :=
      ⟨HB1.out.alloc HB1.out.size _, ow_new V1 _ _ _ _ _ _, HO1.out.below ((Below.refl _ _).alloc (Nat.le_refl _) _), hr1.below ((Below.refl _ _).alloc (Nat.le_refl _) _), by simp; omega⟩
    have hbs : w.heap.size + 1 < V1.heap.size := HO1.out.lt
    obtain ⟨a0, a1, a2, a3⟩ := cellsH HH1.out
    clear HO1 HB1 HH1 hr1
    go_upto_region 3 with fail
    generalize V1.alloc (.cells #[.slice (some ⟨g1, 0, none⟩) L.length L.length, .int .i64 h.who, .int .i64 h.has, .int .i64 h.kept, .int .i64 h.last] 62) = V2 at HQ ⊢
    clear a0 a1 a2 a3
    obtain ⟨hB2, hX2, hO2, hR2, hg2⟩ := HQ
    have HB2 : Hid (Below w.heap.size w V2) := hB2
    have HX2 : Hid (Ow V2 V1.heap.size (.slice (some ⟨g1, 0, none⟩) L.length L.length) (.int .i64 h.who) (.int .i64 h.has) (.int .i64 h.kept) (.int .i64 h.last)) := hX2
    have HO2 : Hid (Ow V2 (w.heap.size + 1) (.slice none 0 0) (.int .i64 0) (.int .i64 0) (.int .i64 0) (.int .i64 0)) := hO2
    have HR2 : Hid (RdK V2 (some ⟨g1, 0, none⟩) L) := hR2
    obtain ⟨_, x0, x1, x2, x3, x4, _, _, _, _, _⟩ := hX2
    have hrt := right g1 L.length L h V2 hl hk hg2 hR2
    clear hB2 hO2 hR2
    generalize V1.heap.size = xb at HX2 x0 x1 x2 x3 x4 hbs ⊢
    go_wp2_with fail
    refine hrt.mono ?_
    clear hrt
    rintro e V3 ⟨rfl, hb3⟩
    have HB3 : Hid (Below w.heap.size w V3) := HB2.out.trans (hb3.mono HB2.out.size)
    have HX3 : Hid (Ow V3 xb (.slice (some ⟨g1, 0, none⟩) L.length L.length) (.int .i64 h.who) (.int .i64 h.has) (.int .i64 h.kept) (.int .i64 h.last)) := HX2.out.below hb3
    have HO3 : Hid (Ow V3 (w.heap.size + 1) (.slice none 0 0) (.int .i64 0) (.int .i64 0) (.int .i64 0) (.int .i64 0)) := HO2.out.below hb3
    have HR3 : Hid (RdK V3 (some ⟨g1, 0, none⟩) L) := HR2.out.below hb3
    have hg3 : g1 < V3.heap.size := Nat.lt_of_lt_of_le hg2 hb3.size
    clear hb3 HB2 HX2 HO2 HR2 x0 x1 x2 x3 x4
    cases hok : hokB L h
    · have HT : Hid (handOkB L h = false) := by show _ = _; rw [HEQ.out, hl, hok]; rfl
      clear hok HX3 HR3
      have hnw : V3.cell? ⟨0, 0, none⟩ = some (.iface 159 (.pointer (some a))) := (HB3.out.cell (p := ⟨0, 0, none⟩) hgl).trans HN.out
      obtain ⟨W, hW, hOW, hBW, hsW, hcW⟩ := HO3.out.put (.slice none 0 0) (.int .i64 0) (.int .i64 0) (.int .i64 0) (.int .i64 0)
      have HW : Hid (W = _) := hW
      have HBW : Hid (Below w.heap.size w W.drew) := (hBW _ _ HB3.out (by omega)).drew
      obtain ⟨_, z0, z1, z2, z3, z4, f0, f1, f2, f3, f4⟩ := HO3.out
      have YD : Hid (Ow W.drew (w.heap.size + 1) (.slice none 0 0) (.int .i64 0) (.int .i64 0) (.int .i64 0) (.int .i64 0)) := hOW.drew
      obtain ⟨_, y0, y1, y2, y3, y4, _, _, _, _, _⟩ := YD.out
      have hne : ¬ w.heap.size + 1 = 0 := by omega
      clear hW hBW hsW hcW
      generalize w.heap.size + 1 = zb at YD HW z0 z1 z2 z3 z4 f0 f1 f2 f3 f4 y0 y1 y2 y3 y4 hne ⊢
      go_upto_region 4 with fail
      go_region
      all_goals go_wp2
      all_goals rw [← HW.out]
      all_goals refine bodyPost_ret (v := .tuple #[.agg #[.slice none 0 0, .int .i64 0, .int .i64 0, .int .i64 0, .int .i64 0], .iface 159 (.pointer (some a))]) (by simp [results, Tryd.f58, go_sem, y0, y1, y2, y3, y4]) rfl ?_
      all_goals exact .inr ⟨HT.out, rfl, HBW.out⟩
    · have HT : Hid (handOkB L h = true) := by show _ = _; rw [HEQ.out, hl, hok]; rfl
      obtain ⟨W, hW, hOW, hBW, hsW, hcW⟩ := HO3.out.put (.slice (some ⟨g1, 0, none⟩) L.length L.length) (.int .i64 h.who) (.int .i64 h.has) (.int .i64 h.kept) (.int .i64 h.last)
      have HW : Hid (W = _) := hW
      have HBW : Hid (Below w.heap.size w W) := hBW _ _ HB3.out (by omega)
      have HRW : Hid (RdK W (some ⟨g1, 0, none⟩) L ∧ g1 < W.heap.size) := by
        refine ⟨?_, by rw [hsW]; exact hg3⟩
        exact rdk_other HR3.out hcW hsW HO3.out.c0
      obtain ⟨_, x0, x1, x2, x3, x4, _, _, _, _, _⟩ := HX3.out
      obtain ⟨_, z0, z1, z2, z3, z4, f0, f1, f2, f3, f4⟩ := HO3.out
      obtain ⟨_, y0, y1, y2, y3, y4, _, _, _, _, _⟩ := hOW
      clear hok hW hBW hsW hcW
      go_wp2
      rw [← HW.out]
      refine bodyPost_ret (v := .tuple #[.agg #[.slice (some ⟨g1, 0, none⟩) L.length L.length, .int .i64 h.who, .int .i64 h.has, .int .i64 h.kept, .int .i64 h.last], .nilIface]) (by simp [results, Tryd.f58, go_sem, y0, y1, y2, y3, y4]) rfl ?_
      exact .inl ⟨HT.out, g1, rfl, HRW.out.2, HRW.out.1, HBW.out⟩
  · have HB3 : Hid (Below w.heap.size w V1) := HB0.out.trans (hb1.mono HB0.out.size)
    have HH1 : Hid (HAt V1 w.heap.size 0 h) := hat_below HH0.out hb1
    have HO1 : Hid (Ow V1 (w.heap.size + 1) (.slice none 0 0) (.int .i64 0) (.int .i64 0) (.int .i64 0) (.int .i64 0)) := HO0.out.below hb1
    have HT : Hid (handOkB L h = false) := by show _ = _; rw [HEQ.out, hl]; rfl
    clear hb1 HB0 HH0 HO0
    have HQ : Hid (Below w.heap.size w (V1.alloc (.cells #[.slice none 0 0, .int .i64 h.who, .int .i64 h.has, .int .i64 h.kept, .int .i64 h.last] 62)) ∧ Ow (V1.alloc (.cells #[.slice none 0 0, .int .i64 h.who, .int .i64 h.has, .int .i64 h.kept, .int .i64 h.last] 62)) (w.heap.size + 1) (.slice none 0 0) (.int .i64 0) (.int .i64 0) (.int .i64 0) (.int .i64 0)) :=
      ⟨HB3.out.alloc HB3.out.size _, HO1.out.below ((Below.refl _ _).alloc (Nat.le_refl _) _)⟩
    obtain ⟨a0, a1, a2, a3⟩ := cellsH HH1.out
    clear HO1 HB3 HH1
    go_upto_region 3 with fail
    generalize V1.alloc (.cells #[.slice none 0 0, .int .i64 h.who, .int .i64 h.has, .int .i64 h.kept, .int .i64 h.last] 62) = V3 at HQ ⊢
    clear a0 a1 a2 a3
    have HB3 : Hid (Below w.heap.size w V3) := HQ.out.1
    have HO3 : Hid (Ow V3 (w.heap.size + 1) (.slice none 0 0) (.int .i64 0) (.int .i64 0) (.int .i64 0) (.int .i64 0)) := HQ.out.2
    clear HQ
    have hnw : V3.cell? ⟨0, 0, none⟩ = some (.iface 159 (.pointer (some a))) := (HB3.out.cell (p := ⟨0, 0, none⟩) hgl).trans HN.out
    obtain ⟨W, hW, hOW, hBW, hsW, hcW⟩ := HO3.out.put (.slice none 0 0) (.int .i64 0) (.int .i64 0) (.int .i64 0) (.int .i64 0)
    have HW : Hid (W = _) := hW
    have HBW : Hid (Below w.heap.size w W.drew) := (hBW _ _ HB3.out (by omega)).drew
    obtain ⟨_, z0, z1, z2, z3, z4, f0, f1, f2, f3, f4⟩ := HO3.out
    have YD : Hid (Ow W.drew (w.heap.size + 1) (.slice none 0 0) (.int .i64 0) (.int .i64 0) (.int .i64 0) (.int .i64 0)) := hOW.drew
    obtain ⟨_, y0, y1, y2, y3, y4, _, _, _, _, _⟩ := YD.out
    have hne : ¬ w.heap.size + 1 = 0 := by omega
    clear hW hBW hsW hcW
    generalize w.heap.size + 1 = zb at YD HW z0 z1 z2 z3 z4 f0 f1 f2 f3 f4 y0 y1 y2 y3 y4 hne ⊢
    go_upto_region 4 with fail
    go_region
    all_goals go_wp2
    all_goals rw [← HW.out]
    all_goals refine bodyPost_ret (v := .tuple #[.agg #[.slice none 0 0, .int .i64 0, .int .i64 0, .int .i64 0, .int .i64 0], .iface 159 (.pointer (some a))]) (by simp [results, Tryd.f58, go_sem, y0, y1, y2, y3, y4]) rfl ?_
    all_goals exact .inr ⟨HT.out, rfl, HBW.out⟩

theorem ownerOf (g off cap : Nat) (L : List K) (h : Hd) (a : Addr) (w : World) (hlen : L.length ≤ 1099511627776) (hw : WordsOk L) (hk : H64 h) (hr : RdK w (some ⟨g, off, none⟩) L) (hn : NoH w a) :
    Calls Tryd.prog 58 #[.slice (some ⟨g, off, none⟩) L.length cap, .agg #[.int .i64 h.who, .int .i64 h.has, .int .i64 h.kept, .int .i64 h.last]] w (OwnerPost L h a w) :=
  ownerOfA (some ⟨g, off, none⟩) cap L h a w (fun V hV => Lc.laceOf g off cap L V hlen hw (hr.below hV)) hk hn

/-- of the nil list -/
theorem laceOfN (w : World) : Calls Tryd.prog 87 #[.slice none 0 0] w (Lc.LacePost [] w) := by
  obtain ⟨i0, hi, hz0, hz1, hz2⟩ := info_parts Lc.infoK
  have hmk : ∀ W : World, (Instr.makeSlice 58 (.int .i64 0) (.int .i64 60)).run Tryd.prog W = .ok (.slice (some ⟨W.heap.size, 0, none⟩) 0 60) (W.alloc (.cells (madeCells (Value.agg #[.int .i64 0, .int .i64 0, .int .i64 0, .string ⟨#[]⟩]).cells (60 * 4)) 69)) := by
    intro W
    have := run_make (P := Tryd.prog) W 58 69 i0 _ Tryd.underlying58 hi hz0 .i64 .i64 0 60 (by omega) (by omega) (by rw [hz2]; omega) (by omega)
    rw [hz1] at this
    exact this
  generalize (Value.agg #[.int .i64 0, .int .i64 0, .int .i64 0, .string ⟨#[]⟩]).cells = zc at hmk
  generalize madeCells zc (60 * 4) = mc at hmk
  go_enter Tryd.func87, Tryd.ntmps87
  go_wp2
  refine wp_loop_rounds 1 ?_
  rw [rounds_succ]
  go_wp2
  go_ret2
  exact .inl ⟨rfl, w.heap.size, rfl, by simp, .inl rfl, (Below.refl _ _).alloc (Nat.le_refl _) _⟩

end Rm
end Go.Proofs.YtapfmadnkaimeaaDoor
