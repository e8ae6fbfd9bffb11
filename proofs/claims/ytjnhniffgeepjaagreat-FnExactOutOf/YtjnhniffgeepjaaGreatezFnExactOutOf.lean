/-
 FnExactOutOf answers true at every argument, for OutOf answers as its model does, writes into no argument, and its answer owns its memory; no condition.
-/
import Derived.Test.YtjnhniffgeepjaaGreatezg18
import Derived.Test.YtjnhniffgeepjaaGreatezg26
set_option linter.unusedVariables false
namespace Go.Proofs.YtjnhniffgeepjaaGreat.fnExactOutOf
open Go.ChangeShapes Go.WideShapes Go.ChangeAt Go.RowKit Go.Joins
open Kn (K)
open Lc (RdK)
open Db (RowI)
set_option linter.unusedVariables false
set_option maxRecDepth 100000
theorem own : ownKnob Tryz.prog.godebug = none := by kernel_rfl
theorem laidOut : laidOutB Tryz.prog = true := by kernel_rfl
theorem words {L : List K} (h : Lc.Small L) : Lc.WordsOk L := fun k hk => by have := h.2 k hk; omega
theorem made_fill {w : World} {B n j : Nat} {L : List K} (h : Lc.Made w B n L j) (f : Nat → Value) : Lc.Fill w B n f 0 := ⟨h.lt, fun i hi => by omega, h.ex, h.fr⟩
theorem int_bd {a : Int} (w : (Lit.int .i64 a).wf = true) : -9223372036854775808 ≤ a ∧ a ≤ 9223372036854775807 := by
 simpa [Lit.wf, IntKind.min, IntKind.max, IntKind.signed, IntKind.bits] using w
def ImplT : Prop := ∀ (L : List K) (C : List Int) (s : Int), L.length ≤ 1048576 → Lc.WordsOk L → C.length ≤ 1048576 → (∀ z ∈ C, -9223372036854775808 ≤ z ∧ z ≤ 9223372036854775807) → -9223372036854775808 ≤ s → s ≤ 9223372036854775807 → 
   ∀ (W : World) (g0 : Nat) (g1 : Nat), RdK W (some ⟨g0, 0, none⟩) L → g0 < W.heap.size → Lst.Rd W (some ⟨g1, 0, none⟩) C → g1 < W.heap.size → Calls Tryz.prog 10 #[.slice (some ⟨g0, 0, none⟩) L.length L.length, .slice (some ⟨g1, 0, none⟩) C.length C.length, .int .i64 s] W (Sg.NumsPost (Tl.outI L C s) W)
theorem specT : ∀ (L : List K) (C : List Int) (s : Int), L.length ≤ 1048576 → Lc.WordsOk L → C.length ≤ 1048576 → (∀ z ∈ C, -9223372036854775808 ≤ z ∧ z ≤ 9223372036854775807) → -9223372036854775808 ≤ s → s ≤ 9223372036854775807 → 
   ∀ (W : World) (g0 : Nat) (g1 : Nat), RdK W (some ⟨g0, 0, none⟩) L → g0 < W.heap.size → Lst.Rd W (some ⟨g1, 0, none⟩) C → g1 < W.heap.size → Calls Tryz.prog 7 #[.slice (some ⟨g0, 0, none⟩) L.length L.length, .slice (some ⟨g1, 0, none⟩) C.length C.length, .int .i64 s] W (Sg.NumsPost (Tl.outI L C s) W) :=
 fun L C s hlL hwL hlC hzC h0s h1s W g0 g1 hr0 hg0 hr1 hg1 => Tl.specOutOf _ _ _ L _ _ C s W (Nat.le_refl _) hwL hg0 hr0 hlC hr1 (Nu.at_block hg1)
set_option maxHeartbeats 6400000 in
theorem walk (HI : ImplT) (a0 : Option Addr) (cap0 : Nat) (L : List K) (a1 : Option Addr) (cap1 : Nat) (C : List Int) (s : Int) (w : World) (hl : L.length ≤ maxLen) (hws : ∀ k ∈ L, k.word.size ≤ maxLen) (hr0 : RdK w a0 L) (hmC : C.length ≤ maxLen) (hzC : ∀ z ∈ C, -9223372036854775808 ≤ z ∧ z ≤ 9223372036854775807) (hr1 : Nu.RdI w a1 C) (hns : -9223372036854775808 ≤ s ∧ s ≤ 9223372036854775807) :
   Calls Tryz.prog 3 #[.slice a0 L.length cap0, .slice a1 C.length cap1, .int .i64 s] w fun e w' => e = .returned (.bool true) ∧ Below w.heap.size w w' := by
 unfold maxLen at hmC
 by_cases hbigC : 1048576 < C.length
 · have hbig' : (1048576 : Int) < (C.length : Int) := by omega
   go_enter Tryz.func3, Tryz.ntmps3
   go_wp2
   go_ret
   exact ⟨rfl, Below.refl _ _⟩
 have hbigC' : ¬ (1048576 : Int) < (C.length : Int) := by omega
 have hsC : C.length ≤ 1048576 := by omega
 clear hbigC hmC
 have HR0 : Hid (RdK w a0 L) := hr0
 have HR1 : Hid (Nu.RdI w a1 C) := hr1
 have HZC : Hid (∀ z ∈ C, -9223372036854775808 ≤ z ∧ z ≤ 9223372036854775807) := hzC
 clear hr1 hzC
 have HII : Hid ImplT := HI
 clear HI
 have hle' := Tl.outI_len L C s
 go_enter Tryz.func3, Tryz.ntmps3
 go_wp2_with fail
 refine (Lc.szKnotS a0 cap0 L 1048576 _ hl hws (by omega) (by omega) hr0).mono ?_
 rintro e w0 ⟨r, rfl, hr0', hr1', hsm, hb0⟩
 have HSM : Hid (0 ≤ r → Lc.Small L) := hsm
 clear hsm hr0
 have HB : Hid (Below w.heap.size w w0) := hb0
 clear hb0
 by_cases hneg : r < 0
 · go_wp2
   go_ret
   exact ⟨rfl, HB.out⟩
 have hS := HSM.out (by omega)
 have HW : Hid (Lc.WordsOk L) := words hS
 have hlen := hS.1
 clear HSM hl hws hS
 have HSP : Hid (∀ (W : World) (g0 : Nat) (g1 : Nat), RdK W (some ⟨g0, 0, none⟩) L → g0 < W.heap.size → Lst.Rd W (some ⟨g1, 0, none⟩) C → g1 < W.heap.size → Calls Tryz.prog 7 #[.slice (some ⟨g0, 0, none⟩) L.length L.length, .slice (some ⟨g1, 0, none⟩) C.length C.length, .int .i64 s] W (Sg.NumsPost (Tl.outI L C s) W)) := specT L C s hlen HW.out hsC HZC.out hns.1 hns.2
 have HIM : Hid (∀ (W : World) (g0 : Nat) (g1 : Nat), RdK W (some ⟨g0, 0, none⟩) L → g0 < W.heap.size → Lst.Rd W (some ⟨g1, 0, none⟩) C → g1 < W.heap.size → Calls Tryz.prog 10 #[.slice (some ⟨g0, 0, none⟩) L.length L.length, .slice (some ⟨g1, 0, none⟩) C.length C.length, .int .i64 s] W (Sg.NumsPost (Tl.outI L C s) W)) := HII.out L C s hlen HW.out hsC HZC.out hns.1 hns.2
 clear HII
 generalize Tl.outI L C s = l at HSP HIM hle'
 have ges0 : w.heap.size ≤ w0.heap.size := HB.out.size
 go_wp2_with fail
 refine (Lc.toKnotS a0 cap0 L _ hlen (HR0.out.below HB.out)).mono ?_
 rintro e w1 ⟨rfl, hm, hb⟩
 have QHB : Hid (Below w.heap.size w w1) := HB.out.trans (hb.mono HB.out.size)
 clear HB
 have HB := QHB
 clear QHB
 have Xs0 : Hid (Lc.Made w1 w0.heap.size L.length L L.length) := hm
 have lts0 : w0.heap.size < w1.heap.size := Xs0.out.lt
 clear hm hb
 generalize w0.heap.size = ps0 at Xs0 lts0 ges0 ⊢
 have ges1 : w.heap.size ≤ w1.heap.size := HB.out.size
 go_wp2_with fail
 refine (Nu.toInts a1 cap1 C _ hsC (HR1.out.below HB.out)).mono ?_
 rintro e w2 ⟨rfl, hm, hb⟩
 have QHB : Hid (Below w.heap.size w w2) := HB.out.trans (hb.mono HB.out.size)
 have QXs0 : Hid (Lc.Made w2 ps0 L.length L L.length) := Xs0.out.below hb
 clear HB Xs0
 have HB := QHB
 have Xs0 := QXs0
 clear QHB QXs0
 have Xs1 : Hid (RowI w2 w1.heap.size C.length (fun i => C.getD i 0)) := hm
 have lts1 : w1.heap.size < w2.heap.size := Xs1.out.lt
 clear hm hb
 generalize w1.heap.size = ps1 at Xs1 lts1 ges1 lts0 ⊢
 go_wp2_with fail
 refine (HSP.out _ _ _ (Lc.made_rd Xs0.out) Xs0.out.lt (Nu.row_rd Xs1.out) Xs1.out.lt).mono ?_
 rintro e w3 ⟨ao, ac, rfl, hown, hb⟩
 have QHB : Hid (Below w.heap.size w w3) := HB.out.trans (hb.mono HB.out.size)
 have QXs0 : Hid (Lc.Made w3 ps0 L.length L L.length) := Xs0.out.below hb
 have QXs1 : Hid (RowI w3 ps1 C.length (fun i => C.getD i 0)) := Nu.row_below Xs1.out hb
 clear HB Xs0 Xs1
 have HB := QHB
 have Xs0 := QXs0
 have Xs1 := QXs1
 clear QHB QXs0 QXs1
 have HO : Hid (Memb.Own w.heap.size w3 ao ac l) := Nu.own_base hown (Nat.le_of_lt (Nat.lt_of_le_of_lt ges1 lts1))
 have HF : Hid (∀ g, ao = some ⟨g, 0, none⟩ → g < w3.heap.size) := fun g e => (Nu.own_far hown g e).2
 clear hown hb HSP
 clear Xs0 Xs1
 clear lts0 ges0 lts1 ges1
 have gex0 : w.heap.size ≤ w3.heap.size := HB.out.size
 go_wp2_with fail
 refine (Lc.toKnotS a0 cap0 L _ hlen (HR0.out.below HB.out)).mono ?_
 rintro e w4 ⟨rfl, hm, hb⟩
 have QHB : Hid (Below w.heap.size w w4) := HB.out.trans (hb.mono HB.out.size)
 have QHO : Hid (Memb.Own w.heap.size w4 ao ac l) := Nu.own_below HO.out hb
 clear HB HO
 have HB := QHB
 have HO := QHO
 clear QHB QHO
 have Xx0 : Hid (Lc.Made w4 w3.heap.size L.length L L.length) := hm
 have ltx0 : w3.heap.size < w4.heap.size := Xx0.out.lt
 clear hm hb
 generalize w3.heap.size = px0 at Xx0 ltx0 gex0 HF ⊢
 have gex1 : w.heap.size ≤ w4.heap.size := HB.out.size
 go_wp2_with fail
 refine (Nu.toInts a1 cap1 C _ hsC (HR1.out.below HB.out)).mono ?_
 rintro e w5 ⟨rfl, hm, hb⟩
 have QHB : Hid (Below w.heap.size w w5) := HB.out.trans (hb.mono HB.out.size)
 have QHO : Hid (Memb.Own w.heap.size w5 ao ac l) := Nu.own_below HO.out hb
 have QXx0 : Hid (Lc.Made w5 px0 L.length L L.length) := Xx0.out.below hb
 clear HB HO Xx0
 have HB := QHB
 have HO := QHO
 have Xx0 := QXx0
 clear QHB QHO QXx0
 have Xx1 : Hid (RowI w5 w4.heap.size C.length (fun i => C.getD i 0)) := hm
 have ltx1 : w4.heap.size < w5.heap.size := Xx1.out.lt
 clear hm hb
 generalize w4.heap.size = px1 at Xx1 ltx1 gex1 ltx0 ⊢
 go_wp2_with fail
 refine (HIM.out _ _ _ (Lc.made_rd Xx0.out) Xx0.out.lt (Nu.row_rd Xx1.out) Xx1.out.lt).mono ?_
 rintro e w6 ⟨go, gc, rfl, hown, hb⟩
 have QHB : Hid (Below w.heap.size w w6) := HB.out.trans (hb.mono HB.out.size)
 have QHO : Hid (Memb.Own w.heap.size w6 ao ac l) := Nu.own_below HO.out hb
 have QXx0 : Hid (Lc.Made w6 px0 L.length L L.length) := Xx0.out.below hb
 have QXx1 : Hid (RowI w6 px1 C.length (fun i => C.getD i 0)) := Nu.row_below Xx1.out hb
 clear HB HO Xx0 Xx1
 have HB := QHB
 have HO := QHO
 have Xx0 := QXx0
 have Xx1 := QXx1
 clear QHB QHO QXx0 QXx1
 have HG : Hid (Memb.Own w5.heap.size w6 go gc l) := hown
 have HQ : Hid (w5.heap.size ≤ w6.heap.size) := hb.size
 clear hown hb
 generalize w5.heap.size = qb at HG HQ ltx1
 go_wp2_with fail
 refine (Nu.alikeB _ _ _ _ _ _ (by omega) (Nu.own_rd HG.out) (Nu.own_rd HO.out)).mono ?_
 rintro e w7 ⟨rfl, hb⟩
 have QHB : Hid (Below w.heap.size w w7) := HB.out.trans (hb.mono HB.out.size)
 have QHO : Hid (Memb.Own w.heap.size w7 ao ac l) := Nu.own_below HO.out hb
 have QXx0 : Hid (Lc.Made w7 px0 L.length L L.length) := Xx0.out.below hb
 have QXx1 : Hid (RowI w7 px1 C.length (fun i => C.getD i 0)) := Nu.row_below Xx1.out hb
 have QHG : Hid (Memb.Own qb w7 go gc l) := Nu.own_below HG.out hb
 have QHQ : Hid (qb ≤ w7.heap.size) := Nat.le_trans HQ.out hb.size
 clear HB HO Xx0 Xx1 HG HQ
 have HB := QHB
 have HO := QHO
 have Xx0 := QXx0
 have Xx1 := QXx1
 have HG := QHG
 have HQ := QHQ
 clear QHB QHO QXx0 QXx1 QHG QHQ
 clear hb
 have gey0 : w.heap.size ≤ w7.heap.size := HB.out.size
 go_wp2_with fail
 refine (Lc.toKnotS a0 cap0 L _ hlen (HR0.out.below HB.out)).mono ?_
 rintro e w8 ⟨rfl, hm, hb⟩
 have QHB : Hid (Below w.heap.size w w8) := HB.out.trans (hb.mono HB.out.size)
 have QHO : Hid (Memb.Own w.heap.size w8 ao ac l) := Nu.own_below HO.out hb
 have QXx0 : Hid (Lc.Made w8 px0 L.length L L.length) := Xx0.out.below hb
 have QXx1 : Hid (RowI w8 px1 C.length (fun i => C.getD i 0)) := Nu.row_below Xx1.out hb
 have QHG : Hid (Memb.Own qb w8 go gc l) := Nu.own_below HG.out hb
 have QHQ : Hid (qb ≤ w8.heap.size) := Nat.le_trans HQ.out hb.size
 clear HB HO Xx0 Xx1 HG HQ
 have HB := QHB
 have HO := QHO
 have Xx0 := QXx0
 have Xx1 := QXx1
 have HG := QHG
 have HQ := QHQ
 clear QHB QHO QXx0 QXx1 QHG QHQ
 have Xy0 : Hid (Lc.Made w8 w7.heap.size L.length L L.length) := hm
 have lty0 : w7.heap.size < w8.heap.size := Xy0.out.lt
 clear hm hb
 generalize w7.heap.size = py0 at Xy0 lty0 gey0 ⊢
 go_wp2_with fail
 refine (Lc.eqKnotS _ _ _ _ _ _ L _ hlen (Lc.made_rd Xx0.out) (Lc.made_rd Xy0.out)).mono ?_
 rintro e w9 ⟨rfl, hb⟩
 have QHB : Hid (Below w.heap.size w w9) := HB.out.trans (hb.mono HB.out.size)
 have QHO : Hid (Memb.Own w.heap.size w9 ao ac l) := Nu.own_below HO.out hb
 have QXx0 : Hid (Lc.Made w9 px0 L.length L L.length) := Xx0.out.below hb
 have QXx1 : Hid (RowI w9 px1 C.length (fun i => C.getD i 0)) := Nu.row_below Xx1.out hb
 have QHG : Hid (Memb.Own qb w9 go gc l) := Nu.own_below HG.out hb
 have QHQ : Hid (qb ≤ w9.heap.size) := Nat.le_trans HQ.out hb.size
 have QXy0 : Hid (Lc.Made w9 py0 L.length L L.length) := Xy0.out.below hb
 clear HB HO Xx0 Xx1 HG HQ Xy0
 have HB := QHB
 have HO := QHO
 have Xx0 := QXx0
 have Xx1 := QXx1
 have HG := QHG
 have HQ := QHQ
 have Xy0 := QXy0
 clear QHB QHO QXx0 QXx1 QHG QHQ QXy0
 clear hb lty0 gey0
 clear Xy0
 have gey1 : w.heap.size ≤ w9.heap.size := HB.out.size
 go_wp2_with fail
 refine (Nu.toInts a1 cap1 C _ hsC (HR1.out.below HB.out)).mono ?_
 rintro e w10 ⟨rfl, hm, hb⟩
 have QHB : Hid (Below w.heap.size w w10) := HB.out.trans (hb.mono HB.out.size)
 have QHO : Hid (Memb.Own w.heap.size w10 ao ac l) := Nu.own_below HO.out hb
 have QXx0 : Hid (Lc.Made w10 px0 L.length L L.length) := Xx0.out.below hb
 have QXx1 : Hid (RowI w10 px1 C.length (fun i => C.getD i 0)) := Nu.row_below Xx1.out hb
 have QHG : Hid (Memb.Own qb w10 go gc l) := Nu.own_below HG.out hb
 have QHQ : Hid (qb ≤ w10.heap.size) := Nat.le_trans HQ.out hb.size
 clear HB HO Xx0 Xx1 HG HQ
 have HB := QHB
 have HO := QHO
 have Xx0 := QXx0
 have Xx1 := QXx1
 have HG := QHG
 have HQ := QHQ
 clear QHB QHO QXx0 QXx1 QHG QHQ
 have Xy1 : Hid (RowI w10 w9.heap.size C.length (fun i => C.getD i 0)) := hm
 have lty1 : w9.heap.size < w10.heap.size := Xy1.out.lt
 clear hm hb
 generalize w9.heap.size = py1 at Xy1 lty1 gey1 ⊢
 go_wp2_with fail
 refine (Nu.alikeB _ _ _ _ _ _ hsC (Nu.row_rd Xx1.out) (Nu.row_rd Xy1.out)).mono ?_
 rintro e w11 ⟨rfl, hb⟩
 have QHB : Hid (Below w.heap.size w w11) := HB.out.trans (hb.mono HB.out.size)
 have QHO : Hid (Memb.Own w.heap.size w11 ao ac l) := Nu.own_below HO.out hb
 have QXx0 : Hid (Lc.Made w11 px0 L.length L L.length) := Xx0.out.below hb
 have QXx1 : Hid (RowI w11 px1 C.length (fun i => C.getD i 0)) := Nu.row_below Xx1.out hb
 have QHG : Hid (Memb.Own qb w11 go gc l) := Nu.own_below HG.out hb
 have QHQ : Hid (qb ≤ w11.heap.size) := Nat.le_trans HQ.out hb.size
 have QXy1 : Hid (RowI w11 py1 C.length (fun i => C.getD i 0)) := Nu.row_below Xy1.out hb
 clear HB HO Xx0 Xx1 HG HQ Xy1
 have HB := QHB
 have HO := QHO
 have Xx0 := QXx0
 have Xx1 := QXx1
 have HG := QHG
 have HQ := QHQ
 have Xy1 := QXy1
 clear QHB QHO QXx0 QXx1 QHG QHQ QXy1
 clear hb lty1 gey1
 clear Xy1
 go_wp2_with fail
 refine (Lc.markKnotS px0 L.length L.length _ (by omega) (made_fill Xx0.out _)).mono ?_
 rintro e w12 ⟨rfl, _, hg⟩
 have QHB : Hid (Below w.heap.size w w12) := HB.out.grown hg HB.out.size (fun j hj => by simp at hj; omega)
 have QHO : Hid (Memb.Own w.heap.size w12 ao ac l) := Nu.own_grown HO.out hg (fun g e => by have := Nu.own_far HO.out g e; first | omega | (have := HF.out g e; omega))
 have QXx1 : Hid (RowI w12 px1 C.length (fun i => C.getD i 0)) := Nu.row_grown Xx1.out hg (by omega)
 have QHG : Hid (Memb.Own qb w12 go gc l) := Nu.own_grown HG.out hg (fun g e => by have := Nu.own_far HG.out g e; first | omega | (have := HF.out g e; omega))
 have QHQ : Hid (qb ≤ w12.heap.size) := Nat.le_trans HQ.out hg.size
 clear HB HO Xx1 HG HQ
 have HB := QHB
 have HO := QHO
 have Xx1 := QXx1
 have HG := QHG
 have HQ := QHQ
 clear QHB QHO QXx1 QHG QHQ
 clear hg Xx0
 go_wp2_with fail
 refine (Nu.markInts px1 C.length _ _ _ _ hsC (by omega) (by omega) Xx1.out).mono ?_
 rintro e w13 ⟨rfl, _, hg⟩
 have QHB : Hid (Below w.heap.size w w13) := HB.out.grown hg HB.out.size (fun j hj => by simp at hj; omega)
 have QHO : Hid (Memb.Own w.heap.size w13 ao ac l) := Nu.own_grown HO.out hg (fun g e => by have := Nu.own_far HO.out g e; first | omega | (have := HF.out g e; omega))
 have QHG : Hid (Memb.Own qb w13 go gc l) := Nu.own_grown HG.out hg (fun g e => by have := Nu.own_far HG.out g e; first | omega | (have := HF.out g e; omega))
 have QHQ : Hid (qb ≤ w13.heap.size) := Nat.le_trans HQ.out hg.size
 clear HB HO HG HQ
 have HB := QHB
 have HO := QHO
 have HG := QHG
 have HQ := QHQ
 clear QHB QHO QHG QHQ
 clear hg Xx1
 have hnn : ¬ ((1 + (L.length : Int) * 4) + (C.length : Int)) < 0 := by omega
 go_wp2_with fail
 refine (Nu.alikeB _ _ _ _ _ _ (by omega) (Nu.own_rd HG.out) (Nu.own_rd HO.out)).mono ?_
 rintro e w14 ⟨rfl, hb⟩
 have QHB : Hid (Below w.heap.size w w14) := HB.out.trans (hb.mono HB.out.size)
 have QHO : Hid (Memb.Own w.heap.size w14 ao ac l) := Nu.own_below HO.out hb
 have QHG : Hid (Memb.Own qb w14 go gc l) := Nu.own_below HG.out hb
 have QHQ : Hid (qb ≤ w14.heap.size) := Nat.le_trans HQ.out hb.size
 clear HB HO HG HQ
 have HB := QHB
 have HO := QHO
 have HG := QHG
 have HQ := QHQ
 clear QHB QHO QHG QHQ
 clear hb
 go_wp2_with fail
 refine (Lsx.mark 1 _ _ _ _ _ (by omega) (by omega) (by omega) HG.out).mono ?_
 rintro e w15 ⟨rfl, hown, hb⟩
 have QHB : Hid (Below w.heap.size w w15) := HB.out.trans (hb.mono (by omega))
 have QHO : Hid (Memb.Own w.heap.size w15 ao ac l) := Nu.own_low HO.out (fun g e => by have := HF.out g e; omega) hb
 have QHQ : Hid (qb ≤ w15.heap.size) := Nat.le_trans HQ.out hb.size
 clear HB HO HQ
 have HB := QHB
 have HO := QHO
 have HQ := QHQ
 clear QHB QHO QHQ
 clear HG
 have HG : Hid (Memb.Own qb w15 go gc (Lsx.marks 1 l.length)) := hown
 clear hown hb
 go_wp2_with fail
 refine (Lsx.held 1 _ _ _ _ (by omega) (by omega) (by omega) (Nu.own_rd HG.out)).mono ?_
 rintro e w' ⟨rfl, rfl⟩
 have hnn2 : ¬ 1 + (l.length : Int) < 0 := by omega
 have gez0 : w.heap.size ≤ w15.heap.size := HB.out.size
 go_wp2_with fail
 refine (Lc.toKnotS a0 cap0 L _ hlen (HR0.out.below HB.out)).mono ?_
 rintro e w16 ⟨rfl, hm, hb⟩
 have QHB : Hid (Below w.heap.size w w16) := HB.out.trans (hb.mono HB.out.size)
 have QHO : Hid (Memb.Own w.heap.size w16 ao ac l) := Nu.own_below HO.out hb
 have QHQ : Hid (qb ≤ w16.heap.size) := Nat.le_trans HQ.out hb.size
 have QHG : Hid (Memb.Own qb w16 go gc (Lsx.marks 1 l.length)) := Nu.own_below HG.out hb
 clear HB HO HQ HG
 have HB := QHB
 have HO := QHO
 have HQ := QHQ
 have HG := QHG
 clear QHB QHO QHQ QHG
 have Xz0 : Hid (Lc.Made w16 w15.heap.size L.length L L.length) := hm
 have ltz0 : w15.heap.size < w16.heap.size := Xz0.out.lt
 clear hm hb
 generalize w15.heap.size = pz0 at Xz0 ltz0 gez0 ⊢
 have gez1 : w.heap.size ≤ w16.heap.size := HB.out.size
 go_wp2_with fail
 refine (Nu.toInts a1 cap1 C _ hsC (HR1.out.below HB.out)).mono ?_
 rintro e w17 ⟨rfl, hm, hb⟩
 have QHB : Hid (Below w.heap.size w w17) := HB.out.trans (hb.mono HB.out.size)
 have QHO : Hid (Memb.Own w.heap.size w17 ao ac l) := Nu.own_below HO.out hb
 have QHQ : Hid (qb ≤ w17.heap.size) := Nat.le_trans HQ.out hb.size
 have QHG : Hid (Memb.Own qb w17 go gc (Lsx.marks 1 l.length)) := Nu.own_below HG.out hb
 have QXz0 : Hid (Lc.Made w17 pz0 L.length L L.length) := Xz0.out.below hb
 clear HB HO HQ HG Xz0
 have HB := QHB
 have HO := QHO
 have HQ := QHQ
 have HG := QHG
 have Xz0 := QXz0
 clear QHB QHO QHQ QHG QXz0
 have Xz1 : Hid (RowI w17 w16.heap.size C.length (fun i => C.getD i 0)) := hm
 have ltz1 : w16.heap.size < w17.heap.size := Xz1.out.lt
 clear hm hb
 generalize w16.heap.size = pz1 at Xz1 ltz1 gez1 ltz0 ⊢
 go_wp2_with fail
 refine (HIM.out _ _ _ (Lc.made_rd Xz0.out) Xz0.out.lt (Nu.row_rd Xz1.out) Xz1.out.lt).mono ?_
 rintro e w18 ⟨ho, hc, rfl, hown, hb⟩
 have QHB : Hid (Below w.heap.size w w18) := HB.out.trans (hb.mono HB.out.size)
 have QHO : Hid (Memb.Own w.heap.size w18 ao ac l) := Nu.own_below HO.out hb
 have QHQ : Hid (qb ≤ w18.heap.size) := Nat.le_trans HQ.out hb.size
 have QHG : Hid (Memb.Own qb w18 go gc (Lsx.marks 1 l.length)) := Nu.own_below HG.out hb
 have QXz0 : Hid (Lc.Made w18 pz0 L.length L L.length) := Xz0.out.below hb
 have QXz1 : Hid (RowI w18 pz1 C.length (fun i => C.getD i 0)) := Nu.row_below Xz1.out hb
 clear HB HO HQ HG Xz0 Xz1
 have HB := QHB
 have HO := QHO
 have HQ := QHQ
 have HG := QHG
 have Xz0 := QXz0
 have Xz1 := QXz1
 clear QHB QHO QHQ QHG QXz0 QXz1
 have HH : Hid (Lst.Rd w18 ho l) := Nu.own_rd hown
 clear hown hb
 clear Xz0 Xz1
 clear ltz0 gez0 ltz1 gez1
 go_wp2_with fail
 refine (Nu.alikeB _ _ _ _ _ _ (by omega) HH.out (Nu.own_rd HO.out)).mono ?_
 rintro e w19 ⟨rfl, hb⟩
 have QHB : Hid (Below w.heap.size w w19) := HB.out.trans (hb.mono HB.out.size)
 have QHO : Hid (Memb.Own w.heap.size w19 ao ac l) := Nu.own_below HO.out hb
 have QHQ : Hid (qb ≤ w19.heap.size) := Nat.le_trans HQ.out hb.size
 have QHG : Hid (Memb.Own qb w19 go gc (Lsx.marks 1 l.length)) := Nu.own_below HG.out hb
 clear HB HO HQ HG
 have HB := QHB
 have HO := QHO
 have HQ := QHQ
 have HG := QHG
 clear QHB QHO QHQ QHG
 clear hb HH
 go_wp2_with fail
 refine (Lsx.held 1 _ _ _ _ (by omega) (by omega) (by omega) (Nu.own_rd HG.out)).mono ?_
 rintro e w' ⟨rfl, rfl⟩
 go_wp2
 go_ret
 exact ⟨rfl, HB.out⟩
theorem lifted (os : Os) (started : os.Started) (H : Type) (enc : TypeId × Value → H) :
   ReturnsInHanded {} Tryz.checked os 3 .any (Rows.fnExactOutOfSpec.pre6 enc Tryz.prog Tryz.f3 Rows.fnExactOutOfRow.domain false) (Rows.fnExactOutOfSpec.post enc Tryz.prog Tryz.f3 false true false false) := by
 refine returnsInHanded_of_change (C := Tryz.checked) own started (by kernel_rfl) Tryz.func3
   (ChangeSpec.witness6 (enc := enc) (C := Tryz.checked) false ⟨#[], #[.slice none 0 0, .slice none 0 0, .int .i64 0], []⟩ 8 (by kernel_rfl) (by kernel_rfl) (by kernel_rfl) (by kernel_rfl)) ?_
 intro W base args ds gs before hval0 hW hcnd _
 have hval : ∀ (j : Nat) t v, Tryz.f3.params[j]? = some t → args[j]? = some v → Value.okWide Tryz.prog W .any base t v := hval0
 have hW' := hW
 obtain ⟨p, q, hA0, hV, rfl, hfz, hnd⟩ := hW
 have hA : DataW.TrodAll enc Tryz.prog W 0 (fun _ => true) true Tryz.f3.params.toList args.toList ds p := hA0
 rw [Tryz.params3] at hA hval
 obtain ⟨v0, vs0, d0, ds0, p0, q0, hargs, rfl, rfl, h0, r0⟩ := trodAll_cons hA
 obtain ⟨v1, vs1, d1, ds1, p1, q1, rfl, rfl, rfl, h1, r1⟩ := trodAll_cons r0
 obtain ⟨v2, vs2, d2, ds2, p2, q2, rfl, rfl, rfl, h2, r2⟩ := trodAll_cons r1
 obtain ⟨rfl, rfl, rfl⟩ := trodAll_nil r2
 obtain rfl : args = #[v0, v1, v2] := by cases args; simp_all
 obtain ⟨rfl, rfl⟩ := trodVars_none hV
 obtain ⟨a0, len0, cap0, rfl⟩ := okWide_slice Tryz.underlying22 (hval 0 22 v0 rfl rfl)
 have k0 := h0
 have lt0 : ∀ x ∈ p0, x.block < W.heap.size := by obtain ⟨m, hm⟩ := k0; exact DataW.trod_lt m _ _ _ hm
 obtain ⟨fuel0, hf0⟩ := h0
 obtain ⟨L, rfl, hrd0, hws, hl⟩ := Lc.openK (a0 := a0) (len0 := len0) (cap0 := cap0) hf0
 obtain ⟨a1, len1, cap1, rfl⟩ := okWide_slice Tryz.underlying23 (hval 1 23 v1 rfl rfl)
 have k1 := h1
 have lt1 : ∀ x ∈ p1, x.block < W.heap.size := by obtain ⟨m, hm⟩ := k1; exact DataW.trod_lt m _ _ _ hm
 obtain ⟨fuel1, hf1⟩ := h1
 obtain ⟨C, rfl, hrd1, hzC, hmC⟩ := Nu.openI (a0 := a1) (len0 := len1) (cap0 := cap1) hf1
 obtain ⟨x2, rfl, rfl, rfl, w2⟩ := open_int Tryz.underlying2 (hval 2 2 v2 rfl rfl) h2
 clear hA0 hval0
 simp only [List.append_nil] at hW'
 refine (walk (fun L C s hlL hwL hlC hzC h0s h1s W g0 g1 hr0 hg0 hr1 hg1 => Tp.implOutOf _ _ _ L _ _ C s W (by omega) hwL h0s h1s hr0 hlC hr1 (Nu.at_block hg1)) a0 cap0 L a1 cap1 C x2 W hl hws hrd0 hmC hzC hrd1 (int_bd w2)).mono fun e W' ⟨he, bel⟩ => ?_
 subst he
 exact ⟨_, rfl, _, _, _, [], _, [], hW', trodAll_mk1 (shut_bool Tryz.underlying4 _), (trodAll_cons_mk (Below.trod laidOut (by kernel_rfl) (of_decide_eq_true (by kernel_rfl)) k0 bel lt0) (trodAll_cons_mk (Below.trod laidOut (by kernel_rfl) (of_decide_eq_true (by kernel_rfl)) k1 bel lt1) (trodAll_cons_mk (shut_int Tryz.underlying2 w2) trodAll_mk0))), rfl, bel.frame _, fun h => by cases h⟩
theorem over : Rows.fnExactOutOfRow.holds Tryz.pinned (OpenSpec.ofChange Rows.fnExactOutOfSpec) :=
 OpenClaim.holds_of_wide 3 Tryz.f3 rfl rfl rfl rfl rfl rfl rfl ⟨rfl, rfl, rfl, rfl, rfl⟩ rfl rfl rfl rfl rfl (by kernel_rfl) Tryz.func3 (by kernel_rfl)
   (of_decide_eq_true (by kernel_rfl)) (by unfold Func.isWrapper; first | (rw [if_pos (by decide +kernel)]; kernel_rfl) | (rw [if_neg (by decide +kernel)]; exact ⟨rfl, rfl⟩))
   (fun os started H enc _ => lifted os started H enc)
theorem proved : Rows.FnExactOutOfSaid :=
 over
end Go.Proofs.YtjnhniffgeepjaaGreat.fnExactOutOf
