/-
  FnExactBeginsWith answers true at every argument, for BeginsWith answers as its model does; no condition.
-/
import Derived.Test.YtodgkhlnefggdaaRows
import Derived.WalkKit
import Derived.ProofKit
import Derived.OpenShut
import Derived.ChangeOld
import Derived.Below
import Derived.Lib.SmallJoins
import Derived.Test.YtodgkhlnefggdaaIntsG
import Derived.Test.YtodgkhlnefggdaaMarkI
import Derived.Test.YtodgkhlnefggdaaTaleL
import Derived.Test.YtodgkhlnefggdaaTalB
namespace Go.Proofs.Ytodgkhlnefggdaa.fnExactBeginsWith
open Go.ChangeShapes Go.WideShapes Go.ChangeAt Go.RowKit Go.Joins
open Kn (K)
open Lc (RdK)
open Db (RowI)
set_option linter.unusedVariables false
set_option maxRecDepth 100000

theorem own : ownKnob Try.prog.godebug = none := by kernel_rfl
theorem laidOut : laidOutB Try.prog = true := by kernel_rfl
/-- what is asked of the program -/
def ImplT : Prop := ∀ (C : List Int) (D : List Int), C.length ≤ 1048576 → (∀ z ∈ C, -9223372036854775808 ≤ z ∧ z ≤ 9223372036854775807) → D.length ≤ 1048576 → (∀ z ∈ D, -9223372036854775808 ≤ z ∧ z ≤ 9223372036854775807) → 
    ∀ (W : World) (g0 : Nat) (g1 : Nat), Lst.Rd W (some ⟨g0, 0, none⟩) C → g0 < W.heap.size → Lst.Rd W (some ⟨g1, 0, none⟩) D → g1 < W.heap.size → Calls Try.prog 7 #[.slice (some ⟨g0, 0, none⟩) C.length C.length, .slice (some ⟨g1, 0, none⟩) D.length D.length] W fun e w' => e = .returned (.bool (Tl.beginsB C D)) ∧ Below W.heap.size W w'
theorem specT : ∀ (C : List Int) (D : List Int), C.length ≤ 1048576 → (∀ z ∈ C, -9223372036854775808 ≤ z ∧ z ≤ 9223372036854775807) → D.length ≤ 1048576 → (∀ z ∈ D, -9223372036854775808 ≤ z ∧ z ≤ 9223372036854775807) → 
    ∀ (W : World) (g0 : Nat) (g1 : Nat), Lst.Rd W (some ⟨g0, 0, none⟩) C → g0 < W.heap.size → Lst.Rd W (some ⟨g1, 0, none⟩) D → g1 < W.heap.size → Calls Try.prog 5 #[.slice (some ⟨g0, 0, none⟩) C.length C.length, .slice (some ⟨g1, 0, none⟩) D.length D.length] W fun e w' => e = .returned (.bool (Tl.beginsB C D)) ∧ Below W.heap.size W w' :=
  fun C D hlC hzC hlD hzD W g0 g1 hr0 hg0 hr1 hg1 => (Tl.specBegins _ _ C _ _ D W hlC hlD hr0 hr1).mono fun _ _ h => ⟨h.1, h.2⟩

set_option maxHeartbeats 6400000 in
theorem walk (HI : ImplT) (a0 : Option Addr) (cap0 : Nat) (C : List Int) (a1 : Option Addr) (cap1 : Nat) (D : List Int) (w : World) (hmC : C.length ≤ maxLen) (hzC : ∀ z ∈ C, -9223372036854775808 ≤ z ∧ z ≤ 9223372036854775807) (hr0 : Nu.RdI w a0 C) (hmD : D.length ≤ maxLen) (hzD : ∀ z ∈ D, -9223372036854775808 ≤ z ∧ z ≤ 9223372036854775807) (hr1 : Nu.RdI w a1 D) :
    Calls Try.prog 3 #[.slice a0 C.length cap0, .slice a1 D.length cap1] w fun e w' => e = .returned (.bool true) ∧ Below w.heap.size w w' := by
  unfold maxLen at hmC
  by_cases hbigC : 1048576 < C.length
  · have hbig' : (1048576 : Int) < (C.length : Int) := by omega
    go_enter Try.func3, Try.ntmps3
    go_wp2
    go_ret
    exact ⟨rfl, Below.refl _ _⟩
  have hbigC' : ¬ (1048576 : Int) < (C.length : Int) := by omega
  have hsC : C.length ≤ 1048576 := by omega
  clear hbigC hmC
  unfold maxLen at hmD
  by_cases hbigD : 1048576 < D.length
  · have hbig' : (1048576 : Int) < (D.length : Int) := by omega
    go_enter Try.func3, Try.ntmps3
    go_wp2
    go_ret
    exact ⟨rfl, Below.refl _ _⟩
  have hbigD' : ¬ (1048576 : Int) < (D.length : Int) := by omega
  have hsD : D.length ≤ 1048576 := by omega
  clear hbigD hmD
  have HR0 : Hid (Nu.RdI w a0 C) := hr0
  have HR1 : Hid (Nu.RdI w a1 D) := hr1
  have HZC : Hid (∀ z ∈ C, -9223372036854775808 ≤ z ∧ z ≤ 9223372036854775807) := hzC
  clear hr0 hzC
  have HZD : Hid (∀ z ∈ D, -9223372036854775808 ≤ z ∧ z ≤ 9223372036854775807) := hzD
  clear hr1 hzD
  have HII : Hid ImplT := HI
  clear HI
  go_enter Try.func3, Try.ntmps3
  have HB : Hid (Below w.heap.size w w) := Below.refl _ _
  have HSP : Hid (∀ (W : World) (g0 : Nat) (g1 : Nat), Lst.Rd W (some ⟨g0, 0, none⟩) C → g0 < W.heap.size → Lst.Rd W (some ⟨g1, 0, none⟩) D → g1 < W.heap.size → Calls Try.prog 5 #[.slice (some ⟨g0, 0, none⟩) C.length C.length, .slice (some ⟨g1, 0, none⟩) D.length D.length] W fun e w' => e = .returned (.bool (Tl.beginsB C D)) ∧ Below W.heap.size W w') := specT C D hsC HZC.out hsD HZD.out
  have HIM : Hid (∀ (W : World) (g0 : Nat) (g1 : Nat), Lst.Rd W (some ⟨g0, 0, none⟩) C → g0 < W.heap.size → Lst.Rd W (some ⟨g1, 0, none⟩) D → g1 < W.heap.size → Calls Try.prog 7 #[.slice (some ⟨g0, 0, none⟩) C.length C.length, .slice (some ⟨g1, 0, none⟩) D.length D.length] W fun e w' => e = .returned (.bool (Tl.beginsB C D)) ∧ Below W.heap.size W w') := HII.out C D hsC HZC.out hsD HZD.out
  clear HII
  generalize Tl.beginsB C D = ans at HSP HIM
  have ges0 : w.heap.size ≤ w.heap.size := HB.out.size
  go_wp2_with fail
  refine (Nu.toInts a0 cap0 C _ hsC (HR0.out.below HB.out)).mono ?_
  rintro e w1 ⟨rfl, hm, hb⟩
  have QHB : Hid (Below w.heap.size w w1) := HB.out.trans (hb.mono HB.out.size)
  clear HB
  have HB := QHB
  clear QHB
  have Xs0 : Hid (RowI w1 w.heap.size C.length (fun i => C.getD i 0)) := hm
  have lts0 : w.heap.size < w1.heap.size := Xs0.out.lt
  clear hm hb
  generalize w.heap.size = ps0 at Xs0 lts0 ges0 ⊢
  have ges1 : w.heap.size ≤ w1.heap.size := HB.out.size
  go_wp2_with fail
  refine (Nu.toInts a1 cap1 D _ hsD (HR1.out.below HB.out)).mono ?_
  rintro e w2 ⟨rfl, hm, hb⟩
  have QHB : Hid (Below w.heap.size w w2) := HB.out.trans (hb.mono HB.out.size)
  have QXs0 : Hid (RowI w2 ps0 C.length (fun i => C.getD i 0)) := Nu.row_below Xs0.out hb
  clear HB Xs0
  have HB := QHB
  have Xs0 := QXs0
  clear QHB QXs0
  have Xs1 : Hid (RowI w2 w1.heap.size D.length (fun i => D.getD i 0)) := hm
  have lts1 : w1.heap.size < w2.heap.size := Xs1.out.lt
  clear hm hb
  generalize w1.heap.size = ps1 at Xs1 lts1 ges1 lts0 ⊢
  go_wp2_with fail
  refine (HSP.out _ _ _ (Nu.row_rd Xs0.out) Xs0.out.lt (Nu.row_rd Xs1.out) Xs1.out.lt).mono ?_
  rintro e w3 ⟨rfl, hb⟩
  have QHB : Hid (Below w.heap.size w w3) := HB.out.trans (hb.mono HB.out.size)
  have QXs0 : Hid (RowI w3 ps0 C.length (fun i => C.getD i 0)) := Nu.row_below Xs0.out hb
  have QXs1 : Hid (RowI w3 ps1 D.length (fun i => D.getD i 0)) := Nu.row_below Xs1.out hb
  clear HB Xs0 Xs1
  have HB := QHB
  have Xs0 := QXs0
  have Xs1 := QXs1
  clear QHB QXs0 QXs1
  clear hb HSP
  clear Xs0 Xs1
  clear lts0 ges0 lts1 ges1
  have gex0 : w.heap.size ≤ w3.heap.size := HB.out.size
  go_wp2_with fail
  refine (Nu.toInts a0 cap0 C _ hsC (HR0.out.below HB.out)).mono ?_
  rintro e w4 ⟨rfl, hm, hb⟩
  have QHB : Hid (Below w.heap.size w w4) := HB.out.trans (hb.mono HB.out.size)
  clear HB
  have HB := QHB
  clear QHB
  have Xx0 : Hid (RowI w4 w3.heap.size C.length (fun i => C.getD i 0)) := hm
  have ltx0 : w3.heap.size < w4.heap.size := Xx0.out.lt
  clear hm hb
  generalize w3.heap.size = px0 at Xx0 ltx0 gex0 ⊢
  have gex1 : w.heap.size ≤ w4.heap.size := HB.out.size
  go_wp2_with fail
  refine (Nu.toInts a1 cap1 D _ hsD (HR1.out.below HB.out)).mono ?_
  rintro e w5 ⟨rfl, hm, hb⟩
  have QHB : Hid (Below w.heap.size w w5) := HB.out.trans (hb.mono HB.out.size)
  have QXx0 : Hid (RowI w5 px0 C.length (fun i => C.getD i 0)) := Nu.row_below Xx0.out hb
  clear HB Xx0
  have HB := QHB
  have Xx0 := QXx0
  clear QHB QXx0
  have Xx1 : Hid (RowI w5 w4.heap.size D.length (fun i => D.getD i 0)) := hm
  have ltx1 : w4.heap.size < w5.heap.size := Xx1.out.lt
  clear hm hb
  generalize w4.heap.size = px1 at Xx1 ltx1 gex1 ltx0 ⊢
  go_wp2_with fail
  refine (HIM.out _ _ _ (Nu.row_rd Xx0.out) Xx0.out.lt (Nu.row_rd Xx1.out) Xx1.out.lt).mono ?_
  rintro e w6 ⟨rfl, hb⟩
  have QHB : Hid (Below w.heap.size w w6) := HB.out.trans (hb.mono HB.out.size)
  have QXx0 : Hid (RowI w6 px0 C.length (fun i => C.getD i 0)) := Nu.row_below Xx0.out hb
  have QXx1 : Hid (RowI w6 px1 D.length (fun i => D.getD i 0)) := Nu.row_below Xx1.out hb
  clear HB Xx0 Xx1
  have HB := QHB
  have Xx0 := QXx0
  have Xx1 := QXx1
  clear QHB QXx0 QXx1
  clear hb HIM
  clear ltx0 gex0 ltx1 gex1
  have gey0 : w.heap.size ≤ w6.heap.size := HB.out.size
  go_wp2_with fail
  refine (Nu.toInts a0 cap0 C _ hsC (HR0.out.below HB.out)).mono ?_
  rintro e w7 ⟨rfl, hm, hb⟩
  have QHB : Hid (Below w.heap.size w w7) := HB.out.trans (hb.mono HB.out.size)
  have QXx0 : Hid (RowI w7 px0 C.length (fun i => C.getD i 0)) := Nu.row_below Xx0.out hb
  have QXx1 : Hid (RowI w7 px1 D.length (fun i => D.getD i 0)) := Nu.row_below Xx1.out hb
  clear HB Xx0 Xx1
  have HB := QHB
  have Xx0 := QXx0
  have Xx1 := QXx1
  clear QHB QXx0 QXx1
  have Xy0 : Hid (RowI w7 w6.heap.size C.length (fun i => C.getD i 0)) := hm
  have lty0 : w6.heap.size < w7.heap.size := Xy0.out.lt
  clear hm hb
  generalize w6.heap.size = py0 at Xy0 lty0 gey0 ⊢
  go_wp2_with fail
  refine (Nu.alikeB _ _ _ _ _ _ hsC (Nu.row_rd Xx0.out) (Nu.row_rd Xy0.out)).mono ?_
  rintro e w8 ⟨rfl, hb⟩
  have QHB : Hid (Below w.heap.size w w8) := HB.out.trans (hb.mono HB.out.size)
  have QXx0 : Hid (RowI w8 px0 C.length (fun i => C.getD i 0)) := Nu.row_below Xx0.out hb
  have QXx1 : Hid (RowI w8 px1 D.length (fun i => D.getD i 0)) := Nu.row_below Xx1.out hb
  have QXy0 : Hid (RowI w8 py0 C.length (fun i => C.getD i 0)) := Nu.row_below Xy0.out hb
  clear HB Xx0 Xx1 Xy0
  have HB := QHB
  have Xx0 := QXx0
  have Xx1 := QXx1
  have Xy0 := QXy0
  clear QHB QXx0 QXx1 QXy0
  clear hb lty0 gey0
  clear Xx0 Xy0
  have gey1 : w.heap.size ≤ w8.heap.size := HB.out.size
  go_wp2_with fail
  refine (Nu.toInts a1 cap1 D _ hsD (HR1.out.below HB.out)).mono ?_
  rintro e w9 ⟨rfl, hm, hb⟩
  have QHB : Hid (Below w.heap.size w w9) := HB.out.trans (hb.mono HB.out.size)
  have QXx1 : Hid (RowI w9 px1 D.length (fun i => D.getD i 0)) := Nu.row_below Xx1.out hb
  clear HB Xx1
  have HB := QHB
  have Xx1 := QXx1
  clear QHB QXx1
  have Xy1 : Hid (RowI w9 w8.heap.size D.length (fun i => D.getD i 0)) := hm
  have lty1 : w8.heap.size < w9.heap.size := Xy1.out.lt
  clear hm hb
  generalize w8.heap.size = py1 at Xy1 lty1 gey1 ⊢
  go_wp2_with fail
  refine (Nu.alikeB _ _ _ _ _ _ hsD (Nu.row_rd Xx1.out) (Nu.row_rd Xy1.out)).mono ?_
  rintro e w10 ⟨rfl, hb⟩
  have QHB : Hid (Below w.heap.size w w10) := HB.out.trans (hb.mono HB.out.size)
  have QXx1 : Hid (RowI w10 px1 D.length (fun i => D.getD i 0)) := Nu.row_below Xx1.out hb
  have QXy1 : Hid (RowI w10 py1 D.length (fun i => D.getD i 0)) := Nu.row_below Xy1.out hb
  clear HB Xx1 Xy1
  have HB := QHB
  have Xx1 := QXx1
  have Xy1 := QXy1
  clear QHB QXx1 QXy1
  clear hb lty1 gey1
  clear Xx1 Xy1
  go_wp2
  go_ret
  exact ⟨rfl, HB.out⟩

theorem lifted (os : Os) (started : os.Started) (H : Type) (enc : TypeId × Value → H) :
    ReturnsInHanded {} Try.checked os 3 .any (Rows.fnExactBeginsWithSpec.pre6 enc Try.prog Try.f3 Rows.fnExactBeginsWithRow.domain false) (Rows.fnExactBeginsWithSpec.post enc Try.prog Try.f3 false true false false) := by
  refine returnsInHanded_of_change (C := Try.checked) own started (by kernel_rfl) Try.func3
    (ChangeSpec.witness6 (enc := enc) (C := Try.checked) false ⟨#[], #[.slice none 0 0, .slice none 0 0], []⟩ 8 (by kernel_rfl) (by kernel_rfl) (by kernel_rfl) (by kernel_rfl)) ?_
  intro W base args ds gs before hval0 hW hcnd _
  have hval : ∀ (j : Nat) t v, Try.f3.params[j]? = some t → args[j]? = some v → Value.okWide Try.prog W .any base t v := hval0
  have hW' := hW
  obtain ⟨p, q, hA0, hV, rfl, hfz, hnd⟩ := hW
  have hA : DataW.TrodAll enc Try.prog W 0 (fun _ => true) true Try.f3.params.toList args.toList ds p := hA0
  rw [Try.params3] at hA hval
  obtain ⟨v0, vs0, d0, ds0, p0, q0, hargs, rfl, rfl, h0, r0⟩ := trodAll_cons hA
  obtain ⟨v1, vs1, d1, ds1, p1, q1, rfl, rfl, rfl, h1, r1⟩ := trodAll_cons r0
  obtain ⟨rfl, rfl, rfl⟩ := trodAll_nil r1
  obtain rfl : args = #[v0, v1] := by cases args; simp_all
  obtain ⟨rfl, rfl⟩ := trodVars_none hV
  obtain ⟨a0, len0, cap0, rfl⟩ := okWide_slice Try.underlying22 (hval 0 22 v0 rfl rfl)
  have k0 := h0
  have lt0 : ∀ x ∈ p0, x.block < W.heap.size := by obtain ⟨m, hm⟩ := k0; exact DataW.trod_lt m _ _ _ hm
  obtain ⟨fuel0, hf0⟩ := h0
  obtain ⟨C, rfl, hrd0, hzC, hmC⟩ := Nu.openI (a0 := a0) (len0 := len0) (cap0 := cap0) hf0
  obtain ⟨a1, len1, cap1, rfl⟩ := okWide_slice Try.underlying22 (hval 1 22 v1 rfl rfl)
  have k1 := h1
  have lt1 : ∀ x ∈ p1, x.block < W.heap.size := by obtain ⟨m, hm⟩ := k1; exact DataW.trod_lt m _ _ _ hm
  obtain ⟨fuel1, hf1⟩ := h1
  obtain ⟨D, rfl, hrd1, hzD, hmD⟩ := Nu.openI (a0 := a1) (len0 := len1) (cap0 := cap1) hf1
  clear hA0 hval0
  simp only [List.append_nil] at hW'
  refine (walk (fun C D hlC hzC hlD hzD W g0 g1 hr0 hg0 hr1 hg1 => Tp.implBegins _ _ C _ _ D W (Nat.le_refl _) hlC hlD hr0 hr1) a0 cap0 C a1 cap1 D W hmC hzC hrd0 hmD hzD hrd1).mono fun e W' ⟨he, bel⟩ => ?_
  subst he
  exact ⟨_, rfl, _, _, _, [], _, [], hW', trodAll_mk1 (shut_bool Try.underlying4 _), (trodAll_cons_mk (Below.trod laidOut (by kernel_rfl) (of_decide_eq_true (by kernel_rfl)) k0 bel lt0) (trodAll_cons_mk (Below.trod laidOut (by kernel_rfl) (of_decide_eq_true (by kernel_rfl)) k1 bel lt1) trodAll_mk0)), rfl, bel.frame _, fun h => by cases h⟩

theorem over : Rows.fnExactBeginsWithRow.holds Try.pinned (OpenSpec.ofChange Rows.fnExactBeginsWithSpec) :=
  OpenClaim.holds_of_wide 3 Try.f3 rfl rfl rfl rfl rfl rfl rfl ⟨rfl, rfl, rfl, rfl, rfl⟩ rfl rfl rfl rfl rfl (by kernel_rfl) Try.func3 (by kernel_rfl)
    (of_decide_eq_true (by kernel_rfl)) (by unfold Func.isWrapper; first | (rw [if_pos (by decide +kernel)]; kernel_rfl) | (rw [if_neg (by decide +kernel)]; exact ⟨rfl, rfl⟩))
    (fun os started H enc _ => lifted os started H enc)

theorem proved : Rows.FnExactBeginsWithSaid :=
  over
end Go.Proofs.Ytodgkhlnefggdaa.fnExactBeginsWith
