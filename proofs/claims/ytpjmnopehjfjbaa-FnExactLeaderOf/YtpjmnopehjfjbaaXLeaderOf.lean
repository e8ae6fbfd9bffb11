/-
  FnExactLeaderOf answers true at every argument, for LeaderOf answers as its model does; no condition.
-/
import Derived.Test.YtpjmnopehjfjbaaRows
import Derived.WalkKit
import Derived.ProofKit
import Derived.OpenShut
import Derived.ChangeOld
import Derived.Below
import Derived.Lib.SmallJoins
import Derived.Test.YtpjmnopehjfjbaaIntsG
import Derived.Test.YtpjmnopehjfjbaaMarkI
import Derived.Test.YtpjmnopehjfjbaaWaveS
import Derived.Test.YtpjmnopehjfjbaaWaveX
namespace Go.Proofs.Ytpjmnopehjfjbaa.fnExactLeaderOf
open Go.ChangeShapes Go.WideShapes Go.ChangeAt Go.RowKit Go.Joins
open Kn (K)
open Lc (RdK)
open Db (RowI)
set_option linter.unusedVariables false
set_option maxRecDepth 100000

theorem own : ownKnob Try.prog.godebug = none := by kernel_rfl
theorem laidOut : laidOutB Try.prog = true := by kernel_rfl
theorem trI {H : Type} {enc : TypeId × Value → H} {w : World} {base : Nat} {spare : Nat → Bool} {held : Bool} (a : Int) (wa : (Lit.int .i64 a).wf = true) : ∃ n, DataW.trod enc Try.prog w base spare held n 2 [.int .i64 a] = some (.lit (.int .i64 a), []) :=
  ⟨1, by simp [DataW.trod, Try.underlying2, wa]⟩
theorem trS {H : Type} {enc : TypeId × Value → H} {w : World} {base : Nat} {spare : Nat → Bool} {held : Bool} (a : ByteArray) (wa : a.size ≤ maxLen) : ∃ n, DataW.trod enc Try.prog w base spare held n 9 [.string a] = some (.lit (.string a.data.toList), []) :=
  ⟨1, by simp [DataW.trod, Try.underlying9, wa]⟩
theorem int_bd {a : Int} (w : (Lit.int .i64 a).wf = true) : -9223372036854775808 ≤ a ∧ a ≤ 9223372036854775807 := by
  simpa [Lit.wf, IntKind.min, IntKind.max, IntKind.signed, IntKind.bits] using w

/-- what is asked of the program -/
def ImplT : Prop := ∀ (C : List Int) (v : Int), C.length ≤ 1048576 → (∀ z ∈ C, -9223372036854775808 ≤ z ∧ z ≤ 9223372036854775807) → -9223372036854775808 ≤ v → v ≤ 9223372036854775807 → 
    ∀ (W : World) (g0 : Nat), Lst.Rd W (some ⟨g0, 0, none⟩) C → g0 < W.heap.size → Calls Try.prog 14 #[.slice (some ⟨g0, 0, none⟩) C.length C.length, .int .i64 v] W fun e w' => e = .returned (.int .i64 (Ch.leaderI C v)) ∧ Below W.heap.size W w'
theorem specT : ∀ (C : List Int) (v : Int), C.length ≤ 1048576 → (∀ z ∈ C, -9223372036854775808 ≤ z ∧ z ≤ 9223372036854775807) → -9223372036854775808 ≤ v → v ≤ 9223372036854775807 → 
    ∀ (W : World) (g0 : Nat), Lst.Rd W (some ⟨g0, 0, none⟩) C → g0 < W.heap.size → Calls Try.prog 13 #[.slice (some ⟨g0, 0, none⟩) C.length C.length, .int .i64 v] W fun e w' => e = .returned (.int .i64 (Ch.leaderI C v)) ∧ Below W.heap.size W w' :=
  fun C v hlC hzC h0v h1v W g0 hr0 hg0 => (Ch.specLeaderOf _ _ C v W hlC hr0).mono fun _ _ h => ⟨h.1, h.2 ▸ Below.refl _ _⟩

set_option maxHeartbeats 6400000 in
theorem walk (HI : ImplT) (a0 : Option Addr) (cap0 : Nat) (C : List Int) (v : Int) (w : World) (hmC : C.length ≤ maxLen) (hzC : ∀ z ∈ C, -9223372036854775808 ≤ z ∧ z ≤ 9223372036854775807) (hr0 : Nu.RdI w a0 C) (hnv : -9223372036854775808 ≤ v ∧ v ≤ 9223372036854775807) :
    Calls Try.prog 5 #[.slice a0 C.length cap0, .int .i64 v] w fun e w' => e = .returned (.bool true) ∧ Below w.heap.size w w' := by
  unfold maxLen at hmC
  by_cases hbigC : 1048576 < C.length
  · have hbig' : (1048576 : Int) < (C.length : Int) := by omega
    go_enter Try.func5, Try.ntmps5
    go_wp2
    go_ret
    exact ⟨rfl, Below.refl _ _⟩
  have hbigC' : ¬ (1048576 : Int) < (C.length : Int) := by omega
  have hsC : C.length ≤ 1048576 := by omega
  clear hbigC hmC
  have HR0 : Hid (Nu.RdI w a0 C) := hr0
  have HZC : Hid (∀ z ∈ C, -9223372036854775808 ≤ z ∧ z ≤ 9223372036854775807) := hzC
  clear hr0 hzC
  have HII : Hid ImplT := HI
  clear HI
  go_enter Try.func5, Try.ntmps5
  have HB : Hid (Below w.heap.size w w) := Below.refl _ _
  have HSP : Hid (∀ (W : World) (g0 : Nat), Lst.Rd W (some ⟨g0, 0, none⟩) C → g0 < W.heap.size → Calls Try.prog 13 #[.slice (some ⟨g0, 0, none⟩) C.length C.length, .int .i64 v] W fun e w' => e = .returned (.int .i64 (Ch.leaderI C v)) ∧ Below W.heap.size W w') := specT C v hsC HZC.out hnv.1 hnv.2
  have HIM : Hid (∀ (W : World) (g0 : Nat), Lst.Rd W (some ⟨g0, 0, none⟩) C → g0 < W.heap.size → Calls Try.prog 14 #[.slice (some ⟨g0, 0, none⟩) C.length C.length, .int .i64 v] W fun e w' => e = .returned (.int .i64 (Ch.leaderI C v)) ∧ Below W.heap.size W w') := HII.out C v hsC HZC.out hnv.1 hnv.2
  clear HII
  generalize Ch.leaderI C v = ans at HSP HIM
  have ges0 : w.heap.size ≤ w.heap.size := HB.out.size
  go_wp2_with fail
  refine (Nu.toInts a0 cap0 C _ hsC (HR0.out.below HB.out)).mono ?_
  rintro e w1 ⟨rfl, hm, hb⟩
  have QHB : Hid (Below w.heap.size w w1) := HB.out.trans (hb.mono HB.out.size)
  clear HB
  have HB := QHB
  clear QHB
  have Xs0 : Hid (RowI w1 w.heap.size C.length (fun i => C.getD i 0)) := hm
  have lts0 : w.heap.size < w1.heap.size := Xs0.out.lt
  clear hm hb
  generalize w.heap.size = ps0 at Xs0 lts0 ges0 ⊢
  go_wp2_with fail
  refine (HSP.out _ _ (Nu.row_rd Xs0.out) Xs0.out.lt).mono ?_
  rintro e w2 ⟨rfl, hb⟩
  have QHB : Hid (Below w.heap.size w w2) := HB.out.trans (hb.mono HB.out.size)
  have QXs0 : Hid (RowI w2 ps0 C.length (fun i => C.getD i 0)) := Nu.row_below Xs0.out hb
  clear HB Xs0
  have HB := QHB
  have Xs0 := QXs0
  clear QHB QXs0
  clear hb HSP
  clear Xs0
  clear lts0 ges0
  have gex0 : w.heap.size ≤ w2.heap.size := HB.out.size
  go_wp2_with fail
  refine (Nu.toInts a0 cap0 C _ hsC (HR0.out.below HB.out)).mono ?_
  rintro e w3 ⟨rfl, hm, hb⟩
  have QHB : Hid (Below w.heap.size w w3) := HB.out.trans (hb.mono HB.out.size)
  clear HB
  have HB := QHB
  clear QHB
  have Xx0 : Hid (RowI w3 w2.heap.size C.length (fun i => C.getD i 0)) := hm
  have ltx0 : w2.heap.size < w3.heap.size := Xx0.out.lt
  clear hm hb
  generalize w2.heap.size = px0 at Xx0 ltx0 gex0 ⊢
  go_wp2_with fail
  refine (HIM.out _ _ (Nu.row_rd Xx0.out) Xx0.out.lt).mono ?_
  rintro e w4 ⟨rfl, hb⟩
  have QHB : Hid (Below w.heap.size w w4) := HB.out.trans (hb.mono HB.out.size)
  have QXx0 : Hid (RowI w4 px0 C.length (fun i => C.getD i 0)) := Nu.row_below Xx0.out hb
  clear HB Xx0
  have HB := QHB
  have Xx0 := QXx0
  clear QHB QXx0
  clear hb HIM
  clear ltx0 gex0
  have gey0 : w.heap.size ≤ w4.heap.size := HB.out.size
  go_wp2_with fail
  refine (Nu.toInts a0 cap0 C _ hsC (HR0.out.below HB.out)).mono ?_
  rintro e w5 ⟨rfl, hm, hb⟩
  have QHB : Hid (Below w.heap.size w w5) := HB.out.trans (hb.mono HB.out.size)
  have QXx0 : Hid (RowI w5 px0 C.length (fun i => C.getD i 0)) := Nu.row_below Xx0.out hb
  clear HB Xx0
  have HB := QHB
  have Xx0 := QXx0
  clear QHB QXx0
  have Xy0 : Hid (RowI w5 w4.heap.size C.length (fun i => C.getD i 0)) := hm
  have lty0 : w4.heap.size < w5.heap.size := Xy0.out.lt
  clear hm hb
  generalize w4.heap.size = py0 at Xy0 lty0 gey0 ⊢
  go_wp2_with fail
  refine (Nu.alikeB _ _ _ _ _ _ hsC (Nu.row_rd Xx0.out) (Nu.row_rd Xy0.out)).mono ?_
  rintro e w6 ⟨rfl, hb⟩
  have QHB : Hid (Below w.heap.size w w6) := HB.out.trans (hb.mono HB.out.size)
  have QXx0 : Hid (RowI w6 px0 C.length (fun i => C.getD i 0)) := Nu.row_below Xx0.out hb
  have QXy0 : Hid (RowI w6 py0 C.length (fun i => C.getD i 0)) := Nu.row_below Xy0.out hb
  clear HB Xx0 Xy0
  have HB := QHB
  have Xx0 := QXx0
  have Xy0 := QXy0
  clear QHB QXx0 QXy0
  clear hb lty0 gey0
  clear Xx0 Xy0
  go_wp2
  go_ret
  exact ⟨rfl, HB.out⟩

theorem lifted (os : Os) (started : os.Started) (H : Type) (enc : TypeId × Value → H) :
    ReturnsInHanded {} Try.checked os 5 .any (Rows.fnExactLeaderOfSpec.pre6 enc Try.prog Try.f5 Rows.fnExactLeaderOfRow.domain false) (Rows.fnExactLeaderOfSpec.post enc Try.prog Try.f5 false true false false) := by
  refine returnsInHanded_of_change (C := Try.checked) own started (by kernel_rfl) Try.func5
    (ChangeSpec.witness6 (enc := enc) (C := Try.checked) false ⟨#[], #[.slice none 0 0, .int .i64 0], []⟩ 8 (by kernel_rfl) (by kernel_rfl) (by kernel_rfl) (by kernel_rfl)) ?_
  intro W base args ds gs before hval0 hW hcnd _
  have hval : ∀ (j : Nat) t v, Try.f5.params[j]? = some t → args[j]? = some v → Value.okWide Try.prog W .any base t v := hval0
  have hW' := hW
  obtain ⟨p, q, hA0, hV, rfl, hfz, hnd⟩ := hW
  have hA : DataW.TrodAll enc Try.prog W 0 (fun _ => true) true Try.f5.params.toList args.toList ds p := hA0
  rw [Try.params5] at hA hval
  obtain ⟨v0, vs0, d0, ds0, p0, q0, hargs, rfl, rfl, h0, r0⟩ := trodAll_cons hA
  obtain ⟨v1, vs1, d1, ds1, p1, q1, rfl, rfl, rfl, h1, r1⟩ := trodAll_cons r0
  obtain ⟨rfl, rfl, rfl⟩ := trodAll_nil r1
  obtain rfl : args = #[v0, v1] := by cases args; simp_all
  obtain ⟨rfl, rfl⟩ := trodVars_none hV
  obtain ⟨a0, len0, cap0, rfl⟩ := okWide_slice Try.underlying22 (hval 0 22 v0 rfl rfl)
  have k0 := h0
  have lt0 : ∀ x ∈ p0, x.block < W.heap.size := by obtain ⟨m, hm⟩ := k0; exact DataW.trod_lt m _ _ _ hm
  obtain ⟨fuel0, hf0⟩ := h0
  obtain ⟨C, rfl, hrd0, hzC, hmC⟩ := Nu.openI (a0 := a0) (len0 := len0) (cap0 := cap0) hf0
  obtain ⟨x1, rfl, rfl, rfl, w1⟩ := open_int Try.underlying2 (hval 1 2 v1 rfl rfl) h1
  clear hA0 hval0
  simp only [List.append_nil] at hW'
  refine (walk (fun C v hlC hzC h0v h1v W g0 hr0 hg0 => Ch.implLeaderOf _ _ C v W hlC hr0 (Nu.at_block hg0)) a0 cap0 C x1 W hmC hzC hrd0 (int_bd w1)).mono fun e W' ⟨he, bel⟩ => ?_
  subst he
  exact ⟨_, rfl, _, _, _, [], _, [], hW', trodAll_mk1 (shut_bool Try.underlying4 _), (trodAll_cons_mk (Below.trod laidOut (by kernel_rfl) (of_decide_eq_true (by kernel_rfl)) k0 bel lt0) (trodAll_cons_mk (shut_int Try.underlying2 w1) trodAll_mk0)), rfl, bel.frame _, fun h => by cases h⟩

theorem over : Rows.fnExactLeaderOfRow.holds Try.pinned (OpenSpec.ofChange Rows.fnExactLeaderOfSpec) :=
  OpenClaim.holds_of_wide 5 Try.f5 rfl rfl rfl rfl rfl rfl rfl ⟨rfl, rfl, rfl, rfl, rfl⟩ rfl rfl rfl rfl rfl (by kernel_rfl) Try.func5 (by kernel_rfl)
    (of_decide_eq_true (by kernel_rfl)) (by unfold Func.isWrapper; first | (rw [if_pos (by decide +kernel)]; kernel_rfl) | (rw [if_neg (by decide +kernel)]; exact ⟨rfl, rfl⟩))
    (fun os started H enc _ => lifted os started H enc)

theorem proved : Rows.FnExactLeaderOfSaid :=
  over
end Go.Proofs.Ytpjmnopehjfjbaa.fnExactLeaderOf
