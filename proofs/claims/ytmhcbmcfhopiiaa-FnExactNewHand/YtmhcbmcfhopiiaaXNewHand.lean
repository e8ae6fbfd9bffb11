/-
  FnExactNewHand answers true at every argument, for NewHand answers as its model does; no condition.
-/
import Derived.Test.YtmhcbmcfhopiiaaRows
import Derived.WalkKit
import Derived.ProofKit
import Derived.OpenShut
import Derived.ChangeOld
import Derived.Below
import Derived.Lib.SmallJoins
import Derived.Test.YtmhcbmcfhopiiaaLawH
import Derived.Test.YtmhcbmcfhopiiaaHandT
import Derived.Test.YtmhcbmcfhopiiaaHaN
namespace Go.Proofs.Ytmhcbmcfhopiiaa.fnExactNewHand
open Go.ChangeShapes Go.WideShapes Go.ChangeAt Go.RowKit Go.Joins
open Kn (K)
open Rm (Hd HAt)
set_option linter.unusedVariables false
set_option maxRecDepth 100000

theorem own : ownKnob Try.prog.godebug = none := by kernel_rfl
theorem laidOut : laidOutB Try.prog = true := by kernel_rfl
theorem trI {H : Type} {enc : TypeId × Value → H} {w : World} {base : Nat} {spare : Nat → Bool} {held : Bool} (a : Int) (wa : (Lit.int .i64 a).wf = true) : ∃ n, DataW.trod enc Try.prog w base spare held n 2 [.int .i64 a] = some (.lit (.int .i64 a), []) :=
  ⟨1, by simp [DataW.trod, Try.underlying2, wa]⟩
theorem trS {H : Type} {enc : TypeId × Value → H} {w : World} {base : Nat} {spare : Nat → Bool} {held : Bool} (a : ByteArray) (wa : a.size ≤ maxLen) : ∃ n, DataW.trod enc Try.prog w base spare held n 9 [.string a] = some (.lit (.string a.data.toList), []) :=
  ⟨1, by simp [DataW.trod, Try.underlying9, wa]⟩
theorem int_bd {a : Int} (w : (Lit.int .i64 a).wf = true) : -9223372036854775808 ≤ a ∧ a ≤ 9223372036854775807 := by
  simpa [Lit.wf, IntKind.min, IntKind.max, IntKind.signed, IntKind.bits] using w

/-- what is asked of the program -/
def ImplT : Prop := ∀ (k : Int), -9223372036854775808 ≤ k → k ≤ 9223372036854775807 → ∀ W : World, Calls Try.prog 5 #[.int .i64 k] W fun e w' => e = .returned (.tuple #[.agg #[.int .i64 (Rm.newHandH k).who, .int .i64 (Rm.newHandH k).has, .int .i64 (Rm.newHandH k).kept, .int .i64 (Rm.newHandH k).last], .bool (Kn.in3 k)]) ∧ Below W.heap.size W w'

set_option maxHeartbeats 3200000 in
theorem walk (HI : ImplT) (k : Int) (w : World) (hn : -9223372036854775808 ≤ k ∧ k ≤ 9223372036854775807) :
    Calls Try.prog 3 #[.int .i64 k] w fun e w' => e = .returned (.bool true) ∧ Below w.heap.size w w' := by
  have HSP : Hid (∀ W : World, Calls Try.prog 4 #[.int .i64 k] W fun e w' => e = .returned (.tuple #[.agg #[.int .i64 (Rm.newHandH k).who, .int .i64 (Rm.newHandH k).has, .int .i64 (Rm.newHandH k).kept, .int .i64 (Rm.newHandH k).last], .bool (Kn.in3 k)]) ∧ Below W.heap.size W w') := fun W => Rm.specNewHand k W
  have HIM : Hid (∀ W : World, Calls Try.prog 5 #[.int .i64 k] W fun e w' => e = .returned (.tuple #[.agg #[.int .i64 (Rm.newHandH k).who, .int .i64 (Rm.newHandH k).has, .int .i64 (Rm.newHandH k).kept, .int .i64 (Rm.newHandH k).last], .bool (Kn.in3 k)]) ∧ Below W.heap.size W w') := HI k hn.1 hn.2
  clear HI
  generalize Rm.newHandH k = hx at HSP HIM
  generalize Kn.in3 k = bx at HSP HIM
  go_enter Try.func3, Try.ntmps3
  go_wp2_with fail
  refine (HSP.out _).mono ?_
  rintro e w1 ⟨rfl, hb1⟩
  have HB1 : Hid (Below w.heap.size w (w1.alloc (.cells #[.int .i64 hx.who, .int .i64 hx.has, .int .i64 hx.kept, .int .i64 hx.last] 23))) := hb1.alloc hb1.size _
  have HX1 : Hid (HAt (w1.alloc (.cells #[.int .i64 hx.who, .int .i64 hx.has, .int .i64 hx.kept, .int .i64 hx.last] 23)) w1.heap.size 0 hx) := Rm.hat_new w1 hx _
  clear hb1
  go_upto_region 2 with fail
  generalize w1.alloc (.cells #[.int .i64 hx.who, .int .i64 hx.has, .int .i64 hx.kept, .int .i64 hx.last] 23) = V1 at HB1 HX1 ⊢
  generalize w1.heap.size = p1 at HX1 ⊢
  go_wp2_with fail
  refine (HIM.out _).mono ?_
  rintro e w2 ⟨rfl, hb2⟩
  have HB2 : Hid (Below w.heap.size w (w2.alloc (.cells #[.int .i64 hx.who, .int .i64 hx.has, .int .i64 hx.kept, .int .i64 hx.last] 23))) := (HB1.out.trans (hb2.mono HB1.out.size)).alloc (Nat.le_trans HB1.out.size hb2.size) _
  have HX2 : Hid (HAt (w2.alloc (.cells #[.int .i64 hx.who, .int .i64 hx.has, .int .i64 hx.kept, .int .i64 hx.last] 23)) w2.heap.size 0 hx) := Rm.hat_new w2 hx _
  have HY2 : Hid (HAt (w2.alloc (.cells #[.int .i64 hx.who, .int .i64 hx.has, .int .i64 hx.kept, .int .i64 hx.last] 23)) p1 0 hx) := Rm.hat_below (Rm.hat_below HX1.out hb2) ((Below.refl _ _).alloc (Nat.le_refl _) _)
  clear hb2 HB1 HX1
  go_upto_region 3 with fail
  generalize w2.alloc (.cells #[.int .i64 hx.who, .int .i64 hx.has, .int .i64 hx.kept, .int .i64 hx.last] 23) = V2 at HB2 HX2 HY2 ⊢
  generalize w2.heap.size = p2 at HX2 ⊢
  obtain ⟨n0, n1, n2, n3⟩ := Rm.cellsH HX2.out
  obtain ⟨m0, m1, m2, m3⟩ := Rm.cellsH HY2.out
  go_wp2_with fail
  refine (Rm.eqHand hx _).mono ?_
  rintro e wE ⟨rfl, bE⟩
  have HB3 : Hid (Below w.heap.size w wE) := HB2.out.trans (bE.mono HB2.out.size)
  clear n0 n1 n2 n3 m0 m1 m2 m3 HX2 HY2 bE HB2
  cases bx
  all_goals
    go_wp2
    go_ret
    exact ⟨rfl, HB3.out⟩

theorem lifted (os : Os) (started : os.Started) (H : Type) (enc : TypeId × Value → H) :
    ReturnsInHanded {} Try.checked os 3 .any (Rows.fnExactNewHandSpec.pre6 enc Try.prog Try.f3 Rows.fnExactNewHandRow.domain false) (Rows.fnExactNewHandSpec.post enc Try.prog Try.f3 false true false false) := by
  refine returnsInHanded_of_change (C := Try.checked) own started (by kernel_rfl) Try.func3
    (ChangeSpec.witness6 (enc := enc) (C := Try.checked) false ⟨#[], #[.int .i64 0], []⟩ 8 (by kernel_rfl) (by kernel_rfl) (by kernel_rfl) (by kernel_rfl)) ?_
  intro W base args ds gs before hval0 hW hcnd _
  have hval : ∀ (j : Nat) t v, Try.f3.params[j]? = some t → args[j]? = some v → Value.okWide Try.prog W .any base t v := hval0
  have hW' := hW
  obtain ⟨p, q, hA0, hV, rfl, hfz, hnd⟩ := hW
  have hA : DataW.TrodAll enc Try.prog W 0 (fun _ => true) true Try.f3.params.toList args.toList ds p := hA0
  rw [Try.params3] at hA hval
  obtain ⟨v0, vs0, d0, ds0, p0, q0, hargs, rfl, rfl, h0, r0⟩ := trodAll_cons hA
  obtain ⟨rfl, rfl, rfl⟩ := trodAll_nil r0
  obtain rfl : args = #[v0] := by cases args; simp_all
  obtain ⟨rfl, rfl⟩ := trodVars_none hV
  obtain ⟨x0, rfl, rfl, rfl, w0⟩ := open_int Try.underlying2 (hval 0 2 v0 rfl rfl) h0
  clear hA0 hval0
  simp only [List.append_nil] at hW'
  refine (walk (fun k _ _ W => Rm.implNewHand k W) x0 W (int_bd w0)).mono fun e W' ⟨he, bel⟩ => ?_
  subst he
  exact ⟨_, rfl, _, _, _, [], _, [], hW', trodAll_mk1 (shut_bool Try.underlying4 _), (trodAll_cons_mk (shut_int Try.underlying2 w0) trodAll_mk0), rfl, bel.frame _, fun h => by cases h⟩

theorem over : Rows.fnExactNewHandRow.holds Try.pinned (OpenSpec.ofChange Rows.fnExactNewHandSpec) :=
  OpenClaim.holds_of_wide 3 Try.f3 rfl rfl rfl rfl rfl rfl rfl ⟨rfl, rfl, rfl, rfl, rfl⟩ rfl rfl rfl rfl rfl (by kernel_rfl) Try.func3 (by kernel_rfl)
    (of_decide_eq_true (by kernel_rfl)) (by unfold Func.isWrapper; first | (rw [if_pos (by decide +kernel)]; kernel_rfl) | (rw [if_neg (by decide +kernel)]; exact ⟨rfl, rfl⟩))
    (fun os started H enc _ => lifted os started H enc)

theorem proved : Rows.FnExactNewHandSaid :=
  over
end Go.Proofs.Ytmhcbmcfhopiiaa.fnExactNewHand
