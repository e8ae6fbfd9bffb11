/-
  FnExactMembers answers true at every argument, for Members answers as its model does, writes nothing that was there and answers in memory of its own; no condition.
-/
import Derived.Test.YteeohgklodaehagRows
import Derived.WalkKit
import Derived.ProofKit
import Derived.OpenShut
import Derived.ChangeOld
import Derived.Below
import Derived.Test.YteeohgklodaehagList
namespace Go.Proofs.Yteeohgklodaehag.fnExactMembers
open Go.ChangeShapes Go.WideShapes Go.ChangeAt Go.RowKit
set_option linter.unusedVariables false

theorem own : ownKnob Try.prog.godebug = none := by kernel_rfl

set_option maxHeartbeats 1600000 in
theorem walk (a0 : Int) (w0 : (Lit.int .i64 a0).wf = true) (w : World) :
    Calls Try.prog 5 #[.int .i64 a0] w fun e w' => e = .returned (.bool true) ∧ Below w.heap.size w w' := by
  have hle := Memb.memI_le a0
  have hle' : (Memb.memI a0).length ≤ 1000000 := by omega
  go_enter Try.func5, Try.ntmps5
  go_wp2_with fail
  refine (Memb.specMembers _ _).mono ?_
  rintro e w1 ⟨ao, ca, rfl, hown0, hb1⟩
  go_wp2_with fail
  refine (Memb.implMembers _ _).mono ?_
  rintro e w2 ⟨bo, cb, rfl, hown1, hb2⟩
  have k2 := Lst.own_below hown0 hb2
  go_wp2_with fail
  refine (Lst.alike _ _ _ _ _ _ hle' (Lst.own_rd hown1) (Lst.own_rd k2)).mono ?_
  rintro e w3 ⟨rfl, n3, rfl⟩
  go_wp2_with fail
  refine (Lst.mark 1 _ _ _ _ _ (by omega) (by omega) hle' (Lst.own_drewN hown1 n3)).mono ?_
  rintro e w4 ⟨rfl, hown4, hb4⟩
  have b14 : Below w1.heap.size w1 w4 := (below_drewN hb2 n3).trans hb4
  go_wp2_with fail
  refine (Lst.held 1 _ _ _ _ (by omega) (by omega) hle' (Lst.own_rd hown4)).mono ?_
  rintro e w5 ⟨rfl, rfl⟩
  go_wp2_with fail
  refine (Memb.implMembers _ _).mono ?_
  rintro e w6 ⟨co, cc, rfl, hown6, hb6⟩
  have b16 : Below w1.heap.size w1 w6 := b14.trans (hb6.mono b14.size)
  have k6 := Lst.own_below hown0 b16
  have m6 := Lst.own_below hown4 hb6
  go_wp2_with fail
  refine (Lst.alike _ _ _ _ _ _ hle' (Lst.own_rd hown6) (Lst.own_rd k6)).mono ?_
  rintro e w7 ⟨rfl, n7, rfl⟩
  go_wp2_with fail
  refine (Lst.held 1 _ _ _ _ (by omega) (by omega) hle' (Lst.own_rd (Lst.own_drewN m6 n7))).mono ?_
  rintro e w8 ⟨rfl, rfl⟩
  go_wp2
  go_ret
  exact ⟨rfl, below_drewN (hb1.trans (b16.mono hb1.size)) n7⟩

/-! ### the row's step -/
set_option maxRecDepth 100000 in
theorem lifted (os : Os) (started : os.Started) (H : Type) (enc : TypeId × Value → H) :
    ReturnsInHanded {} Try.checked os 5 .any (Rows.fnExactMembersSpec.pre6 enc Try.prog Try.f5 Rows.fnExactMembersRow.domain false) (Rows.fnExactMembersSpec.post enc Try.prog Try.f5 false true false false) := by
  refine returnsInHanded_of_change (C := Try.checked) own started (by kernel_rfl) Try.func5
    (ChangeSpec.witness6 (enc := enc) (C := Try.checked) false ⟨#[], #[.int .i64 0], []⟩ 8 (by kernel_rfl) (by kernel_rfl) (by kernel_rfl) (by kernel_rfl)) ?_
  intro W base args ds gs before hval0 hW hcnd _
  have hval : ∀ (j : Nat) t v, Try.f5.params[j]? = some t → args[j]? = some v → Value.okWide Try.prog W .any base t v := hval0
  have hW' := hW
  obtain ⟨p, q, hA0, hV, rfl, hfz, hnd⟩ := hW
  have hA : DataW.TrodAll enc Try.prog W 0 (fun _ => true) true Try.f5.params.toList args.toList ds p := hA0
  rw [Try.params5] at hA hval
  obtain ⟨v0, vs0, d0, ds0, p0, q0, hargs, rfl, rfl, h0, r0⟩ := trodAll_cons hA
  obtain ⟨rfl, rfl, rfl⟩ := trodAll_nil r0
  obtain rfl : args = #[v0] := by cases args; simp_all
  obtain ⟨rfl, rfl⟩ := trodVars_none hV
  obtain ⟨a0, rfl, rfl, rfl, w0⟩ := open_int Try.underlying2 (hval 0 2 v0 rfl rfl) h0
  clear hA0 hval0
  simp only [List.append_nil] at hW'
  refine (walk a0 w0 W).mono fun e W' ⟨he, hg⟩ => ?_
  subst he
  exact ⟨_, rfl, _, _, _, [], _, [], hW', trodAll_mk1 (shut_bool Try.underlying4 _), (trodAll_cons_mk (shut_int Try.underlying2 w0) trodAll_mk0), rfl, hg.frame _, fun h => by cases h⟩

theorem over : Rows.fnExactMembersRow.holds Try.pinned (OpenSpec.ofChange Rows.fnExactMembersSpec) :=
  OpenClaim.holds_of_wide 5 Try.f5 rfl rfl rfl rfl rfl rfl rfl ⟨rfl, rfl, rfl, rfl, rfl⟩ rfl rfl rfl rfl rfl (by kernel_rfl) Try.func5 (by kernel_rfl)
    (of_decide_eq_true (by kernel_rfl)) (by unfold Func.isWrapper; first | (rw [if_pos (by decide +kernel)]; kernel_rfl) | (rw [if_neg (by decide +kernel)]; exact ⟨rfl, rfl⟩))
    (fun os started H enc _ => lifted os started H enc)

theorem proved : Rows.FnExactMembersSaid :=
  over
end Go.Proofs.Yteeohgklodaehag.fnExactMembers
