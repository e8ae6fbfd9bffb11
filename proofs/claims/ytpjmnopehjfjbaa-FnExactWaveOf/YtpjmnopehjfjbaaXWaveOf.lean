/-
  FnExactWaveOf answers true at every argument, for WaveOf answers as its model does; no condition.
-/
import Derived.Test.YtpjmnopehjfjbaaRows
import Derived.WalkKit
import Derived.ProofKit
import Derived.OpenShut
import Derived.ChangeOld
import Derived.Below
import Derived.Lib.SmallJoins
import Derived.Test.YtpjmnopehjfjbaaIntsG
import Derived.Test.YtpjmnopehjfjbaaWaveS
import Derived.Test.YtpjmnopehjfjbaaWaveX
namespace Go.Proofs.Ytpjmnopehjfjbaa.fnExactWaveOf
open Go.ChangeShapes Go.WideShapes Go.ChangeAt Go.RowKit Go.Joins
open Kn (K)
open Lc (RdK)
open Db (RowI)
set_option linter.unusedVariables false
set_option maxRecDepth 100000

theorem own : ownKnob Try.prog.godebug = none := by kernel_rfl
theorem laidOut : laidOutB Try.prog = true := by kernel_rfl
theorem trI {H : Type} {enc : TypeId × Value → H} {w : World} {base : Nat} {spare : Nat → Bool} {held : Bool} (a : Int) (wa : (Lit.int .i64 a).wf = true) : ∃ n, DataW.trod enc Try.prog w base spare held n 2 [.int .i64 a] = some (.lit (.int .i64 a), []) :=
  ⟨1, by simp [DataW.trod, Try.underlying2, wa]⟩
theorem trS {H : Type} {enc : TypeId × Value → H} {w : World} {base : Nat} {spare : Nat → Bool} {held : Bool} (a : ByteArray) (wa : a.size ≤ maxLen) : ∃ n, DataW.trod enc Try.prog w base spare held n 9 [.string a] = some (.lit (.string a.data.toList), []) :=
  ⟨1, by simp [DataW.trod, Try.underlying9, wa]⟩
theorem int_bd {a : Int} (w : (Lit.int .i64 a).wf = true) : -9223372036854775808 ≤ a ∧ a ≤ 9223372036854775807 := by
  simpa [Lit.wf, IntKind.min, IntKind.max, IntKind.signed, IntKind.bits] using w

/-- what is asked of the program -/
def ImplT : Prop := ∀ (r : Int), -9223372036854775808 ≤ r → r ≤ 9223372036854775807 → 
    ∀ (W : World), Calls Try.prog 12 #[.int .i64 r] W fun e w' => e = .returned (.int .i64 (Ch.waveI r)) ∧ Below W.heap.size W w'
theorem specT : ∀ (r : Int), -9223372036854775808 ≤ r → r ≤ 9223372036854775807 → 
    ∀ (W : World), Calls Try.prog 11 #[.int .i64 r] W fun e w' => e = .returned (.int .i64 (Ch.waveI r)) ∧ Below W.heap.size W w' :=
  fun r h0r h1r W => (Ch.specWaveOf r W).mono fun _ _ h => ⟨h.1, h.2 ▸ Below.refl _ _⟩

set_option maxHeartbeats 6400000 in
theorem walk (HI : ImplT) (r : Int) (w : World) (hnr : -9223372036854775808 ≤ r ∧ r ≤ 9223372036854775807) :
    Calls Try.prog 4 #[.int .i64 r] w fun e w' => e = .returned (.bool true) ∧ Below w.heap.size w w' := by
  have HII : Hid ImplT := HI
  clear HI
  go_enter Try.func4, Try.ntmps4
  have HB : Hid (Below w.heap.size w w) := Below.refl _ _
  have HSP : Hid (∀ W : World, Calls Try.prog 11 #[.int .i64 r] W fun e w' => e = .returned (.int .i64 (Ch.waveI r)) ∧ Below W.heap.size W w') := specT r hnr.1 hnr.2
  have HIM : Hid (∀ W : World, Calls Try.prog 12 #[.int .i64 r] W fun e w' => e = .returned (.int .i64 (Ch.waveI r)) ∧ Below W.heap.size W w') := HII.out r hnr.1 hnr.2
  clear HII
  generalize Ch.waveI r = ans at HSP HIM
  go_wp2_with fail
  refine (HSP.out _  ).mono ?_
  rintro e w1 ⟨rfl, hb⟩
  have QHB : Hid (Below w.heap.size w w1) := HB.out.trans (hb.mono HB.out.size)
  clear HB
  have HB := QHB
  clear QHB
  clear hb HSP
  go_wp2_with fail
  refine (HIM.out _  ).mono ?_
  rintro e w2 ⟨rfl, hb⟩
  have QHB : Hid (Below w.heap.size w w2) := HB.out.trans (hb.mono HB.out.size)
  clear HB
  have HB := QHB
  clear QHB
  clear hb HIM
  go_wp2
  go_ret
  exact ⟨rfl, HB.out⟩

theorem lifted (os : Os) (started : os.Started) (H : Type) (enc : TypeId × Value → H) :
    ReturnsInHanded {} Try.checked os 4 .any (Rows.fnExactWaveOfSpec.pre6 enc Try.prog Try.f4 Rows.fnExactWaveOfRow.domain false) (Rows.fnExactWaveOfSpec.post enc Try.prog Try.f4 false true false false) := by
  refine returnsInHanded_of_change (C := Try.checked) own started (by kernel_rfl) Try.func4
    (ChangeSpec.witness6 (enc := enc) (C := Try.checked) false ⟨#[], #[.int .i64 0], []⟩ 8 (by kernel_rfl) (by kernel_rfl) (by kernel_rfl) (by kernel_rfl)) ?_
  intro W base args ds gs before hval0 hW hcnd _
  have hval : ∀ (j : Nat) t v, Try.f4.params[j]? = some t → args[j]? = some v → Value.okWide Try.prog W .any base t v := hval0
  have hW' := hW
  obtain ⟨p, q, hA0, hV, rfl, hfz, hnd⟩ := hW
  have hA : DataW.TrodAll enc Try.prog W 0 (fun _ => true) true Try.f4.params.toList args.toList ds p := hA0
  rw [Try.params4] at hA hval
  obtain ⟨v0, vs0, d0, ds0, p0, q0, hargs, rfl, rfl, h0, r0⟩ := trodAll_cons hA
  obtain ⟨rfl, rfl, rfl⟩ := trodAll_nil r0
  obtain rfl : args = #[v0] := by cases args; simp_all
  obtain ⟨rfl, rfl⟩ := trodVars_none hV
  obtain ⟨x0, rfl, rfl, rfl, w0⟩ := open_int Try.underlying2 (hval 0 2 v0 rfl rfl) h0
  clear hA0 hval0
  simp only [List.append_nil] at hW'
  refine (walk (fun r h0r h1r W => (Ch.implWaveOf r W).mono fun _ _ h => ⟨h.1, h.2 ▸ Below.refl _ _⟩) x0 W (int_bd w0)).mono fun e W' ⟨he, bel⟩ => ?_
  subst he
  exact ⟨_, rfl, _, _, _, [], _, [], hW', trodAll_mk1 (shut_bool Try.underlying4 _), (trodAll_cons_mk (shut_int Try.underlying2 w0) trodAll_mk0), rfl, bel.frame _, fun h => by cases h⟩

theorem over : Rows.fnExactWaveOfRow.holds Try.pinned (OpenSpec.ofChange Rows.fnExactWaveOfSpec) :=
  OpenClaim.holds_of_wide 4 Try.f4 rfl rfl rfl rfl rfl rfl rfl ⟨rfl, rfl, rfl, rfl, rfl⟩ rfl rfl rfl rfl rfl (by kernel_rfl) Try.func4 (by kernel_rfl)
    (of_decide_eq_true (by kernel_rfl)) (by unfold Func.isWrapper; first | (rw [if_pos (by decide +kernel)]; kernel_rfl) | (rw [if_neg (by decide +kernel)]; exact ⟨rfl, rfl⟩))
    (fun os started H enc _ => lifted os started H enc)

theorem proved : Rows.FnExactWaveOfSaid :=
  over
end Go.Proofs.Ytpjmnopehjfjbaa.fnExactWaveOf
