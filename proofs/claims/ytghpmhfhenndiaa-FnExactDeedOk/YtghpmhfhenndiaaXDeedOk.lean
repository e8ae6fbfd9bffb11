/-
  FnExactDeedOk answers true at every argument, for DeedOk answers as its model does; no condition.
-/
import Derived.Test.YtghpmhfhenndiaaRows
import Derived.WalkKit
import Derived.ProofKit
import Derived.OpenShut
import Derived.ChangeOld
import Derived.Below
import Derived.Lib.SmallJoins
import Derived.Test.YtghpmhfhenndiaaWdA
import Derived.Test.YtghpmhfhenndiaaLawD
namespace Go.Proofs.Ytghpmhfhenndiaa.fnExactDeedOk
open Go.ChangeShapes Go.WideShapes Go.ChangeAt Go.RowKit Go.Joins
set_option linter.unusedVariables false
set_option maxRecDepth 100000

theorem own : ownKnob Try.prog.godebug = none := by kernel_rfl
theorem cellsK : Try.prog.cellsOf 23 = 4 := by kernel_rfl

theorem trI {H : Type} {enc : TypeId × Value → H} {w : World} {base : Nat} {spare : Nat → Bool} {held : Bool} (a : Int) (wa : (Lit.int .i64 a).wf = true) : ∃ n, DataW.trod enc Try.prog w base spare held n 2 [.int .i64 a] = some (.lit (.int .i64 a), []) :=
  ⟨1, by simp [DataW.trod, Try.underlying2, wa]⟩
theorem trS {H : Type} {enc : TypeId × Value → H} {w : World} {base : Nat} {spare : Nat → Bool} {held : Bool} (a : ByteArray) (wa : a.size ≤ maxLen) : ∃ n, DataW.trod enc Try.prog w base spare held n 9 [.string a] = some (.lit (.string a.data.toList), []) :=
  ⟨1, by simp [DataW.trod, Try.underlying9, wa]⟩

set_option maxHeartbeats 1600000 in
theorem walk (h r f : Int) (s : ByteArray) (hs : s.size ≤ maxLen) (w : World) :
    Calls Try.prog 3 #[.agg #[.int .i64 h, .string s, .int .i64 r, .int .i64 f]] w fun e w' => e = .returned (.bool true) ∧ Below w.heap.size w w' := by
  have B0 : Below w.heap.size w (w.alloc (.cells #[.int .i64 h, .string s, .int .i64 r, .int .i64 f] 23)) := (Below.refl _ _).alloc (Nat.le_refl _) _
  have S0 : w.heap.size < (w.alloc (.cells #[.int .i64 h, .string s, .int .i64 r, .int .i64 f] 23)).heap.size := by simp
  have c0 : (w.alloc (.cells #[.int .i64 h, .string s, .int .i64 r, .int .i64 f] 23)).cell? ⟨w.heap.size, 0, none⟩ = some (.int .i64 h) := by simp
  have c1 : (w.alloc (.cells #[.int .i64 h, .string s, .int .i64 r, .int .i64 f] 23)).cell? ⟨w.heap.size, 1, none⟩ = some (.string s) := by simp
  have c2 : (w.alloc (.cells #[.int .i64 h, .string s, .int .i64 r, .int .i64 f] 23)).cell? ⟨w.heap.size, 2, none⟩ = some (.int .i64 r) := by simp
  have c3 : (w.alloc (.cells #[.int .i64 h, .string s, .int .i64 r, .int .i64 f] 23)).cell? ⟨w.heap.size, 3, none⟩ = some (.int .i64 f) := by simp
  have P0 : Hid (Below w.heap.size w (w.alloc (.cells #[.int .i64 h, .string s, .int .i64 r, .int .i64 f] 23)) ∧ _ ∧ _ ∧ _ ∧ _ ∧ _) := ⟨B0, S0, c0, c1, c2, c3⟩
  clear B0 S0 c0 c1 c2 c3
  go_enter Try.func3, Try.ntmps3
  go_wp2_with fail
  generalize w.alloc (.cells #[.int .i64 h, .string s, .int .i64 r, .int .i64 f] 23) = w0 at P0 ⊢
  obtain ⟨B0, S0, c0, c1, c2, c3⟩ := P0
  generalize hb : w.heap.size = b at *
  refine (De.szDeed _ _ _ _ 1048576 _ hs (by omega) (by omega)).mono ?_
  rintro e w1 ⟨rfl, hb1⟩
  replace c0 := (hb1.cell (p := ⟨b, 0, none⟩) S0).trans c0
  replace c1 := (hb1.cell (p := ⟨b, 1, none⟩) S0).trans c1
  replace c2 := (hb1.cell (p := ⟨b, 2, none⟩) S0).trans c2
  replace c3 := (hb1.cell (p := ⟨b, 3, none⟩) S0).trans c3
  have B1 := B0.trans (hb1.mono (Nat.le_of_lt S0))
  have S1 : b < w1.heap.size := Nat.lt_of_lt_of_le S0 hb1.size
  clear hb1 B0 S0
  by_cases hbig : 1048576 < s.size
  · have hz : De.szI 1048576 s.size = -1 := if_pos (by omega)
    rw [hz]
    go_wp2
    go_ret
    exact ⟨rfl, by first | exact B1 | (rw [hb]; exact B1)⟩
  · have hz : De.szI 1048576 s.size = 1048576 - (s.size : Int) := if_neg (by omega)
    rw [hz]
    have hnn : ¬ (1048576 - (s.size : Int)) < 0 := by omega
    have hs2 : s.size ≤ 1048576 := by omega
    clear hz hbig hs
    go_wp2_with fail
    refine (De.toDeed _ _ _ _ _).mono ?_
    rintro e w2 ⟨rfl, hb2⟩
    replace c0 := (hb2.cell (p := ⟨b, 0, none⟩) S1).trans c0
    replace c1 := (hb2.cell (p := ⟨b, 1, none⟩) S1).trans c1
    replace c2 := (hb2.cell (p := ⟨b, 2, none⟩) S1).trans c2
    replace c3 := (hb2.cell (p := ⟨b, 3, none⟩) S1).trans c3
    have B2 := B1.trans (hb2.mono (Nat.le_of_lt S1))
    have S2 : b < w2.heap.size := Nat.lt_of_lt_of_le S1 hb2.size
    clear hb2 B1 S1
    go_wp2_with fail
    refine (De.specDeedOk _ _ _ _ _ (by omega)).mono ?_
    rintro e w3 ⟨rfl, hb3⟩
    replace c0 := (hb3.cell (p := ⟨b, 0, none⟩) S2).trans c0
    replace c1 := (hb3.cell (p := ⟨b, 1, none⟩) S2).trans c1
    replace c2 := (hb3.cell (p := ⟨b, 2, none⟩) S2).trans c2
    replace c3 := (hb3.cell (p := ⟨b, 3, none⟩) S2).trans c3
    have B3 := B2.trans (hb3.mono (Nat.le_of_lt S2))
    have S3 : b < w3.heap.size := Nat.lt_of_lt_of_le S2 hb3.size
    clear hb3 B2 S2
    go_wp2_with fail
    refine (De.toDeed _ _ _ _ _).mono ?_
    rintro e w4 ⟨rfl, hb4⟩
    have B4 := B3.trans (hb4.mono (Nat.le_of_lt S3))
    have S4 : b < w4.heap.size := Nat.lt_of_lt_of_le S3 hb4.size
    clear hb4 B3 S3 c0 c1 c2 c3
    go_wp2_with fail
    refine (De.implDeedOk _ _ _ _ _ (by omega)).mono ?_
    rintro e w5 ⟨rfl, hb5⟩
    have B5 := B4.trans (hb5.mono (Nat.le_of_lt S4))
    clear hb5 B4 S4
    go_wp2
    go_ret
    exact ⟨rfl, by first | exact B5 | (rw [hb]; exact B5)⟩

theorem lifted (os : Os) (started : os.Started) (H : Type) (enc : TypeId × Value → H) :
    ReturnsInHanded {} Try.checked os 3 .any (Rows.fnExactDeedOkSpec.pre6 enc Try.prog Try.f3 Rows.fnExactDeedOkRow.domain false) (Rows.fnExactDeedOkSpec.post enc Try.prog Try.f3 false true false false) := by
  refine returnsInHanded_of_change (C := Try.checked) own started (by kernel_rfl) Try.func3
    (ChangeSpec.witness6 (enc := enc) (C := Try.checked) false ⟨#[], #[.agg #[.int .i64 0, .string ByteArray.empty, .int .i64 0, .int .i64 0]], []⟩ 8 (by kernel_rfl) (by kernel_rfl) (by kernel_rfl) (by kernel_rfl)) ?_
  intro W base args ds gs before hval0 hW hcnd _
  have hval : ∀ (j : Nat) t v, Try.f3.params[j]? = some t → args[j]? = some v → Value.okWide Try.prog W .any base t v := hval0
  have hW' := hW
  obtain ⟨p, q, hA0, hV, rfl, hfz, hnd⟩ := hW
  have hA : DataW.TrodAll enc Try.prog W 0 (fun _ => true) true Try.f3.params.toList args.toList ds p := hA0
  rw [Try.params3] at hA hval
  obtain ⟨v0, vs0, d0, ds0, p0, q0, hargs, rfl, rfl, h0, r0⟩ := trodAll_cons hA
  obtain ⟨rfl, rfl, rfl⟩ := trodAll_nil r0
  obtain rfl : args = #[v0] := by cases args; simp_all
  obtain ⟨rfl, rfl⟩ := trodVars_none hV
  obtain ⟨x0, x1, x2, x3, y0, y1, y2, y3, m, rfl, rfl, rfl, hy0, hy1, hy2, hy3⟩ := open_agg4 Try.underlying23 (by kernel_rfl) cellsK (hval 0 23 v0 rfl rfl) h0
  obtain ⟨a0, e0, rfl, w0⟩ := DataW.trod_int Try.underlying2 hy0
  obtain ⟨a1, e1, rfl, w1⟩ := DataW.trod_string Try.underlying9 hy1
  obtain ⟨a2, e2, rfl, w2⟩ := DataW.trod_int Try.underlying2 hy2
  obtain ⟨a3, e3, rfl, w3⟩ := DataW.trod_int Try.underlying2 hy3
  simp only [List.cons.injEq, and_true] at e0 e1 e2 e3
  subst e0 e1 e2 e3
  clear hA0 hval0
  simp only [List.append_nil] at hW'
  refine (walk a0 a2 a3 a1 w1 W).mono fun e W' ⟨he, hg⟩ => ?_
  subst he
  exact ⟨_, rfl, _, _, _, [], _, [], hW', trodAll_mk1 (shut_bool Try.underlying4 _), trodAll_cons_mk (shut_agg4 (y0 := (.lit (.int .i64 a0), [])) (y1 := (.lit (.string a1.data.toList), [])) (y2 := (.lit (.int .i64 a2), [])) (y3 := (.lit (.int .i64 a3), [])) Try.underlying23 (by kernel_rfl) cellsK (trI a0 w0) (trS a1 w1) (trI a2 w2) (trI a3 w3)) trodAll_mk0, rfl, hg.frame _, fun h => by cases h⟩

theorem over : Rows.fnExactDeedOkRow.holds Try.pinned (OpenSpec.ofChange Rows.fnExactDeedOkSpec) :=
  OpenClaim.holds_of_wide 3 Try.f3 rfl rfl rfl rfl rfl rfl rfl ⟨rfl, rfl, rfl, rfl, rfl⟩ rfl rfl rfl rfl rfl (by kernel_rfl) Try.func3 (by kernel_rfl)
    (of_decide_eq_true (by kernel_rfl)) (by unfold Func.isWrapper; first | (rw [if_pos (by decide +kernel)]; kernel_rfl) | (rw [if_neg (by decide +kernel)]; exact ⟨rfl, rfl⟩))
    (fun os started H enc _ => lifted os started H enc)

theorem proved : Rows.FnExactDeedOkSaid :=
  over
end Go.Proofs.Ytghpmhfhenndiaa.fnExactDeedOk
