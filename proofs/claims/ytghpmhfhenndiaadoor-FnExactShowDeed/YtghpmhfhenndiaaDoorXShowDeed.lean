/-
  FnExactShowDeed answers true at every argument, for ShowDeed answers as its model does; the package variables that its road names are tied to the program's text (of a pruned copy of the project).
-/
import Derived.Test.YtghpmhfhenndiaaDoorRows
import Derived.WalkKit
import Derived.ProofKit
import Derived.OpenShut
import Derived.ChangeOld
import Derived.Below
import Derived.Lib.SmallJoins
import Derived.LaidMore
import Derived.Stop.Joined
import Derived.SevenTiedAt
import Derived.Lay
import Derived.Test.YtghpmhfhenndiaaDoorCards
import Derived.Test.YtghpmhfhenndiaaDoorTie
import Derived.Test.YtghpmhfhenndiaaDoorWdC
import Derived.Test.YtghpmhfhenndiaaDoorWdD
import Derived.Test.YtghpmhfhenndiaaDoorLawD
namespace Go.Proofs.YtghpmhfhenndiaaDoor.fnExactShowDeed
open Go.ChangeShapes Go.WideShapes Go.ChangeAt Go.RowKit Go.Joins
set_option linter.unusedVariables false
set_option maxRecDepth 100000

theorem own : ownKnob Tryd.prog.godebug = none := by kernel_rfl
theorem cellsK : Tryd.prog.cellsOf 32 = 4 := by kernel_rfl

theorem trI {H : Type} {enc : TypeId × Value → H} {w : World} {base : Nat} {spare : Nat → Bool} {held : Bool} (a : Int) (wa : (Lit.int .i64 a).wf = true) : ∃ n, DataW.trod enc Tryd.prog w base spare held n 2 [.int .i64 a] = some (.lit (.int .i64 a), []) :=
  ⟨1, by simp [DataW.trod, Tryd.underlying2, wa]⟩
theorem trS {H : Type} {enc : TypeId × Value → H} {w : World} {base : Nat} {spare : Nat → Bool} {held : Bool} (a : ByteArray) (wa : a.size ≤ maxLen) : ∃ n, DataW.trod enc Tryd.prog w base spare held n 9 [.string a] = some (.lit (.string a.data.toList), []) :=
  ⟨1, by simp [DataW.trod, Tryd.underlying9, wa]⟩

set_option maxHeartbeats 1600000 in
theorem walk (h r f : Int) (s : ByteArray) (hs : s.size ≤ maxLen) (w : World) (t : De.TabP w) :
    Calls Tryd.prog 4 #[.agg #[.int .i64 h, .string s, .int .i64 r, .int .i64 f]] w fun e w' => e = .returned (.bool true) ∧ Below w.heap.size w w' := by
  have B0 : Below w.heap.size w (w.alloc (.cells #[.int .i64 h, .string s, .int .i64 r, .int .i64 f] 32)) := (Below.refl _ _).alloc (Nat.le_refl _) _
  have S0 : w.heap.size < (w.alloc (.cells #[.int .i64 h, .string s, .int .i64 r, .int .i64 f] 32)).heap.size := by simp
  have c0 : (w.alloc (.cells #[.int .i64 h, .string s, .int .i64 r, .int .i64 f] 32)).cell? ⟨w.heap.size, 0, none⟩ = some (.int .i64 h) := by simp
  have c1 : (w.alloc (.cells #[.int .i64 h, .string s, .int .i64 r, .int .i64 f] 32)).cell? ⟨w.heap.size, 1, none⟩ = some (.string s) := by simp
  have c2 : (w.alloc (.cells #[.int .i64 h, .string s, .int .i64 r, .int .i64 f] 32)).cell? ⟨w.heap.size, 2, none⟩ = some (.int .i64 r) := by simp
  have c3 : (w.alloc (.cells #[.int .i64 h, .string s, .int .i64 r, .int .i64 f] 32)).cell? ⟨w.heap.size, 3, none⟩ = some (.int .i64 f) := by simp
  have P0 : Hid (Below w.heap.size w (w.alloc (.cells #[.int .i64 h, .string s, .int .i64 r, .int .i64 f] 32)) ∧ _ ∧ _ ∧ _ ∧ _ ∧ _) := ⟨B0, S0, c0, c1, c2, c3⟩
  clear B0 S0 c0 c1 c2 c3
  go_enter Tryd.func4, Tryd.ntmps4
  go_wp2_with fail
  generalize w.alloc (.cells #[.int .i64 h, .string s, .int .i64 r, .int .i64 f] 32) = w0 at P0 ⊢
  obtain ⟨B0, S0, c0, c1, c2, c3⟩ := P0
  generalize hb : w.heap.size = b at *
  refine (De.szDeed _ _ _ _ 1048576 _ hs (by omega) (by omega)).mono ?_
  rintro e w1 ⟨rfl, hb1⟩
  replace c0 := (hb1.cell (p := ⟨b, 0, none⟩) S0).trans c0
  replace c1 := (hb1.cell (p := ⟨b, 1, none⟩) S0).trans c1
  replace c2 := (hb1.cell (p := ⟨b, 2, none⟩) S0).trans c2
  replace c3 := (hb1.cell (p := ⟨b, 3, none⟩) S0).trans c3
  have B1 := B0.trans (hb1.mono (Nat.le_of_lt S0))
  have S1 : b < w1.heap.size := Nat.lt_of_lt_of_le S0 hb1.size
  clear hb1 B0 S0
  by_cases hbig : 1048576 < s.size
  · have hz : De.szI 1048576 s.size = -1 := if_pos (by omega)
    rw [hz]
    go_wp2
    go_ret
    exact ⟨rfl, by first | exact B1 | (rw [hb]; exact B1)⟩
  · have hz : De.szI 1048576 s.size = 1048576 - (s.size : Int) := if_neg (by omega)
    rw [hz]
    have hnn : ¬ (1048576 - (s.size : Int)) < 0 := by omega
    have hs2 : s.size ≤ 1048576 := by omega
    clear hz hbig hs
    go_wp2_with fail
    refine (De.toDeed _ _ _ _ _).mono ?_
    rintro e w2 ⟨rfl, hb2⟩
    replace c0 := (hb2.cell (p := ⟨b, 0, none⟩) S1).trans c0
    replace c1 := (hb2.cell (p := ⟨b, 1, none⟩) S1).trans c1
    replace c2 := (hb2.cell (p := ⟨b, 2, none⟩) S1).trans c2
    replace c3 := (hb2.cell (p := ⟨b, 3, none⟩) S1).trans c3
    have B2 := B1.trans (hb2.mono (Nat.le_of_lt S1))
    have S2 : b < w2.heap.size := Nat.lt_of_lt_of_le S1 hb2.size
    clear hb2 B1 S1
    go_wp2_with fail
    refine (De.specShowDeed ⟨h, s, r, f⟩ _ (by show s.size ≤ _; omega)).mono ?_
    rintro e w3 ⟨rfl, hb3⟩
    replace c0 := (hb3.cell (p := ⟨b, 0, none⟩) S2).trans c0
    replace c1 := (hb3.cell (p := ⟨b, 1, none⟩) S2).trans c1
    replace c2 := (hb3.cell (p := ⟨b, 2, none⟩) S2).trans c2
    replace c3 := (hb3.cell (p := ⟨b, 3, none⟩) S2).trans c3
    have B3 := B2.trans (hb3.mono (Nat.le_of_lt S2))
    have S3 : b < w3.heap.size := Nat.lt_of_lt_of_le S2 hb3.size
    clear hb3 B2 S2
    go_wp2_with fail
    refine (De.toDeed _ _ _ _ _).mono ?_
    rintro e w4 ⟨rfl, hb4⟩
    have B4 := B3.trans (hb4.mono (Nat.le_of_lt S3))
    have S4 : b < w4.heap.size := Nat.lt_of_lt_of_le S3 hb4.size
    clear hb4 B3 S3 c0 c1 c2 c3
    go_wp2_with fail
    refine (De.implShowDeed ⟨h, s, r, f⟩ _ (t.below (by rw [hb]; exact B4)) (by show s.size ≤ _; omega)).mono ?_
    rintro e w5 ⟨rfl, hb5⟩
    have B5 := B4.trans (hb5.mono (Nat.le_of_lt S4))
    clear hb5 B4 S4
    go_wp2
    go_ret
    exact ⟨rfl, by first | exact B5 | (rw [hb]; exact B5)⟩

theorem tabs {W : World} (h : laidMetH Tryd.prog Rows.fnExactShowDeedRow.laid W) (_ : W.ShapedOpen Tryd.prog) : De.TabP W := by
  rw [MakeChecks.laidMetH_plain _ _ _ (by kernel_rfl)] at h
  exact De.tabP_of h (.tail _ (.tail _ (.head _))) (.tail _ (.tail _ (.tail _ (.head _))))

/-- the heap that the program's own initialisers leave meets the condition -/
theorem door_met (os : Os) (args : Array Value) : laidMetH Tryd.prog Rows.fnExactShowDeedRow.laid ((World.doorLaid Tryd.prog 400 os).forCall (fun _ _ => 0) ⟨#[], args, []⟩).memory :=
  laidMetH_of_parts3 (fuel := 8) (laidMet_of_run' 8 (by kernel_rfl) (by kernel_rfl)) (by kernel_rfl) (by kernel_rfl)

theorem lifted (os : Os) (started : os.Started) (H : Type) (enc : TypeId × Value → H) :
    ReturnsInHanded {} Tryd.checked os 4 .any (fun w args => (Rows.fnExactShowDeedSpec.pre enc Tryd.prog Tryd.f4 [] false w args ∧ laidMetH Tryd.prog Rows.fnExactShowDeedRow.laid w) ∧ sizedMet enc Tryd.prog Tryd.f4 (OpenSpec.ofChange Rows.fnExactShowDeedSpec) false w args) (Rows.fnExactShowDeedSpec.post enc Tryd.prog Tryd.f4 false true false false) := by
  refine De.wrap (C := Tryd.checked) (X := fun w => laidMetH Tryd.prog Rows.fnExactShowDeedRow.laid w) (fun _ _ hh h => h.of_heap hh) own started (by kernel_rfl) Tryd.func4
    (ChangeSpec.witness_shaped (enc := enc) (C := Tryd.checked) (os := os) (X := fun w _ => laidMetH Tryd.prog Rows.fnExactShowDeedRow.laid w) false (World.doorLaid Tryd.prog 400 os) #[.agg #[.int .i64 0, .string ByteArray.empty, .int .i64 0, .int .i64 0]] 8 rfl (World.shaped_of_RefB (by kernel_rfl) (by kernel_rfl)) (by kernel_rfl) (by kernel_rfl) (by kernel_rfl) (door_met os _)) ?_
  intro W base args ds gs before hval0 hW hL hsh
  have hval : ∀ (j : Nat) t v, Tryd.f4.params[j]? = some t → args[j]? = some v → Value.okWide Tryd.prog W .any base t v := hval0
  have hW' := hW
  obtain ⟨p, q, hA0, hV0, rfl, hfz, hnd⟩ := hW
  have hA : DataW.TrodAll enc Tryd.prog W 0 (fun _ => true) true Tryd.f4.params.toList args.toList ds p := hA0
  have hV : DataW.TrodVars enc Tryd.prog W (fun _ => true) ["loop.example/g00418/impl.kindNames"] gs q := hV0
  rw [Tryd.params4] at hA hval
  obtain ⟨v0, vs0, d0, ds0, p0, q0, hargs, rfl, rfl, h0, r0⟩ := trodAll_cons hA
  obtain ⟨rfl, rfl, rfl⟩ := trodAll_nil r0
  obtain rfl : args = #[v0] := by cases args; simp_all
  have hT := tabs hL hsh
  have hK := hT.knd
  obtain ⟨rfl, rfl⟩ := hV.unique (De.kind_read enc hK _)
  obtain ⟨x0, x1, x2, x3, y0, y1, y2, y3, m, rfl, rfl, rfl, hy0, hy1, hy2, hy3⟩ := open_agg4 Tryd.underlying32 (by kernel_rfl) cellsK (hval 0 32 v0 rfl rfl) h0
  obtain ⟨a0, e0, rfl, w0⟩ := DataW.trod_int Tryd.underlying2 hy0
  obtain ⟨a1, e1, rfl, w1⟩ := DataW.trod_string Tryd.underlying9 hy1
  obtain ⟨a2, e2, rfl, w2⟩ := DataW.trod_int Tryd.underlying2 hy2
  obtain ⟨a3, e3, rfl, w3⟩ := DataW.trod_int Tryd.underlying2 hy3
  simp only [List.cons.injEq, and_true] at e0 e1 e2 e3
  subst e0 e1 e2 e3
  clear hA0 hV0 hval0
  refine (walk a0 a2 a3 a1 w1 W hT).mono fun e W' ⟨he, hg⟩ => ?_
  subst he
  exact ⟨_, rfl, _, _, _, [], _, De.kindP, hW', trodAll_mk1 (shut_bool Tryd.underlying4 _), trodAll_cons_mk (shut_agg4 (y0 := (.lit (.int .i64 a0), [])) (y1 := (.lit (.string a1.data.toList), [])) (y2 := (.lit (.int .i64 a2), [])) (y3 := (.lit (.int .i64 a3), [])) Tryd.underlying32 (by kernel_rfl) cellsK (trI a0 w0) (trS a1 w1) (trI a2 w2) (trI a3 w3)) trodAll_mk0, De.kind_read enc (De.var_keep De.gKind hg hK) _, hg.frame _, fun h => by cases h⟩


theorem over : Rows.fnExactShowDeedRow.holds Tryd.pinned (OpenSpec.ofChange Rows.fnExactShowDeedSpec) :=
  OpenClaim.holds_of_wide 4 Tryd.f4 rfl rfl rfl rfl rfl rfl rfl ⟨rfl, rfl, rfl, rfl, rfl⟩ rfl rfl rfl rfl rfl (by kernel_rfl) Tryd.func4 (by kernel_rfl)
    (of_decide_eq_true (by kernel_rfl)) (by unfold Func.isWrapper; first | (rw [if_pos (by decide +kernel)]; kernel_rfl) | (rw [if_neg (by decide +kernel)]; exact ⟨rfl, rfl⟩))
    (fun os started H enc _ => lifted os started H enc)

theorem proved : Rows.FnExactShowDeedCardSaid :=
  Claim7.holds_tied_plain_at .later [] [.data, .data, .data, .data] true (true, "58ad05f6d01f33b9b57c464d3c5c82d733b7a469d1114d16529c375b13792dfd") true
    over (fun _ h => by cases h) (by kernel_rfl) (fun _ h => by cases h) fnExactShowDeed_row_tie rfl ⟨rfl, rfl⟩ (by kernel_rfl) rfl
    (fun f fn hf hfn => by
      obtain rfl : f = 4 := Option.some.inj ((show Tryd.prog.funcNamed "loop.example/g00418/laws.FnExactShowDeed" = some 4 by kernel_rfl).symm.trans hf) |>.symm
      obtain rfl : fn = Tryd.f4 := (Option.some.inj (Tryd.func4.symm.trans hfn)).symm
      exact ⟨by kernel_rfl, fun j t ht => by
        rw [Tryd.params4] at ht
        have hm : t ∈ [32] := by simpa using Array.mem_of_getElem? ht
        have hall : ([32].all fun u => !Tryd.prog.wantsStandIn u) = true := by kernel_rfl
        exact (show Tryd.prog.wantsStandIn t = false by simpa using List.all_eq_true.1 hall t hm)⟩)
    (by kernel_rfl)
end Go.Proofs.YtghpmhfhenndiaaDoor.fnExactShowDeed
