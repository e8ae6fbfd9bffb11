/-
  FnExactReadKnot answers true at every argument, for ReadKnot answers as its model does; the library's tables and errors that its road reads are tied to the program's text (of a pruned copy of the project).
-/
import Derived.Test.YtiopckkcdmeagahDoorRows
import Derived.WalkKit
import Derived.ProofKit
import Derived.OpenShut
import Derived.ChangeOld
import Derived.Below
import Derived.Lib.SmallJoins
import Derived.LaidMore
import Derived.Stop.Joined
import Derived.SevenTiedAt
import Derived.Test.YtiopckkcdmeagahDoorCards
import Derived.Test.YtiopckkcdmeagahDoorTie
import Derived.Test.YtiopckkcdmeagahDoorKnotU
import Derived.Test.YtiopckkcdmeagahDoorLawK
import Derived.Test.YtiopckkcdmeagahDoorLaid
namespace Go.Proofs.YtiopckkcdmeagahDoor.fnExactReadKnot
open Go.ChangeShapes Go.WideShapes Go.ChangeAt Go.RowKit Go.Joins
open Go.ChangeMaps (open_string shut_string)
set_option linter.unusedVariables false
set_option maxRecDepth 100000

theorem own : ownKnob Tryd.prog.godebug = none := by kernel_rfl
/-- the heap that the program's own initialisers leave meets the condition -/
theorem door_met (os : Os) (args : Array Value) : laidMetH Tryd.prog Rows.fnExactReadKnotRow.laid ((World.doorLaid Tryd.prog 400 os).forCall (fun _ _ => 0) ⟨#[], args, []⟩).memory :=
  laidMetH_of_parts3 (fuel := 8) (laidMet_of_run' 8 (by kernel_rfl) (by kernel_rfl)) (by kernel_rfl) (by kernel_rfl)

set_option maxHeartbeats 1600000 in
theorem walk (s : ByteArray) (hs : s.size ≤ maxLen) (w : World) (t : Kn.Tabs w) :
    Calls Tryd.prog 4 #[.string s] w fun e w' => e = .returned (.bool true) ∧ Below w.heap.size w w' := by
  unfold maxLen at hs
  by_cases hbig : 1048576 < s.size
  · have hb' : (1048576 : Int) < (s.size : Int) := by omega
    go_enter Tryd.func4, Tryd.ntmps4
    go_wp2
    go_ret
    exact ⟨rfl, Below.refl _ _⟩
  · have hb' : ¬ (1048576 : Int) < (s.size : Int) := by omega
    have hs2 : s.size ≤ 1073741824 := by omega
    clear hbig hs
    go_enter Tryd.func4, Tryd.ntmps4
    go_wp2_with fail
    refine (Kn.specReadKnot s _ hs2).mono ?_
    rintro e w1 ⟨⟨h, r, f, wd⟩, b, rfl, hr1, hb1⟩
    have HR : Hid (Kn.ReadsK s ⟨h, r, f, wd⟩ b) := hr1
    clear hr1
    simp only
    have A1 : Below w1.heap.size w1 (w1.alloc (.cells #[.int .i64 h, .int .i64 r, .int .i64 f, .string wd] 26)) := (Below.refl _ _).alloc (Nat.le_refl _) _
    have B1 := hb1.trans (A1.mono hb1.size)
    have T1 := t.below B1
    have c0 : (w1.alloc (.cells #[.int .i64 h, .int .i64 r, .int .i64 f, .string wd] 26)).cell? ⟨w1.heap.size, 0, none⟩ = some (.int .i64 h) := by simp
    have c1 : (w1.alloc (.cells #[.int .i64 h, .int .i64 r, .int .i64 f, .string wd] 26)).cell? ⟨w1.heap.size, 1, none⟩ = some (.int .i64 r) := by simp
    have c2 : (w1.alloc (.cells #[.int .i64 h, .int .i64 r, .int .i64 f, .string wd] 26)).cell? ⟨w1.heap.size, 2, none⟩ = some (.int .i64 f) := by simp
    have c3 : (w1.alloc (.cells #[.int .i64 h, .int .i64 r, .int .i64 f, .string wd] 26)).cell? ⟨w1.heap.size, 3, none⟩ = some (.string wd) := by simp
    have P1 : Hid (Below w.heap.size w (w1.alloc (.cells #[.int .i64 h, .int .i64 r, .int .i64 f, .string wd] 26)) ∧ Kn.Tabs (w1.alloc (.cells #[.int .i64 h, .int .i64 r, .int .i64 f, .string wd] 26)) ∧ _ ∧ _ ∧ _ ∧ _) := ⟨B1, T1, c0, c1, c2, c3⟩
    clear A1 B1 T1 c0 c1 c2 c3 hb1
    go_wp2_with fail
    generalize w1.alloc (.cells #[.int .i64 h, .int .i64 r, .int .i64 f, .string wd] 26) = w2 at P1 ⊢
    obtain ⟨B1, T1, c0, c1, c2, c3⟩ := P1
    generalize w1.heap.size = b1 at c0 c1 c2 c3 ⊢
    refine (Kn.implReadKnot s _ T1 hs2).mono ?_
    rintro e w3 ⟨k', b', rfl, hr2, hb3⟩
    obtain ⟨hk, hbb⟩ := Kn.reads_unique HR.out hr2
    subst hk hbb
    replace c0 := Kn.cell_keep hb3 c0
    replace c1 := Kn.cell_keep hb3 c1
    replace c2 := Kn.cell_keep hb3 c2
    replace c3 := Kn.cell_keep hb3 c3
    have B3 := B1.trans (hb3.mono B1.size)
    clear hb3 B1 T1 HR hr2
    simp only
    have A3 : Below w3.heap.size w3 (w3.alloc (.cells #[.int .i64 h, .int .i64 r, .int .i64 f, .string wd] 26)) := (Below.refl _ _).alloc (Nat.le_refl _) _
    have HB : Hid _ := B3.trans (A3.mono B3.size)
    replace c0 := Kn.cell_keep A3 c0
    replace c1 := Kn.cell_keep A3 c1
    replace c2 := Kn.cell_keep A3 c2
    replace c3 := Kn.cell_keep A3 c3
    clear A3 B3
    go_wp2_with fail
    refine (Kn.eqSame _ _ _ _ _).mono ?_
    rintro e w4 ⟨rfl, hb4⟩
    have B4 := HB.out.trans (hb4.mono HB.out.size)
    clear hb4 HB c0 c1 c2 c3
    cases b <;> go_wp2 <;> go_ret <;> exact ⟨rfl, B4⟩

theorem tabs {W : World} (h : laidMetH Tryd.prog Rows.fnExactReadKnotRow.laid W) (hsh : W.ShapedOpen Tryd.prog) : Kn.Tabs W := by
  rw [MakeChecks.laidMetH_plain _ _ _ (by kernel_rfl)] at h
  exact Kn.tabs_of h hsh (.tail _ (.tail _ (.tail _ (.tail _ (.tail _ (.tail _ (.head _))))))) (.tail _ (.tail _ (.tail _ (.tail _ (.tail _ (.head _)))))) (.tail _ (.tail _ (.head _))) (.tail _ (.tail _ (.tail _ (.tail _ (.head _))))) (.tail _ (.tail _ (.tail _ (.head _))))

theorem lifted (os : Os) (started : os.Started) (H : Type) (enc : TypeId × Value → H) :
    ReturnsInHanded {} Tryd.checked os 4 .any (fun w args => (Rows.fnExactReadKnotSpec.pre enc Tryd.prog Tryd.f4 [] false w args ∧ laidMetH Tryd.prog Rows.fnExactReadKnotRow.laid w) ∧ sizedMet enc Tryd.prog Tryd.f4 (OpenSpec.ofChange Rows.fnExactReadKnotSpec) false w args) (Rows.fnExactReadKnotSpec.post enc Tryd.prog Tryd.f4 false true false false) := by
  refine Kn.wrap (C := Tryd.checked) (X := fun w => laidMetH Tryd.prog Rows.fnExactReadKnotRow.laid w) (fun _ _ hh h => h.of_heap hh) own started (by kernel_rfl) Tryd.func4
    (ChangeSpec.witness_shaped (enc := enc) (C := Tryd.checked) (os := os) (X := fun w _ => laidMetH Tryd.prog Rows.fnExactReadKnotRow.laid w) false (World.doorLaid Tryd.prog 400 os) #[.string ByteArray.empty] 8 rfl (World.shaped_of_RefB (by kernel_rfl) (by kernel_rfl)) (by kernel_rfl) (by kernel_rfl) (by kernel_rfl) (door_met os _)) ?_
  intro W base args ds gs before hval0 hW hL hsh
  have hval : ∀ (j : Nat) t v, Tryd.f4.params[j]? = some t → args[j]? = some v → Value.okWide Tryd.prog W .any base t v := hval0
  have hW' := hW
  obtain ⟨p, q, hA0, hV, rfl, hfz, hnd⟩ := hW
  have hA : DataW.TrodAll enc Tryd.prog W 0 (fun _ => true) true Tryd.f4.params.toList args.toList ds p := hA0
  rw [Tryd.params4] at hA hval
  obtain ⟨v0, vs0, d0, ds0, p0, q0, hargs, rfl, rfl, h0, r0⟩ := trodAll_cons hA
  obtain ⟨rfl, rfl, rfl⟩ := trodAll_nil r0
  obtain rfl : args = #[v0] := by cases args; simp_all
  obtain ⟨rfl, rfl⟩ := trodVars_none hV
  obtain ⟨a0, rfl, rfl, rfl, w0⟩ := open_string Tryd.underlying9 (hval 0 9 v0 rfl rfl) h0
  clear hA0 hval0
  simp only [List.append_nil] at hW'
  refine (walk a0 w0 W (tabs hL hsh)).mono fun e W' ⟨he, hg⟩ => ?_
  subst he
  exact ⟨_, rfl, _, _, _, [], _, [], hW', trodAll_mk1 (shut_bool Tryd.underlying4 _), trodAll_cons_mk (shut_string Tryd.underlying9 w0) trodAll_mk0, rfl, hg.frame _, fun h => by cases h⟩
theorem over : Rows.fnExactReadKnotRow.holds Tryd.pinned (OpenSpec.ofChange Rows.fnExactReadKnotSpec) :=
  OpenClaim.holds_of_wide 4 Tryd.f4 rfl rfl rfl rfl rfl rfl rfl ⟨rfl, rfl, rfl, rfl, rfl⟩ rfl rfl rfl rfl rfl (by kernel_rfl) Tryd.func4 (by kernel_rfl)
    (of_decide_eq_true (by kernel_rfl)) (by unfold Func.isWrapper; first | (rw [if_pos (by decide +kernel)]; kernel_rfl) | (rw [if_neg (by decide +kernel)]; exact ⟨rfl, rfl⟩))
    (fun os started H enc _ => lifted os started H enc)

theorem proved : Rows.FnExactReadKnotCardSaid :=
  Claim7.holds_tied_plain_at .later [] [.data, .data, .data, .sentinel, .sentinel, .listed, .data] true (true, "a65bd5c3a8faa26b916e77f85b9ec58ee05a34ba2361707d6faf7787df79caaa") true
    over (fun _ h => by cases h) (by kernel_rfl) (fun _ h => by cases h) fnExactReadKnot_row_tie rfl ⟨rfl, rfl⟩ (by kernel_rfl) rfl
    (fun f fn hf hfn => by
      obtain rfl : f = 4 := Option.some.inj ((show Tryd.prog.funcNamed "loop.example/g00418/laws.FnExactReadKnot" = some 4 by kernel_rfl).symm.trans hf) |>.symm
      obtain rfl : fn = Tryd.f4 := (Option.some.inj (Tryd.func4.symm.trans hfn)).symm
      exact ⟨by kernel_rfl, fun j t ht => by
        rw [Tryd.params4] at ht
        have hm : t ∈ [9] := by simpa using Array.mem_of_getElem? ht
        have hall : ([9].all fun u => !Tryd.prog.wantsStandIn u) = true := by kernel_rfl
        exact (show Tryd.prog.wantsStandIn t = false by simpa using List.all_eq_true.1 hall t hm)⟩)
    (by kernel_rfl)
end Go.Proofs.YtiopckkcdmeagahDoor.fnExactReadKnot
