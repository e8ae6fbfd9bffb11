/-
  FnExactReadDeed answers true at every argument, for ReadDeed answers as its model does; the library's tables and errors and the kinds' names that its road reads are tied to the program's text (of a pruned copy of the project).
-/
import Derived.Test.YtghpmhfhenndiaaDoorRows
import Derived.WalkKit
import Derived.ProofKit
import Derived.OpenShut
import Derived.ChangeOld
import Derived.Below
import Derived.Lib.SmallJoins
import Derived.LaidMore
import Derived.Stop.Joined
import Derived.SevenTiedAt
import Derived.Lay
import Derived.Test.YtghpmhfhenndiaaDoorCards
import Derived.Test.YtghpmhfhenndiaaDoorTie
import Derived.Test.YtghpmhfhenndiaaDoorWdC
import Derived.Test.YtghpmhfhenndiaaDoorWdD
import Derived.Test.YtghpmhfhenndiaaDoorLawD
namespace Go.Proofs.YtghpmhfhenndiaaDoor.fnExactReadDeed
open Go.ChangeShapes Go.WideShapes Go.ChangeAt Go.RowKit Go.Joins
open Go.ChangeMaps (open_string shut_string)
set_option linter.unusedVariables false
set_option maxRecDepth 100000

theorem own : ownKnob Tryd.prog.godebug = none := by kernel_rfl

set_option maxHeartbeats 1600000 in
theorem walk (s : ByteArray) (hs : s.size ≤ maxLen) (w : World) (t : De.TabQ w) :
    Calls Tryd.prog 5 #[.string s] w fun e w' => e = .returned (.bool true) ∧ Below w.heap.size w w' := by
  unfold maxLen at hs
  by_cases hbig : 1048576 < s.size
  · have hb' : (1048576 : Int) < (s.size : Int) := by omega
    go_enter Tryd.func5, Tryd.ntmps5
    go_wp2
    go_ret
    exact ⟨rfl, Below.refl _ _⟩
  · have hb' : ¬ (1048576 : Int) < (s.size : Int) := by omega
    have hs2 : s.size ≤ 1073741824 := by omega
    clear hbig hs
    go_enter Tryd.func5, Tryd.ntmps5
    go_wp2_with fail
    refine (De.specReadDeed s _ hs2).mono ?_
    rintro e w1 ⟨⟨h, wd, r, f⟩, b, rfl, hr1, hb1⟩
    have HR : Hid (De.ReadsD s ⟨h, wd, r, f⟩ b) := hr1
    clear hr1
    simp only
    have A1 : Below w1.heap.size w1 (w1.alloc (.cells #[.int .i64 h, .string wd, .int .i64 r, .int .i64 f] 25)) := (Below.refl _ _).alloc (Nat.le_refl _) _
    have B1 := hb1.trans (A1.mono hb1.size)
    have T1 := t.below B1
    have c0 : (w1.alloc (.cells #[.int .i64 h, .string wd, .int .i64 r, .int .i64 f] 25)).cell? ⟨w1.heap.size, 0, none⟩ = some (.int .i64 h) := by simp
    have c1 : (w1.alloc (.cells #[.int .i64 h, .string wd, .int .i64 r, .int .i64 f] 25)).cell? ⟨w1.heap.size, 1, none⟩ = some (.string wd) := by simp
    have c2 : (w1.alloc (.cells #[.int .i64 h, .string wd, .int .i64 r, .int .i64 f] 25)).cell? ⟨w1.heap.size, 2, none⟩ = some (.int .i64 r) := by simp
    have c3 : (w1.alloc (.cells #[.int .i64 h, .string wd, .int .i64 r, .int .i64 f] 25)).cell? ⟨w1.heap.size, 3, none⟩ = some (.int .i64 f) := by simp
    have P1 : Hid (Below w.heap.size w (w1.alloc (.cells #[.int .i64 h, .string wd, .int .i64 r, .int .i64 f] 25)) ∧ De.TabQ (w1.alloc (.cells #[.int .i64 h, .string wd, .int .i64 r, .int .i64 f] 25)) ∧ _ ∧ _ ∧ _ ∧ _) := ⟨B1, T1, c0, c1, c2, c3⟩
    clear A1 B1 T1 c0 c1 c2 c3 hb1
    go_wp2_with fail
    generalize w1.alloc (.cells #[.int .i64 h, .string wd, .int .i64 r, .int .i64 f] 25) = w2 at P1 ⊢
    obtain ⟨B1, T1, c0, c1, c2, c3⟩ := P1
    generalize w1.heap.size = b1 at c0 c1 c2 c3 ⊢
    refine (De.implReadDeed s _ T1 hs2).mono ?_
    rintro e w3 ⟨k', b', rfl, hr2, hb3⟩
    obtain ⟨hk, hbb⟩ := De.reads_unique HR.out hr2
    subst hk hbb
    replace c0 := De.cell_keep hb3 c0
    replace c1 := De.cell_keep hb3 c1
    replace c2 := De.cell_keep hb3 c2
    replace c3 := De.cell_keep hb3 c3
    have B3 := B1.trans (hb3.mono B1.size)
    clear hb3 B1 T1 HR hr2
    simp only
    have A3 : Below w3.heap.size w3 (w3.alloc (.cells #[.int .i64 h, .string wd, .int .i64 r, .int .i64 f] 25)) := (Below.refl _ _).alloc (Nat.le_refl _) _
    have HB : Hid _ := B3.trans (A3.mono B3.size)
    replace c0 := De.cell_keep A3 c0
    replace c1 := De.cell_keep A3 c1
    replace c2 := De.cell_keep A3 c2
    replace c3 := De.cell_keep A3 c3
    clear A3 B3
    go_wp2_with fail
    refine (De.eqDeed _ _ _ _ _).mono ?_
    rintro e w4 ⟨rfl, hb4⟩
    have B4 := HB.out.trans (hb4.mono HB.out.size)
    clear hb4 HB c0 c1 c2 c3
    cases b <;> go_wp2 <;> go_ret <;> exact ⟨rfl, B4⟩

theorem tabs {W : World} (h : laidMetH Tryd.prog Rows.fnExactReadDeedRow.laid W) (hsh : W.ShapedOpen Tryd.prog) : De.TabQ W := by
  rw [MakeChecks.laidMetH_plain _ _ _ (by kernel_rfl)] at h
  exact De.tabQ_of h hsh (.tail _ (.tail _ (.head _))) (.tail _ (.tail _ (.tail _ (.tail _ (.tail _ (.tail _ (.head _))))))) (.tail _ (.tail _ (.tail _ (.tail _ (.tail _ (.head _)))))) (.tail _ (.tail _ (.tail _ (.tail _ (.head _)))))

theorem lifted (os : Os) (started : os.Started) (H : Type) (enc : TypeId × Value → H) :
    ReturnsInHanded {} Tryd.checked os 5 .any (fun w args => (Rows.fnExactReadDeedSpec.pre enc Tryd.prog Tryd.f5 [] false w args ∧ laidMetH Tryd.prog Rows.fnExactReadDeedRow.laid w) ∧ sizedMet enc Tryd.prog Tryd.f5 (OpenSpec.ofChange Rows.fnExactReadDeedSpec) false w args) (Rows.fnExactReadDeedSpec.post enc Tryd.prog Tryd.f5 false true false false) := by
  refine De.wrap (C := Tryd.checked) (X := fun w => laidMetH Tryd.prog Rows.fnExactReadDeedRow.laid w) (fun _ _ hh h => h.of_heap hh) own started (by kernel_rfl) Tryd.func5
    (ChangeSpec.witness_shaped (enc := enc) (C := Tryd.checked) (os := os) (X := fun w _ => laidMetH Tryd.prog Rows.fnExactReadDeedRow.laid w) false (World.laidAll Tryd.prog os Rows.fnExactReadDeedRow.laid) #[.string ByteArray.empty] 8 (World.laidAll_os _ _ _)
      (World.shaped_of_ZipB (by kernel_rfl) (by kernel_rfl)) (by kernel_rfl) (by kernel_rfl) (by kernel_rfl)
      (by rw [MakeChecks.laidMetH_plain _ _ _ (by kernel_rfl)]; exact laidMet_laidAll _ (by kernel_rfl) (by kernel_rfl))) ?_
  intro W base args ds gs before hval0 hW hL hsh
  have hval : ∀ (j : Nat) t v, Tryd.f5.params[j]? = some t → args[j]? = some v → Value.okWide Tryd.prog W .any base t v := hval0
  have hW' := hW
  obtain ⟨p, q, hA0, hV0, rfl, hfz, hnd⟩ := hW
  have hA : DataW.TrodAll enc Tryd.prog W 0 (fun _ => true) true Tryd.f5.params.toList args.toList ds p := hA0
  have hV : DataW.TrodVars enc Tryd.prog W (fun _ => true) ["loop.example/g00418/impl.kindNames"] gs q := hV0
  rw [Tryd.params5] at hA hval
  obtain ⟨v0, vs0, d0, ds0, p0, q0, hargs, rfl, rfl, h0, r0⟩ := trodAll_cons hA
  obtain ⟨rfl, rfl, rfl⟩ := trodAll_nil r0
  obtain rfl : args = #[v0] := by cases args; simp_all
  have hT := tabs hL hsh
  have hK := hT.p.knd
  obtain ⟨rfl, rfl⟩ := hV.unique (De.kind_read enc hK _)
  obtain ⟨a0, rfl, rfl, rfl, w0⟩ := open_string Tryd.underlying9 (hval 0 9 v0 rfl rfl) h0
  clear hA0 hV0 hval0
  refine (walk a0 w0 W hT).mono fun e W' ⟨he, hg⟩ => ?_
  subst he
  exact ⟨_, rfl, _, _, _, [], _, De.kindP, hW', trodAll_mk1 (shut_bool Tryd.underlying4 _), trodAll_cons_mk (shut_string Tryd.underlying9 w0) trodAll_mk0, De.kind_read enc (De.var_keep De.gKind hg hK) _, hg.frame _, fun h => by cases h⟩

theorem over : Rows.fnExactReadDeedRow.holds Tryd.pinned (OpenSpec.ofChange Rows.fnExactReadDeedSpec) :=
  OpenClaim.holds_of_wide 5 Tryd.f5 rfl rfl rfl rfl rfl rfl rfl ⟨rfl, rfl, rfl, rfl, rfl⟩ rfl rfl rfl rfl rfl (by kernel_rfl) Tryd.func5 (by kernel_rfl)
    (of_decide_eq_true (by kernel_rfl)) (by unfold Func.isWrapper; first | (rw [if_pos (by decide +kernel)]; kernel_rfl) | (rw [if_neg (by decide +kernel)]; exact ⟨rfl, rfl⟩))
    (fun os started H enc _ => lifted os started H enc)

theorem proved : Rows.FnExactReadDeedCardSaid :=
  Claim7.holds_tied_plain_at .later [] [.data, .data, .data, .data, .sentinel, .sentinel, .data, .pinned] true (true, "58ad05f6d01f33b9b57c464d3c5c82d733b7a469d1114d16529c375b13792dfd") true
    over (fun _ h => by cases h) (by kernel_rfl) (fun _ h => by cases h) fnExactReadDeed_row_tie rfl ⟨rfl, rfl⟩ (by kernel_rfl) rfl
    (fun f fn hf hfn => by
      obtain rfl : f = 5 := Option.some.inj ((show Tryd.prog.funcNamed "loop.example/g00418/laws.FnExactReadDeed" = some 5 by kernel_rfl).symm.trans hf) |>.symm
      obtain rfl : fn = Tryd.f5 := (Option.some.inj (Tryd.func5.symm.trans hfn)).symm
      exact ⟨by kernel_rfl, fun j t ht => by
        rw [Tryd.params5] at ht
        have hm : t ∈ [9] := by simpa using Array.mem_of_getElem? ht
        have hall : ([9].all fun u => !Tryd.prog.wantsStandIn u) = true := by kernel_rfl
        exact (show Tryd.prog.wantsStandIn t = false by simpa using List.all_eq_true.1 hall t hm)⟩)
    (by kernel_rfl)
end Go.Proofs.YtghpmhfhenndiaaDoor.fnExactReadDeed
