/-
  NARROWER THAN 'FOR EVERY INPUT', by the rows' own cells (each row's printed sentence says how): FnExactLearns: ifaces, laid · FnExactLearnsAll: ifaces, laid · FnExactNextRound: ifaces, laid · FnExactDraft: ifaces, laid · FnExactTies: ifaces, laid.
  DERIVED. THE GIVEN ROWS OF THIS SEAT. 5 by the template 'for every input the law returns true; each argument reads behind the call as it read before'; 0 by the template 'total and deterministic' (their statements: YtapfmadnkaimeaaDoorTotals.lean).
  GIVEN WITH THE SEED: the statements are not yours to turn. If you find one false, say at which input.
  Laid BY PROGRAM, IN A SANDBOX (cutbox-rows.mjs): the forced cells as the released guide's own fill.sh prints them over the translation 712589584f26c108… (all of the seat's roots in one cut). By AI agents, Wed Nov 11 2026. No macro, syntax, notation, axiom, sorry.
-/
import Derived.Test.YtapfmadnkaimeaaDoorChecked
import GoSem.Claim
import GoSem.ClaimJoined
import GoSem.ClaimMapViews
import Derived.JoinedTies
import Derived.KernelRfl
namespace Go.Proofs.YtapfmadnkaimeaaDoor
/- THE CELL 'sum', in the pinned program and in every row, IS THE sha256 OF THE DUMP (.gsa) THAT YtapfmadnkaimeaaDoorProg.lean LOADS. Nothing in Lean hashes anything: it is a label: what it is worth is what the hold of that sum in a sandbox is worth. -/
noncomputable def Tryd.pinned : Pinned := { name := "ytapfmadnkaimeaadoor", sum := "712589584f26c108fc061b4f610470d1d7a365e7238a23c11cc39782cc31a770", checked := Tryd.checked }
namespace Rows
def none {H : Type} : Left H := { results := [], args := [] }

/- WHAT THE LISTED PACKAGE-LEVEL VARIABLES READ AS WHEN THE CALL BEGINS. Each datum BY PROGRAM (the guide's laid-datum.mjs) off the statement by which the dump's own 'gosem.cut.vars' lays the variable. In a bare row this is a premise. The card (YtapfmadnkaimeaaDoorCards.lean) ties it to the program's text. -/
def laid_loop_example_g00418_impl_errNoHand {H : Type} : DataW H := .iface "*errors.errorString" (.ptr (.agg [.lit (.string [105, 116, 32, 105, 115, 32, 110, 111, 32, 114, 105, 103, 104, 116, 32, 104, 97, 110, 100, 32, 111, 102, 32, 116, 104, 105, 115, 32, 108, 97, 99, 101])]))
def laid_loop_example_g00418_impl_errNoKnot {H : Type} : DataW H := .iface "*errors.errorString" (.ptr (.agg [.lit (.string [116, 104, 101, 114, 101, 32, 105, 115, 32, 110, 111, 32, 115, 117, 99, 104, 32, 107, 110, 111, 116])]))
def laid_loop_example_g00418_impl_errThere {H : Type} : DataW H := .iface "*errors.errorString" (.ptr (.agg [.lit (.string [105, 116, 32, 105, 115, 32, 116, 104, 101, 114, 101, 32, 97, 108, 114, 101, 97, 100, 121])]))
def laid_loop_example_g00418_impl_errOwn {H : Type} : DataW H := .iface "*errors.errorString" (.ptr (.agg [.lit (.string [105, 116, 32, 105, 115, 32, 111, 102, 32, 116, 104, 101, 32, 104, 97, 110, 100, 39, 115, 32, 111, 119, 110, 44, 32, 119, 104, 105, 99, 104, 32, 116, 105, 101, 115, 32, 105, 116, 32, 105, 116, 115, 101, 108, 102])]))
def laid_loop_example_g00418_impl_errLoose {H : Type} : DataW H := .iface "*errors.errorString" (.ptr (.agg [.lit (.string [105, 116, 32, 104, 97, 110, 103, 115, 32, 111, 110, 32, 119, 104, 97, 116, 32, 105, 115, 32, 110, 111, 116, 32, 116, 104, 101, 114, 101])]))
def laid_errors_errorType {H : Type} : DataW H := .iface "internal/reflectlite.rtype" (.agg [.ptr (.lit (.string [101, 114, 114, 111, 114]))])
def laid_loop_example_g00418_impl_errOnce {H : Type} : DataW H := .iface "*errors.errorString" (.ptr (.agg [.lit (.string [105, 116, 32, 104, 97, 115, 32, 116, 105, 101, 100, 32, 105, 110, 32, 116, 104, 105, 115, 32, 114, 111, 117, 110, 100, 32, 97, 108, 114, 101, 97, 100, 121])]))
def laid_loop_example_g00418_impl_errNoWord {H : Type} : DataW H := .iface "*errors.errorString" (.ptr (.agg [.lit (.string [116, 104, 105, 115, 32, 105, 115, 32, 110, 111, 32, 119, 111, 114, 100, 32, 102, 111, 114, 32, 97, 32, 107, 110, 111, 116])]))
def laid_loop_example_g00418_impl_errFull {H : Type} : DataW H := .iface "*errors.errorString" (.ptr (.agg [.lit (.string [116, 104, 101, 32, 108, 97, 99, 101, 32, 104, 97, 115, 32, 110, 111, 32, 114, 111, 111, 109, 32, 102, 111, 114, 32, 105, 116])]))

/-- 'laws.FnExactLearns': WHATEVER THE INPUT: true; the input reads as it did. -/
def fnExactLearnsSpec : ChangeSpec := { name := "fnExactLearns", vars := ["loop.example/g00418/impl.errNoHand", "loop.example/g00418/impl.errNoKnot", "loop.example/g00418/impl.errThere", "loop.example/g00418/impl.errLoose", "loop.example/g00418/impl.errOwn"], fn := fun _ => fun
  | [d1, d2, d3, g1, g2, g3, g4, g5] => { results := [.lit (.bool true)], args := [d1, d2, d3], vars := [g1, g2, g3, g4, g5] }
  | _ => none }
def fnExactLearnsRow : OpenClaim := { program := "ytapfmadnkaimeaadoor", sum := "712589584f26c108fc061b4f610470d1d7a365e7238a23c11cc39782cc31a770", func := "loop.example/g00418/laws.FnExactLearns", spec := "fnExactLearns", inPlace := ["internal/reflectlite.TypeOf"], unfollowed := true, recurses := true, named := ["loop.example/g00418/impl.errNoHand", "loop.example/g00418/impl.errNoKnot", "loop.example/g00418/impl.errThere", "loop.example/g00418/impl.errLoose", "loop.example/g00418/impl.errOwn"], ifaces := true, apart := false, laid := [("loop.example/g00418/impl.errNoHand", laid_loop_example_g00418_impl_errNoHand), ("loop.example/g00418/impl.errNoKnot", laid_loop_example_g00418_impl_errNoKnot), ("loop.example/g00418/impl.errThere", laid_loop_example_g00418_impl_errThere), ("loop.example/g00418/impl.errOwn", laid_loop_example_g00418_impl_errOwn), ("loop.example/g00418/impl.errLoose", laid_loop_example_g00418_impl_errLoose)] }
def FnExactLearnsSaid : Prop := fnExactLearnsRow.holds Tryd.pinned (OpenSpec.ofChange fnExactLearnsSpec)

/-- ITS FALSE NEIGHBOUR: 'it returns false'. Refute it at one input. -/
def fnExactLearnsWrong : ChangeSpec := { name := "fnExactLearns", vars := ["loop.example/g00418/impl.errNoHand", "loop.example/g00418/impl.errNoKnot", "loop.example/g00418/impl.errThere", "loop.example/g00418/impl.errLoose", "loop.example/g00418/impl.errOwn"], fn := fun _ => fun
  | [d1, d2, d3, g1, g2, g3, g4, g5] => { results := [.lit (.bool false)], args := [d1, d2, d3], vars := [g1, g2, g3, g4, g5] }
  | _ => none }
def FnExactLearnsWrongFalsely : Prop := fnExactLearnsRow.holds Tryd.pinned (OpenSpec.ofChange fnExactLearnsWrong)

/-- 'laws.FnExactLearnsAll': WHATEVER THE INPUT: true; the input reads as it did. -/
def fnExactLearnsAllSpec : ChangeSpec := { name := "fnExactLearnsAll", vars := ["loop.example/g00418/impl.errNoHand", "loop.example/g00418/impl.errLoose", "loop.example/g00418/impl.errNoKnot", "loop.example/g00418/impl.errThere", "loop.example/g00418/impl.errOwn"], fn := fun _ => fun
  | [d1, d2, d3, g1, g2, g3, g4, g5] => { results := [.lit (.bool true)], args := [d1, d2, d3], vars := [g1, g2, g3, g4, g5] }
  | _ => none }
def fnExactLearnsAllRow : OpenClaim := { program := "ytapfmadnkaimeaadoor", sum := "712589584f26c108fc061b4f610470d1d7a365e7238a23c11cc39782cc31a770", func := "loop.example/g00418/laws.FnExactLearnsAll", spec := "fnExactLearnsAll", inPlace := ["internal/reflectlite.TypeOf", "internal/reflectlite.ValueOf", "(internal/reflectlite.Value).Type", "(internal/reflectlite.Value).IsNil", "(internal/reflectlite.Value).Elem", "(internal/reflectlite.Value).Set"], unfollowed := true, recurses := true, named := ["loop.example/g00418/impl.errNoHand", "loop.example/g00418/impl.errLoose", "loop.example/g00418/impl.errNoKnot", "loop.example/g00418/impl.errThere", "loop.example/g00418/impl.errOwn", "errors.errorType"], ifaces := true, apart := false, laid := [("errors.errorType", laid_errors_errorType), ("loop.example/g00418/impl.errNoHand", laid_loop_example_g00418_impl_errNoHand), ("loop.example/g00418/impl.errNoKnot", laid_loop_example_g00418_impl_errNoKnot), ("loop.example/g00418/impl.errThere", laid_loop_example_g00418_impl_errThere), ("loop.example/g00418/impl.errOwn", laid_loop_example_g00418_impl_errOwn), ("loop.example/g00418/impl.errLoose", laid_loop_example_g00418_impl_errLoose)] }
def FnExactLearnsAllSaid : Prop := fnExactLearnsAllRow.holds Tryd.pinned (OpenSpec.ofChange fnExactLearnsAllSpec)

/-- ITS FALSE NEIGHBOUR: 'it returns false'. Refute it at one input. -/
def fnExactLearnsAllWrong : ChangeSpec := { name := "fnExactLearnsAll", vars := ["loop.example/g00418/impl.errNoHand", "loop.example/g00418/impl.errLoose", "loop.example/g00418/impl.errNoKnot", "loop.example/g00418/impl.errThere", "loop.example/g00418/impl.errOwn"], fn := fun _ => fun
  | [d1, d2, d3, g1, g2, g3, g4, g5] => { results := [.lit (.bool false)], args := [d1, d2, d3], vars := [g1, g2, g3, g4, g5] }
  | _ => none }
def FnExactLearnsAllWrongFalsely : Prop := fnExactLearnsAllRow.holds Tryd.pinned (OpenSpec.ofChange fnExactLearnsAllWrong)

/-- 'laws.FnExactNextRound': WHATEVER THE INPUT: true; the input reads as it did. -/
def fnExactNextRoundSpec : ChangeSpec := { name := "fnExactNextRound", vars := ["loop.example/g00418/impl.errNoHand", "loop.example/g00418/impl.errOnce"], fn := fun _ => fun
  | [d1, d2, g1, g2] => { results := [.lit (.bool true)], args := [d1, d2], vars := [g1, g2] }
  | _ => none }
def fnExactNextRoundRow : OpenClaim := { program := "ytapfmadnkaimeaadoor", sum := "712589584f26c108fc061b4f610470d1d7a365e7238a23c11cc39782cc31a770", func := "loop.example/g00418/laws.FnExactNextRound", spec := "fnExactNextRound", unfollowed := true, recurses := true, named := ["loop.example/g00418/impl.errNoHand", "loop.example/g00418/impl.errOnce"], ifaces := true, apart := false, laid := [("loop.example/g00418/impl.errNoHand", laid_loop_example_g00418_impl_errNoHand), ("loop.example/g00418/impl.errOnce", laid_loop_example_g00418_impl_errOnce)] }
def FnExactNextRoundSaid : Prop := fnExactNextRoundRow.holds Tryd.pinned (OpenSpec.ofChange fnExactNextRoundSpec)

/-- ITS FALSE NEIGHBOUR: 'it returns false'. Refute it at one input. -/
def fnExactNextRoundWrong : ChangeSpec := { name := "fnExactNextRound", vars := ["loop.example/g00418/impl.errNoHand", "loop.example/g00418/impl.errOnce"], fn := fun _ => fun
  | [d1, d2, g1, g2] => { results := [.lit (.bool false)], args := [d1, d2], vars := [g1, g2] }
  | _ => none }
def FnExactNextRoundWrongFalsely : Prop := fnExactNextRoundRow.holds Tryd.pinned (OpenSpec.ofChange fnExactNextRoundWrong)

/-- 'laws.FnExactDraft': WHATEVER THE INPUT: true; the input reads as it did. -/
def fnExactDraftSpec : ChangeSpec := { name := "fnExactDraft", vars := ["loop.example/g00418/impl.errNoHand", "loop.example/g00418/impl.errNoWord", "loop.example/g00418/impl.errOnce"], fn := fun _ => fun
  | [d1, d2, d3, g1, g2, g3] => { results := [.lit (.bool true)], args := [d1, d2, d3], vars := [g1, g2, g3] }
  | _ => none }
def fnExactDraftRow : OpenClaim := { program := "ytapfmadnkaimeaadoor", sum := "712589584f26c108fc061b4f610470d1d7a365e7238a23c11cc39782cc31a770", func := "loop.example/g00418/laws.FnExactDraft", spec := "fnExactDraft", unfollowed := true, recurses := true, named := ["loop.example/g00418/impl.errNoHand", "loop.example/g00418/impl.errNoWord", "loop.example/g00418/impl.errOnce"], ifaces := true, apart := false, laid := [("loop.example/g00418/impl.errNoHand", laid_loop_example_g00418_impl_errNoHand), ("loop.example/g00418/impl.errOnce", laid_loop_example_g00418_impl_errOnce), ("loop.example/g00418/impl.errNoWord", laid_loop_example_g00418_impl_errNoWord)] }
def FnExactDraftSaid : Prop := fnExactDraftRow.holds Tryd.pinned (OpenSpec.ofChange fnExactDraftSpec)

/-- ITS FALSE NEIGHBOUR: 'it returns false'. Refute it at one input. -/
def fnExactDraftWrong : ChangeSpec := { name := "fnExactDraft", vars := ["loop.example/g00418/impl.errNoHand", "loop.example/g00418/impl.errNoWord", "loop.example/g00418/impl.errOnce"], fn := fun _ => fun
  | [d1, d2, d3, g1, g2, g3] => { results := [.lit (.bool false)], args := [d1, d2, d3], vars := [g1, g2, g3] }
  | _ => none }
def FnExactDraftWrongFalsely : Prop := fnExactDraftRow.holds Tryd.pinned (OpenSpec.ofChange fnExactDraftWrong)

/-- 'laws.FnExactTies': WHATEVER THE INPUT: true; the input reads as it did. -/
def fnExactTiesSpec : ChangeSpec := { name := "fnExactTies", vars := ["loop.example/g00418/impl.errNoHand", "loop.example/g00418/impl.errFull", "loop.example/g00418/impl.errNoWord", "loop.example/g00418/impl.errOnce"], fn := fun _ => fun
  | [d1, d2, d3, g1, g2, g3, g4] => { results := [.lit (.bool true)], args := [d1, d2, d3], vars := [g1, g2, g3, g4] }
  | _ => none }
def fnExactTiesRow : OpenClaim := { program := "ytapfmadnkaimeaadoor", sum := "712589584f26c108fc061b4f610470d1d7a365e7238a23c11cc39782cc31a770", func := "loop.example/g00418/laws.FnExactTies", spec := "fnExactTies", unfollowed := true, recurses := true, named := ["loop.example/g00418/impl.errNoHand", "loop.example/g00418/impl.errFull", "loop.example/g00418/impl.errNoWord", "loop.example/g00418/impl.errOnce"], ifaces := true, apart := false, laid := [("loop.example/g00418/impl.errNoHand", laid_loop_example_g00418_impl_errNoHand), ("loop.example/g00418/impl.errOnce", laid_loop_example_g00418_impl_errOnce), ("loop.example/g00418/impl.errNoWord", laid_loop_example_g00418_impl_errNoWord), ("loop.example/g00418/impl.errFull", laid_loop_example_g00418_impl_errFull)] }
def FnExactTiesSaid : Prop := fnExactTiesRow.holds Tryd.pinned (OpenSpec.ofChange fnExactTiesSpec)

/-- ITS FALSE NEIGHBOUR: 'it returns false'. Refute it at one input. -/
def fnExactTiesWrong : ChangeSpec := { name := "fnExactTies", vars := ["loop.example/g00418/impl.errNoHand", "loop.example/g00418/impl.errFull", "loop.example/g00418/impl.errNoWord", "loop.example/g00418/impl.errOnce"], fn := fun _ => fun
  | [d1, d2, d3, g1, g2, g3, g4] => { results := [.lit (.bool false)], args := [d1, d2, d3], vars := [g1, g2, g3, g4] }
  | _ => none }
def FnExactTiesWrongFalsely : Prop := fnExactTiesRow.holds Tryd.pinned (OpenSpec.ofChange fnExactTiesWrong)

/- THE SECOND FORM. 'bulk': how many values and letters a reading holds, each counted each time it is reached (what is shared counts as often as it is met; a slice's spare places count too). A statement '..UptoSaid' is the law's where the arguments, and the package variables that the reading takes, are together of bulk at most 1048576: NARROWER than '..Said'. Prove '..Said' where nothing that the law and all that it calls make is longer than what came in: it says more and counts as full. Else prove '..UptoSaid'. A law counts once. -/
mutual
def uptoBulk {H : Type} : DataW H → Nat
  | .lit (.string bytes) => bytes.length + 1
  | .lit _ => 1
  | .nil => 1
  | .ptr d => uptoBulk d + 1
  | .slice elems spare => uptoBulkAll elems + uptoBulkAll spare + 1
  | .agg parts => uptoBulkAll parts + 1
  | .iface _ d => uptoBulk d + 1
  | .map entries => uptoBulkEntries entries + 1
  | .held _ => 1
def uptoBulkAll {H : Type} : List (DataW H) → Nat
  | [] => 0
  | d :: r => uptoBulk d + uptoBulkAll r
def uptoBulkEntries {H : Type} : List (Lit × DataW H) → Nat
  | [] => 0
  | x :: r => uptoBulkEntry x + uptoBulkEntries r
def uptoBulkEntry {H : Type} : Lit × DataW H → Nat
  | (.string bytes, d) => bytes.length + uptoBulk d + 1
  | (_, d) => uptoBulk d + 1
 end
def uptoSmall : (H : Type) → List (DataW H) → Bool := fun _ ds => decide (uptoBulkAll ds ≤ 1048576)
def OpenSpec.upto (s : _root_.Go.ChangeSpec) : _root_.Go.OpenSpec := { _root_.Go.OpenSpec.ofChange s with cond := some uptoSmall }

/-- 'laws.FnExactLearns', WHERE WHAT IT READS IS OF BULK AT MOST 1048576: true; the input reads as it did. -/
def fnExactLearnsUptoRow : OpenClaim := { program := "ytapfmadnkaimeaadoor", sum := "712589584f26c108fc061b4f610470d1d7a365e7238a23c11cc39782cc31a770", func := "loop.example/g00418/laws.FnExactLearns", spec := "fnExactLearns", inPlace := ["internal/reflectlite.TypeOf"], unfollowed := true, recurses := true, named := ["loop.example/g00418/impl.errNoHand", "loop.example/g00418/impl.errNoKnot", "loop.example/g00418/impl.errThere", "loop.example/g00418/impl.errLoose", "loop.example/g00418/impl.errOwn"], ifaces := true, apart := false, laid := [("loop.example/g00418/impl.errNoHand", laid_loop_example_g00418_impl_errNoHand), ("loop.example/g00418/impl.errNoKnot", laid_loop_example_g00418_impl_errNoKnot), ("loop.example/g00418/impl.errThere", laid_loop_example_g00418_impl_errThere), ("loop.example/g00418/impl.errOwn", laid_loop_example_g00418_impl_errOwn), ("loop.example/g00418/impl.errLoose", laid_loop_example_g00418_impl_errLoose)], narrowed := true }
def FnExactLearnsUptoSaid : Prop := fnExactLearnsUptoRow.holds Tryd.pinned (OpenSpec.upto fnExactLearnsSpec)

/-- 'laws.FnExactLearnsAll', WHERE WHAT IT READS IS OF BULK AT MOST 1048576: true; the input reads as it did. -/
def fnExactLearnsAllUptoRow : OpenClaim := { program := "ytapfmadnkaimeaadoor", sum := "712589584f26c108fc061b4f610470d1d7a365e7238a23c11cc39782cc31a770", func := "loop.example/g00418/laws.FnExactLearnsAll", spec := "fnExactLearnsAll", inPlace := ["internal/reflectlite.TypeOf", "internal/reflectlite.ValueOf", "(internal/reflectlite.Value).Type", "(internal/reflectlite.Value).IsNil", "(internal/reflectlite.Value).Elem", "(internal/reflectlite.Value).Set"], unfollowed := true, recurses := true, named := ["loop.example/g00418/impl.errNoHand", "loop.example/g00418/impl.errLoose", "loop.example/g00418/impl.errNoKnot", "loop.example/g00418/impl.errThere", "loop.example/g00418/impl.errOwn", "errors.errorType"], ifaces := true, apart := false, laid := [("errors.errorType", laid_errors_errorType), ("loop.example/g00418/impl.errNoHand", laid_loop_example_g00418_impl_errNoHand), ("loop.example/g00418/impl.errNoKnot", laid_loop_example_g00418_impl_errNoKnot), ("loop.example/g00418/impl.errThere", laid_loop_example_g00418_impl_errThere), ("loop.example/g00418/impl.errOwn", laid_loop_example_g00418_impl_errOwn), ("loop.example/g00418/impl.errLoose", laid_loop_example_g00418_impl_errLoose)], narrowed := true }
def FnExactLearnsAllUptoSaid : Prop := fnExactLearnsAllUptoRow.holds Tryd.pinned (OpenSpec.upto fnExactLearnsAllSpec)

/-- 'laws.FnExactNextRound', WHERE WHAT IT READS IS OF BULK AT MOST 1048576: true; the input reads as it did. -/
def fnExactNextRoundUptoRow : OpenClaim := { program := "ytapfmadnkaimeaadoor", sum := "712589584f26c108fc061b4f610470d1d7a365e7238a23c11cc39782cc31a770", func := "loop.example/g00418/laws.FnExactNextRound", spec := "fnExactNextRound", unfollowed := true, recurses := true, named := ["loop.example/g00418/impl.errNoHand", "loop.example/g00418/impl.errOnce"], ifaces := true, apart := false, laid := [("loop.example/g00418/impl.errNoHand", laid_loop_example_g00418_impl_errNoHand), ("loop.example/g00418/impl.errOnce", laid_loop_example_g00418_impl_errOnce)], narrowed := true }
def FnExactNextRoundUptoSaid : Prop := fnExactNextRoundUptoRow.holds Tryd.pinned (OpenSpec.upto fnExactNextRoundSpec)

/-- 'laws.FnExactDraft', WHERE WHAT IT READS IS OF BULK AT MOST 1048576: true; the input reads as it did. -/
def fnExactDraftUptoRow : OpenClaim := { program := "ytapfmadnkaimeaadoor", sum := "712589584f26c108fc061b4f610470d1d7a365e7238a23c11cc39782cc31a770", func := "loop.example/g00418/laws.FnExactDraft", spec := "fnExactDraft", unfollowed := true, recurses := true, named := ["loop.example/g00418/impl.errNoHand", "loop.example/g00418/impl.errNoWord", "loop.example/g00418/impl.errOnce"], ifaces := true, apart := false, laid := [("loop.example/g00418/impl.errNoHand", laid_loop_example_g00418_impl_errNoHand), ("loop.example/g00418/impl.errOnce", laid_loop_example_g00418_impl_errOnce), ("loop.example/g00418/impl.errNoWord", laid_loop_example_g00418_impl_errNoWord)], narrowed := true }
def FnExactDraftUptoSaid : Prop := fnExactDraftUptoRow.holds Tryd.pinned (OpenSpec.upto fnExactDraftSpec)

/-- 'laws.FnExactTies', WHERE WHAT IT READS IS OF BULK AT MOST 1048576: true; the input reads as it did. -/
def fnExactTiesUptoRow : OpenClaim := { program := "ytapfmadnkaimeaadoor", sum := "712589584f26c108fc061b4f610470d1d7a365e7238a23c11cc39782cc31a770", func := "loop.example/g00418/laws.FnExactTies", spec := "fnExactTies", unfollowed := true, recurses := true, named := ["loop.example/g00418/impl.errNoHand", "loop.example/g00418/impl.errFull", "loop.example/g00418/impl.errNoWord", "loop.example/g00418/impl.errOnce"], ifaces := true, apart := false, laid := [("loop.example/g00418/impl.errNoHand", laid_loop_example_g00418_impl_errNoHand), ("loop.example/g00418/impl.errOnce", laid_loop_example_g00418_impl_errOnce), ("loop.example/g00418/impl.errNoWord", laid_loop_example_g00418_impl_errNoWord), ("loop.example/g00418/impl.errFull", laid_loop_example_g00418_impl_errFull)], narrowed := true }
def FnExactTiesUptoSaid : Prop := fnExactTiesUptoRow.holds Tryd.pinned (OpenSpec.upto fnExactTiesSpec)

end Rows
end Go.Proofs.YtapfmadnkaimeaaDoor
