/-
  NARROWER THAN 'FOR EVERY INPUT', by the rows' own cells (each row's printed sentence says how): FnLearns: ifaces, laid · FnTies: ifaces, laid · FnOnceARound: ifaces, laid.
  DERIVED. THE GIVEN ROWS OF THIS SEAT. 3 by the template 'for every input the law returns true; each argument reads behind the call as it read before'; 0 by the template 'total and deterministic' (their statements: YtfjmenhofllchaaGreatDoorTotals.lean).
  GIVEN WITH THE SEED: the statements are not yours to turn. If you find one false, say at which input.
  Laid BY PROGRAM, IN A SANDBOX (cutbox-rows.mjs): the forced cells as the released guide's own fill.sh prints them over the translation 91c19ba60d137d8b… (all of the seat's roots in one cut). By AI agents, Wed Nov 11 2026. No macro, syntax, notation, axiom, sorry.
-/
import Derived.Test.YtfjmenhofllchaaGreatDoorChecked
import GoSem.Claim
import GoSem.ClaimJoined
import GoSem.ClaimMapViews
import Derived.JoinedTies
import Derived.KernelRfl
namespace Go.Proofs.YtfjmenhofllchaaGreatDoor
/- THE CELL 'sum', in the pinned program and in every row, IS THE sha256 OF THE DUMP (.gsa) THAT YtfjmenhofllchaaGreatDoorProg.lean LOADS. Nothing in Lean hashes anything: it is a label: what it is worth is what the hold of that sum in a sandbox is worth. -/
noncomputable def Tryz.pinned : Pinned := { name := "ytfjmenhofllchaagreatdoor", sum := "91c19ba60d137d8b96e8359d704d6812534568dacf12c5afff4edebdf342d295", checked := Tryz.checked }
namespace Rows
def none {H : Type} : Left H := { results := [], args := [] }

/- WHAT THE LISTED PACKAGE-LEVEL VARIABLES READ AS WHEN THE CALL BEGINS. Each datum BY PROGRAM (the guide's laid-datum.mjs) off the statement by which the dump's own 'gosem.cut.vars' lays the variable. In a bare row this is a premise. The card (YtfjmenhofllchaaGreatDoorCards.lean) ties it to the program's text. -/
def laid_errors_errorType {H : Type} : DataW H := .iface "internal/reflectlite.rtype" (.agg [.ptr (.lit (.string [101, 114, 114, 111, 114]))])
def laid_loop_example_g00418_impl_errNoHand {H : Type} : DataW H := .iface "*errors.errorString" (.ptr (.agg [.lit (.string [105, 116, 32, 105, 115, 32, 110, 111, 32, 114, 105, 103, 104, 116, 32, 104, 97, 110, 100, 32, 111, 102, 32, 116, 104, 105, 115, 32, 108, 97, 99, 101])]))
def laid_loop_example_g00418_impl_errNoKnot {H : Type} : DataW H := .iface "*errors.errorString" (.ptr (.agg [.lit (.string [116, 104, 101, 114, 101, 32, 105, 115, 32, 110, 111, 32, 115, 117, 99, 104, 32, 107, 110, 111, 116])]))
def laid_loop_example_g00418_impl_errThere {H : Type} : DataW H := .iface "*errors.errorString" (.ptr (.agg [.lit (.string [105, 116, 32, 105, 115, 32, 116, 104, 101, 114, 101, 32, 97, 108, 114, 101, 97, 100, 121])]))
def laid_loop_example_g00418_impl_errOwn {H : Type} : DataW H := .iface "*errors.errorString" (.ptr (.agg [.lit (.string [105, 116, 32, 105, 115, 32, 111, 102, 32, 116, 104, 101, 32, 104, 97, 110, 100, 39, 115, 32, 111, 119, 110, 44, 32, 119, 104, 105, 99, 104, 32, 116, 105, 101, 115, 32, 105, 116, 32, 105, 116, 115, 101, 108, 102])]))
def laid_loop_example_g00418_impl_errLoose {H : Type} : DataW H := .iface "*errors.errorString" (.ptr (.agg [.lit (.string [105, 116, 32, 104, 97, 110, 103, 115, 32, 111, 110, 32, 119, 104, 97, 116, 32, 105, 115, 32, 110, 111, 116, 32, 116, 104, 101, 114, 101])]))
def laid_loop_example_g00418_impl_errOnce {H : Type} : DataW H := .iface "*errors.errorString" (.ptr (.agg [.lit (.string [105, 116, 32, 104, 97, 115, 32, 116, 105, 101, 100, 32, 105, 110, 32, 116, 104, 105, 115, 32, 114, 111, 117, 110, 100, 32, 97, 108, 114, 101, 97, 100, 121])]))
def laid_loop_example_g00418_impl_errNoWord {H : Type} : DataW H := .iface "*errors.errorString" (.ptr (.agg [.lit (.string [116, 104, 105, 115, 32, 105, 115, 32, 110, 111, 32, 119, 111, 114, 100, 32, 102, 111, 114, 32, 97, 32, 107, 110, 111, 116])]))
def laid_loop_example_g00418_impl_errFull {H : Type} : DataW H := .iface "*errors.errorString" (.ptr (.agg [.lit (.string [116, 104, 101, 32, 108, 97, 99, 101, 32, 104, 97, 115, 32, 110, 111, 32, 114, 111, 111, 109, 32, 102, 111, 114, 32, 105, 116])]))

/-- 'laws.FnLearns': WHATEVER THE INPUT: true; the input reads as it did. -/
def fnLearnsSpec : ChangeSpec := { name := "fnLearns", vars := ["loop.example/g00418/impl.errNoHand", "loop.example/g00418/impl.errNoKnot", "loop.example/g00418/impl.errThere", "loop.example/g00418/impl.errLoose", "loop.example/g00418/impl.errOwn"], fn := fun _ => fun
  | [d, g1, g2, g3, g4, g5] => { results := [.lit (.bool true)], args := [d], vars := [g1, g2, g3, g4, g5] }
  | _ => none }
def fnLearnsRow : OpenClaim := { program := "ytfjmenhofllchaagreatdoor", sum := "91c19ba60d137d8b96e8359d704d6812534568dacf12c5afff4edebdf342d295", func := "loop.example/g00418/laws.FnLearns", spec := "fnLearns", inPlace := ["internal/reflectlite.TypeOf", "internal/reflectlite.ValueOf", "(internal/reflectlite.Value).Type", "(internal/reflectlite.Value).IsNil", "(internal/reflectlite.Value).Elem", "(internal/reflectlite.Value).Set"], unfollowed := true, recurses := true, named := ["loop.example/g00418/impl.errNoHand", "loop.example/g00418/impl.errNoKnot", "loop.example/g00418/impl.errThere", "loop.example/g00418/impl.errLoose", "loop.example/g00418/impl.errOwn", "errors.errorType"], ifaces := true, apart := false, laid := [("errors.errorType", laid_errors_errorType), ("loop.example/g00418/impl.errNoHand", laid_loop_example_g00418_impl_errNoHand), ("loop.example/g00418/impl.errNoKnot", laid_loop_example_g00418_impl_errNoKnot), ("loop.example/g00418/impl.errThere", laid_loop_example_g00418_impl_errThere), ("loop.example/g00418/impl.errOwn", laid_loop_example_g00418_impl_errOwn), ("loop.example/g00418/impl.errLoose", laid_loop_example_g00418_impl_errLoose)] }
def FnLearnsSaid : Prop := fnLearnsRow.holds Tryz.pinned (OpenSpec.ofChange fnLearnsSpec)

/-- ITS FALSE NEIGHBOUR: 'it returns false'. Refute it at one input. -/
def fnLearnsWrong : ChangeSpec := { name := "fnLearns", vars := ["loop.example/g00418/impl.errNoHand", "loop.example/g00418/impl.errNoKnot", "loop.example/g00418/impl.errThere", "loop.example/g00418/impl.errLoose", "loop.example/g00418/impl.errOwn"], fn := fun _ => fun
  | [d, g1, g2, g3, g4, g5] => { results := [.lit (.bool false)], args := [d], vars := [g1, g2, g3, g4, g5] }
  | _ => none }
def FnLearnsWrongFalsely : Prop := fnLearnsRow.holds Tryz.pinned (OpenSpec.ofChange fnLearnsWrong)

/-- 'laws.FnTies': WHATEVER THE INPUT: true; the input reads as it did. -/
def fnTiesSpec : ChangeSpec := { name := "fnTies", vars := ["loop.example/g00418/impl.errNoHand", "loop.example/g00418/impl.errFull", "loop.example/g00418/impl.errNoWord", "loop.example/g00418/impl.errOnce"], fn := fun _ => fun
  | [d, g1, g2, g3, g4] => { results := [.lit (.bool true)], args := [d], vars := [g1, g2, g3, g4] }
  | _ => none }
def fnTiesRow : OpenClaim := { program := "ytfjmenhofllchaagreatdoor", sum := "91c19ba60d137d8b96e8359d704d6812534568dacf12c5afff4edebdf342d295", func := "loop.example/g00418/laws.FnTies", spec := "fnTies", unfollowed := true, recurses := true, named := ["loop.example/g00418/impl.errNoHand", "loop.example/g00418/impl.errFull", "loop.example/g00418/impl.errNoWord", "loop.example/g00418/impl.errOnce"], ifaces := true, apart := false, laid := [("loop.example/g00418/impl.errNoHand", laid_loop_example_g00418_impl_errNoHand), ("loop.example/g00418/impl.errOnce", laid_loop_example_g00418_impl_errOnce), ("loop.example/g00418/impl.errNoWord", laid_loop_example_g00418_impl_errNoWord), ("loop.example/g00418/impl.errFull", laid_loop_example_g00418_impl_errFull)] }
def FnTiesSaid : Prop := fnTiesRow.holds Tryz.pinned (OpenSpec.ofChange fnTiesSpec)

/-- ITS FALSE NEIGHBOUR: 'it returns false'. Refute it at one input. -/
def fnTiesWrong : ChangeSpec := { name := "fnTies", vars := ["loop.example/g00418/impl.errNoHand", "loop.example/g00418/impl.errFull", "loop.example/g00418/impl.errNoWord", "loop.example/g00418/impl.errOnce"], fn := fun _ => fun
  | [d, g1, g2, g3, g4] => { results := [.lit (.bool false)], args := [d], vars := [g1, g2, g3, g4] }
  | _ => none }
def FnTiesWrongFalsely : Prop := fnTiesRow.holds Tryz.pinned (OpenSpec.ofChange fnTiesWrong)

/-- 'laws.FnOnceARound': WHATEVER THE INPUT: true; the input reads as it did. -/
def fnOnceARoundSpec : ChangeSpec := { name := "fnOnceARound", vars := ["loop.example/g00418/impl.errNoHand", "loop.example/g00418/impl.errFull", "loop.example/g00418/impl.errNoWord", "loop.example/g00418/impl.errOnce"], fn := fun _ => fun
  | [d, g1, g2, g3, g4] => { results := [.lit (.bool true)], args := [d], vars := [g1, g2, g3, g4] }
  | _ => none }
def fnOnceARoundRow : OpenClaim := { program := "ytfjmenhofllchaagreatdoor", sum := "91c19ba60d137d8b96e8359d704d6812534568dacf12c5afff4edebdf342d295", func := "loop.example/g00418/laws.FnOnceARound", spec := "fnOnceARound", unfollowed := true, recurses := true, named := ["loop.example/g00418/impl.errNoHand", "loop.example/g00418/impl.errFull", "loop.example/g00418/impl.errNoWord", "loop.example/g00418/impl.errOnce"], ifaces := true, apart := false, laid := [("loop.example/g00418/impl.errNoHand", laid_loop_example_g00418_impl_errNoHand), ("loop.example/g00418/impl.errOnce", laid_loop_example_g00418_impl_errOnce), ("loop.example/g00418/impl.errNoWord", laid_loop_example_g00418_impl_errNoWord), ("loop.example/g00418/impl.errFull", laid_loop_example_g00418_impl_errFull)] }
def FnOnceARoundSaid : Prop := fnOnceARoundRow.holds Tryz.pinned (OpenSpec.ofChange fnOnceARoundSpec)

/-- ITS FALSE NEIGHBOUR: 'it returns false'. Refute it at one input. -/
def fnOnceARoundWrong : ChangeSpec := { name := "fnOnceARound", vars := ["loop.example/g00418/impl.errNoHand", "loop.example/g00418/impl.errFull", "loop.example/g00418/impl.errNoWord", "loop.example/g00418/impl.errOnce"], fn := fun _ => fun
  | [d, g1, g2, g3, g4] => { results := [.lit (.bool false)], args := [d], vars := [g1, g2, g3, g4] }
  | _ => none }
def FnOnceARoundWrongFalsely : Prop := fnOnceARoundRow.holds Tryz.pinned (OpenSpec.ofChange fnOnceARoundWrong)

/- THE SECOND FORM. 'bulk': how many values and letters a reading holds, each counted each time it is reached (what is shared counts as often as it is met; a slice's spare places count too). A statement '..UptoSaid' is the law's where the arguments, and the package variables that the reading takes, are together of bulk at most 1048576: NARROWER than '..Said'. Prove '..Said' where nothing that the law and all that it calls make is longer than what came in: it says more and counts as full. Else prove '..UptoSaid'. A law counts once. -/
mutual
def uptoBulk {H : Type} : DataW H → Nat
  | .lit (.string bytes) => bytes.length + 1
  | .lit _ => 1
  | .nil => 1
  | .ptr d => uptoBulk d + 1
  | .slice elems spare => uptoBulkAll elems + uptoBulkAll spare + 1
  | .agg parts => uptoBulkAll parts + 1
  | .iface _ d => uptoBulk d + 1
  | .map entries => uptoBulkEntries entries + 1
  | .held _ => 1
def uptoBulkAll {H : Type} : List (DataW H) → Nat
  | [] => 0
  | d :: r => uptoBulk d + uptoBulkAll r
def uptoBulkEntries {H : Type} : List (Lit × DataW H) → Nat
  | [] => 0
  | x :: r => uptoBulkEntry x + uptoBulkEntries r
def uptoBulkEntry {H : Type} : Lit × DataW H → Nat
  | (.string bytes, d) => bytes.length + uptoBulk d + 1
  | (_, d) => uptoBulk d + 1
 end
def uptoSmall : (H : Type) → List (DataW H) → Bool := fun _ ds => decide (uptoBulkAll ds ≤ 1048576)
def OpenSpec.upto (s : _root_.Go.ChangeSpec) : _root_.Go.OpenSpec := { _root_.Go.OpenSpec.ofChange s with cond := some uptoSmall }

/-- 'laws.FnLearns', WHERE WHAT IT READS IS OF BULK AT MOST 1048576: true; the input reads as it did. -/
def fnLearnsUptoRow : OpenClaim := { program := "ytfjmenhofllchaagreatdoor", sum := "91c19ba60d137d8b96e8359d704d6812534568dacf12c5afff4edebdf342d295", func := "loop.example/g00418/laws.FnLearns", spec := "fnLearns", inPlace := ["internal/reflectlite.TypeOf", "internal/reflectlite.ValueOf", "(internal/reflectlite.Value).Type", "(internal/reflectlite.Value).IsNil", "(internal/reflectlite.Value).Elem", "(internal/reflectlite.Value).Set"], unfollowed := true, recurses := true, named := ["loop.example/g00418/impl.errNoHand", "loop.example/g00418/impl.errNoKnot", "loop.example/g00418/impl.errThere", "loop.example/g00418/impl.errLoose", "loop.example/g00418/impl.errOwn", "errors.errorType"], ifaces := true, apart := false, laid := [("errors.errorType", laid_errors_errorType), ("loop.example/g00418/impl.errNoHand", laid_loop_example_g00418_impl_errNoHand), ("loop.example/g00418/impl.errNoKnot", laid_loop_example_g00418_impl_errNoKnot), ("loop.example/g00418/impl.errThere", laid_loop_example_g00418_impl_errThere), ("loop.example/g00418/impl.errOwn", laid_loop_example_g00418_impl_errOwn), ("loop.example/g00418/impl.errLoose", laid_loop_example_g00418_impl_errLoose)], narrowed := true }
def FnLearnsUptoSaid : Prop := fnLearnsUptoRow.holds Tryz.pinned (OpenSpec.upto fnLearnsSpec)

/-- 'laws.FnTies', WHERE WHAT IT READS IS OF BULK AT MOST 1048576: true; the input reads as it did. -/
def fnTiesUptoRow : OpenClaim := { program := "ytfjmenhofllchaagreatdoor", sum := "91c19ba60d137d8b96e8359d704d6812534568dacf12c5afff4edebdf342d295", func := "loop.example/g00418/laws.FnTies", spec := "fnTies", unfollowed := true, recurses := true, named := ["loop.example/g00418/impl.errNoHand", "loop.example/g00418/impl.errFull", "loop.example/g00418/impl.errNoWord", "loop.example/g00418/impl.errOnce"], ifaces := true, apart := false, laid := [("loop.example/g00418/impl.errNoHand", laid_loop_example_g00418_impl_errNoHand), ("loop.example/g00418/impl.errOnce", laid_loop_example_g00418_impl_errOnce), ("loop.example/g00418/impl.errNoWord", laid_loop_example_g00418_impl_errNoWord), ("loop.example/g00418/impl.errFull", laid_loop_example_g00418_impl_errFull)], narrowed := true }
def FnTiesUptoSaid : Prop := fnTiesUptoRow.holds Tryz.pinned (OpenSpec.upto fnTiesSpec)

/-- 'laws.FnOnceARound', WHERE WHAT IT READS IS OF BULK AT MOST 1048576: true; the input reads as it did. -/
def fnOnceARoundUptoRow : OpenClaim := { program := "ytfjmenhofllchaagreatdoor", sum := "91c19ba60d137d8b96e8359d704d6812534568dacf12c5afff4edebdf342d295", func := "loop.example/g00418/laws.FnOnceARound", spec := "fnOnceARound", unfollowed := true, recurses := true, named := ["loop.example/g00418/impl.errNoHand", "loop.example/g00418/impl.errFull", "loop.example/g00418/impl.errNoWord", "loop.example/g00418/impl.errOnce"], ifaces := true, apart := false, laid := [("loop.example/g00418/impl.errNoHand", laid_loop_example_g00418_impl_errNoHand), ("loop.example/g00418/impl.errOnce", laid_loop_example_g00418_impl_errOnce), ("loop.example/g00418/impl.errNoWord", laid_loop_example_g00418_impl_errNoWord), ("loop.example/g00418/impl.errFull", laid_loop_example_g00418_impl_errFull)], narrowed := true }
def FnOnceARoundUptoSaid : Prop := fnOnceARoundUptoRow.holds Tryz.pinned (OpenSpec.upto fnOnceARoundSpec)

end Rows
end Go.Proofs.YtfjmenhofllchaaGreatDoor
