/-
  No cell of these rows narrows 'for every input' (looked for: loops, veiled, ifaces, maps, wideKeys, modest, calm, conditions, laid).
  DERIVED. THE GIVEN ROWS OF THIS SEAT. 4 by the template 'for every input the law returns true; each argument reads behind the call as it read before'; 0 by the template 'total and deterministic' (their statements: YtaoglifenjmecahTotals.lean).
  GIVEN WITH THE SEED: the statements are not yours to turn. If you find one false, say at which input.
  Laid BY PROGRAM, IN A SANDBOX (cutbox-rows.mjs): the forced cells as the released guide's own fill.sh prints them over the translation 8560785eccd4f25f… (all of the seat's roots in one cut). By AI agents, Wed Nov 11 2026. No macro, syntax, notation, axiom, sorry.
-/
import Derived.Test.YtaoglifenjmecahChecked
import GoSem.Claim
import GoSem.ClaimJoined
import GoSem.ClaimMapViews
import Derived.JoinedTies
import Derived.KernelRfl
namespace Go.Proofs.Ytaoglifenjmecah
/- THE CELL 'sum', in the pinned program and in every row, IS THE sha256 OF THE DUMP (.gsa) THAT YtaoglifenjmecahProg.lean LOADS. Nothing in Lean hashes anything: it is a label: what it is worth is what the hold of that sum in a sandbox is worth. -/
noncomputable def Try.pinned : Pinned := { name := "ytaoglifenjmecah", sum := "8560785eccd4f25fc1244e5a2d2a1be9da638d61913f8f394cfb09418b72d5d3", checked := Try.checked }
namespace Rows
def none {H : Type} : Left H := { results := [], args := [] }

/-- 'laws.FnExactKnotOk': WHATEVER THE INPUT: true; the input reads as it did. -/
def fnExactKnotOkSpec : ChangeSpec := { name := "fnExactKnotOk", fn := fun _ => fun
  | [d] => { results := [.lit (.bool true)], args := [d] }
  | _ => none }
def fnExactKnotOkRow : OpenClaim := { program := "ytaoglifenjmecah", sum := "8560785eccd4f25fc1244e5a2d2a1be9da638d61913f8f394cfb09418b72d5d3", func := "loop.example/g00418/laws.FnExactKnotOk", spec := "fnExactKnotOk", apart := false }
def FnExactKnotOkSaid : Prop := fnExactKnotOkRow.holds Try.pinned (OpenSpec.ofChange fnExactKnotOkSpec)

/-- ITS FALSE NEIGHBOUR: 'it returns false'. Refute it at one input. -/
def fnExactKnotOkWrong : ChangeSpec := { name := "fnExactKnotOk", fn := fun _ => fun
  | [d] => { results := [.lit (.bool false)], args := [d] }
  | _ => none }
def FnExactKnotOkWrongFalsely : Prop := fnExactKnotOkRow.holds Try.pinned (OpenSpec.ofChange fnExactKnotOkWrong)

/-- 'laws.FnExactLaceOk': WHATEVER THE INPUT: true; the input reads as it did. -/
def fnExactLaceOkSpec : ChangeSpec := { name := "fnExactLaceOk", fn := fun _ => fun
  | [d] => { results := [.lit (.bool true)], args := [d] }
  | _ => none }
def fnExactLaceOkRow : OpenClaim := { program := "ytaoglifenjmecah", sum := "8560785eccd4f25fc1244e5a2d2a1be9da638d61913f8f394cfb09418b72d5d3", func := "loop.example/g00418/laws.FnExactLaceOk", spec := "fnExactLaceOk", unfollowed := true, recurses := true, apart := false }
def FnExactLaceOkSaid : Prop := fnExactLaceOkRow.holds Try.pinned (OpenSpec.ofChange fnExactLaceOkSpec)

/-- ITS FALSE NEIGHBOUR: 'it returns false'. Refute it at one input. -/
def fnExactLaceOkWrong : ChangeSpec := { name := "fnExactLaceOk", fn := fun _ => fun
  | [d] => { results := [.lit (.bool false)], args := [d] }
  | _ => none }
def FnExactLaceOkWrongFalsely : Prop := fnExactLaceOkRow.holds Try.pinned (OpenSpec.ofChange fnExactLaceOkWrong)

/-- 'laws.FnExactCanTie': WHATEVER THE INPUT: true; the input reads as it did. -/
def fnExactCanTieSpec : ChangeSpec := { name := "fnExactCanTie", fn := fun _ => fun
  | [d1, d2] => { results := [.lit (.bool true)], args := [d1, d2] }
  | _ => none }
def fnExactCanTieRow : OpenClaim := { program := "ytaoglifenjmecah", sum := "8560785eccd4f25fc1244e5a2d2a1be9da638d61913f8f394cfb09418b72d5d3", func := "loop.example/g00418/laws.FnExactCanTie", spec := "fnExactCanTie", unfollowed := true, recurses := true, apart := false }
def FnExactCanTieSaid : Prop := fnExactCanTieRow.holds Try.pinned (OpenSpec.ofChange fnExactCanTieSpec)

/-- ITS FALSE NEIGHBOUR: 'it returns false'. Refute it at one input. -/
def fnExactCanTieWrong : ChangeSpec := { name := "fnExactCanTie", fn := fun _ => fun
  | [d1, d2] => { results := [.lit (.bool false)], args := [d1, d2] }
  | _ => none }
def FnExactCanTieWrongFalsely : Prop := fnExactCanTieRow.holds Try.pinned (OpenSpec.ofChange fnExactCanTieWrong)

/-- 'laws.FnExactTied': WHATEVER THE INPUT: true; the input reads as it did. -/
def fnExactTiedSpec : ChangeSpec := { name := "fnExactTied", fn := fun _ => fun
  | [d1, d2] => { results := [.lit (.bool true)], args := [d1, d2] }
  | _ => none }
def fnExactTiedRow : OpenClaim := { program := "ytaoglifenjmecah", sum := "8560785eccd4f25fc1244e5a2d2a1be9da638d61913f8f394cfb09418b72d5d3", func := "loop.example/g00418/laws.FnExactTied", spec := "fnExactTied", unfollowed := true, recurses := true, apart := false }
def FnExactTiedSaid : Prop := fnExactTiedRow.holds Try.pinned (OpenSpec.ofChange fnExactTiedSpec)

/-- ITS FALSE NEIGHBOUR: 'it returns false'. Refute it at one input. -/
def fnExactTiedWrong : ChangeSpec := { name := "fnExactTied", fn := fun _ => fun
  | [d1, d2] => { results := [.lit (.bool false)], args := [d1, d2] }
  | _ => none }
def FnExactTiedWrongFalsely : Prop := fnExactTiedRow.holds Try.pinned (OpenSpec.ofChange fnExactTiedWrong)

/- THE SECOND FORM. 'bulk': how many values and letters a reading holds, each counted each time it is reached (what is shared counts as often as it is met; a slice's spare places count too). A statement '..UptoSaid' is the law's where the arguments, and the package variables that the reading takes, are together of bulk at most 1048576: NARROWER than '..Said'. Prove '..Said' where nothing that the law and all that it calls make is longer than what came in: it says more and counts as full. Else prove '..UptoSaid'. A law counts once. -/
mutual
def uptoBulk {H : Type} : DataW H → Nat
  | .lit (.string bytes) => bytes.length + 1
  | .lit _ => 1
  | .nil => 1
  | .ptr d => uptoBulk d + 1
  | .slice elems spare => uptoBulkAll elems + uptoBulkAll spare + 1
  | .agg parts => uptoBulkAll parts + 1
  | .iface _ d => uptoBulk d + 1
  | .map entries => uptoBulkEntries entries + 1
  | .held _ => 1
def uptoBulkAll {H : Type} : List (DataW H) → Nat
  | [] => 0
  | d :: r => uptoBulk d + uptoBulkAll r
def uptoBulkEntries {H : Type} : List (Lit × DataW H) → Nat
  | [] => 0
  | x :: r => uptoBulkEntry x + uptoBulkEntries r
def uptoBulkEntry {H : Type} : Lit × DataW H → Nat
  | (.string bytes, d) => bytes.length + uptoBulk d + 1
  | (_, d) => uptoBulk d + 1
 end
def uptoSmall : (H : Type) → List (DataW H) → Bool := fun _ ds => decide (uptoBulkAll ds ≤ 1048576)
def OpenSpec.upto (s : _root_.Go.ChangeSpec) : _root_.Go.OpenSpec := { _root_.Go.OpenSpec.ofChange s with cond := some uptoSmall }

/-- 'laws.FnExactKnotOk', WHERE WHAT IT READS IS OF BULK AT MOST 1048576: true; the input reads as it did. -/
def fnExactKnotOkUptoRow : OpenClaim := { program := "ytaoglifenjmecah", sum := "8560785eccd4f25fc1244e5a2d2a1be9da638d61913f8f394cfb09418b72d5d3", func := "loop.example/g00418/laws.FnExactKnotOk", spec := "fnExactKnotOk", apart := false, narrowed := true }
def FnExactKnotOkUptoSaid : Prop := fnExactKnotOkUptoRow.holds Try.pinned (OpenSpec.upto fnExactKnotOkSpec)

/-- 'laws.FnExactLaceOk', WHERE WHAT IT READS IS OF BULK AT MOST 1048576: true; the input reads as it did. -/
def fnExactLaceOkUptoRow : OpenClaim := { program := "ytaoglifenjmecah", sum := "8560785eccd4f25fc1244e5a2d2a1be9da638d61913f8f394cfb09418b72d5d3", func := "loop.example/g00418/laws.FnExactLaceOk", spec := "fnExactLaceOk", unfollowed := true, recurses := true, apart := false, narrowed := true }
def FnExactLaceOkUptoSaid : Prop := fnExactLaceOkUptoRow.holds Try.pinned (OpenSpec.upto fnExactLaceOkSpec)

/-- 'laws.FnExactCanTie', WHERE WHAT IT READS IS OF BULK AT MOST 1048576: true; the input reads as it did. -/
def fnExactCanTieUptoRow : OpenClaim := { program := "ytaoglifenjmecah", sum := "8560785eccd4f25fc1244e5a2d2a1be9da638d61913f8f394cfb09418b72d5d3", func := "loop.example/g00418/laws.FnExactCanTie", spec := "fnExactCanTie", unfollowed := true, recurses := true, apart := false, narrowed := true }
def FnExactCanTieUptoSaid : Prop := fnExactCanTieUptoRow.holds Try.pinned (OpenSpec.upto fnExactCanTieSpec)

/-- 'laws.FnExactTied', WHERE WHAT IT READS IS OF BULK AT MOST 1048576: true; the input reads as it did. -/
def fnExactTiedUptoRow : OpenClaim := { program := "ytaoglifenjmecah", sum := "8560785eccd4f25fc1244e5a2d2a1be9da638d61913f8f394cfb09418b72d5d3", func := "loop.example/g00418/laws.FnExactTied", spec := "fnExactTied", unfollowed := true, recurses := true, apart := false, narrowed := true }
def FnExactTiedUptoSaid : Prop := fnExactTiedUptoRow.holds Try.pinned (OpenSpec.upto fnExactTiedSpec)

end Rows
end Go.Proofs.Ytaoglifenjmecah
