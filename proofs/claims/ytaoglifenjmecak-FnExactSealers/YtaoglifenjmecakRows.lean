/-
  No cell of these rows narrows 'for every input' (looked for: loops, veiled, ifaces, maps, wideKeys, modest, calm, conditions, laid).
  DERIVED. THE GIVEN ROWS OF THIS SEAT. 6 by the template 'for every input the law returns true; each argument reads behind the call as it read before'; 0 by the template 'total and deterministic' (their statements: YtaoglifenjmecakTotals.lean).
  GIVEN WITH THE SEED: the statements are not yours to turn. If you find one false, say at which input.
  Laid BY PROGRAM, IN A SANDBOX (cutbox-rows.mjs): the forced cells as the released guide's own fill.sh prints them over the translation c9ae87fbe332eaa5… (all of the seat's roots in one cut). By AI agents, Wed Nov 11 2026. No macro, syntax, notation, axiom, sorry.
-/
import Derived.Test.YtaoglifenjmecakChecked
import GoSem.Claim
import GoSem.ClaimJoined
import GoSem.ClaimMapViews
import Derived.JoinedTies
import Derived.KernelRfl
namespace Go.Proofs.Ytaoglifenjmecak
/- THE CELL 'sum', in the pinned program and in every row, IS THE sha256 OF THE DUMP (.gsa) THAT YtaoglifenjmecakProg.lean LOADS. Nothing in Lean hashes anything: it is a label: what it is worth is what the hold of that sum in a sandbox is worth. -/
noncomputable def Try.pinned : Pinned := { name := "ytaoglifenjmecak", sum := "c9ae87fbe332eaa571249b933e737fd8ee254b2032f0fa20c2ae13a6774db170", checked := Try.checked }
namespace Rows
def none {H : Type} : Left H := { results := [], args := [] }

/-- 'laws.FnExactSealers': WHATEVER THE INPUT: true; the input reads as it did. -/
def fnExactSealersSpec : ChangeSpec := { name := "fnExactSealers", fn := fun _ => fun
  | [d1, d2, d3] => { results := [.lit (.bool true)], args := [d1, d2, d3] }
  | _ => none }
def fnExactSealersRow : OpenClaim := { program := "ytaoglifenjmecak", sum := "c9ae87fbe332eaa571249b933e737fd8ee254b2032f0fa20c2ae13a6774db170", func := "loop.example/g00418/laws.FnExactSealers", spec := "fnExactSealers", unfollowed := true, recurses := true, apart := false }
def FnExactSealersSaid : Prop := fnExactSealersRow.holds Try.pinned (OpenSpec.ofChange fnExactSealersSpec)

/-- ITS FALSE NEIGHBOUR: 'it returns false'. Refute it at one input. -/
def fnExactSealersWrong : ChangeSpec := { name := "fnExactSealers", fn := fun _ => fun
  | [d1, d2, d3] => { results := [.lit (.bool false)], args := [d1, d2, d3] }
  | _ => none }
def FnExactSealersWrongFalsely : Prop := fnExactSealersRow.holds Try.pinned (OpenSpec.ofChange fnExactSealersWrong)

/-- 'laws.FnExactSealedOf': WHATEVER THE INPUT: true; the input reads as it did. -/
def fnExactSealedOfSpec : ChangeSpec := { name := "fnExactSealedOf", fn := fun _ => fun
  | [d1, d2] => { results := [.lit (.bool true)], args := [d1, d2] }
  | _ => none }
def fnExactSealedOfRow : OpenClaim := { program := "ytaoglifenjmecak", sum := "c9ae87fbe332eaa571249b933e737fd8ee254b2032f0fa20c2ae13a6774db170", func := "loop.example/g00418/laws.FnExactSealedOf", spec := "fnExactSealedOf", unfollowed := true, recurses := true, apart := false }
def FnExactSealedOfSaid : Prop := fnExactSealedOfRow.holds Try.pinned (OpenSpec.ofChange fnExactSealedOfSpec)

/-- ITS FALSE NEIGHBOUR: 'it returns false'. Refute it at one input. -/
def fnExactSealedOfWrong : ChangeSpec := { name := "fnExactSealedOf", fn := fun _ => fun
  | [d1, d2] => { results := [.lit (.bool false)], args := [d1, d2] }
  | _ => none }
def FnExactSealedOfWrongFalsely : Prop := fnExactSealedOfRow.holds Try.pinned (OpenSpec.ofChange fnExactSealedOfWrong)

/-- 'laws.FnExactCoinsOk': WHATEVER THE INPUT: true; the input reads as it did. -/
def fnExactCoinsOkSpec : ChangeSpec := { name := "fnExactCoinsOk", fn := fun _ => fun
  | [d] => { results := [.lit (.bool true)], args := [d] }
  | _ => none }
def fnExactCoinsOkRow : OpenClaim := { program := "ytaoglifenjmecak", sum := "c9ae87fbe332eaa571249b933e737fd8ee254b2032f0fa20c2ae13a6774db170", func := "loop.example/g00418/laws.FnExactCoinsOk", spec := "fnExactCoinsOk", apart := false }
def FnExactCoinsOkSaid : Prop := fnExactCoinsOkRow.holds Try.pinned (OpenSpec.ofChange fnExactCoinsOkSpec)

/-- ITS FALSE NEIGHBOUR: 'it returns false'. Refute it at one input. -/
def fnExactCoinsOkWrong : ChangeSpec := { name := "fnExactCoinsOk", fn := fun _ => fun
  | [d] => { results := [.lit (.bool false)], args := [d] }
  | _ => none }
def FnExactCoinsOkWrongFalsely : Prop := fnExactCoinsOkRow.holds Try.pinned (OpenSpec.ofChange fnExactCoinsOkWrong)

/-- 'laws.FnExactWaveOf': WHATEVER THE INPUT: true; the input reads as it did. -/
def fnExactWaveOfSpec : ChangeSpec := { name := "fnExactWaveOf", fn := fun _ => fun
  | [d] => { results := [.lit (.bool true)], args := [d] }
  | _ => none }
def fnExactWaveOfRow : OpenClaim := { program := "ytaoglifenjmecak", sum := "c9ae87fbe332eaa571249b933e737fd8ee254b2032f0fa20c2ae13a6774db170", func := "loop.example/g00418/laws.FnExactWaveOf", spec := "fnExactWaveOf", apart := false }
def FnExactWaveOfSaid : Prop := fnExactWaveOfRow.holds Try.pinned (OpenSpec.ofChange fnExactWaveOfSpec)

/-- ITS FALSE NEIGHBOUR: 'it returns false'. Refute it at one input. -/
def fnExactWaveOfWrong : ChangeSpec := { name := "fnExactWaveOf", fn := fun _ => fun
  | [d] => { results := [.lit (.bool false)], args := [d] }
  | _ => none }
def FnExactWaveOfWrongFalsely : Prop := fnExactWaveOfRow.holds Try.pinned (OpenSpec.ofChange fnExactWaveOfWrong)

/-- 'laws.FnExactLeaderOf': WHATEVER THE INPUT: true; the input reads as it did. -/
def fnExactLeaderOfSpec : ChangeSpec := { name := "fnExactLeaderOf", fn := fun _ => fun
  | [d1, d2] => { results := [.lit (.bool true)], args := [d1, d2] }
  | _ => none }
def fnExactLeaderOfRow : OpenClaim := { program := "ytaoglifenjmecak", sum := "c9ae87fbe332eaa571249b933e737fd8ee254b2032f0fa20c2ae13a6774db170", func := "loop.example/g00418/laws.FnExactLeaderOf", spec := "fnExactLeaderOf", apart := false }
def FnExactLeaderOfSaid : Prop := fnExactLeaderOfRow.holds Try.pinned (OpenSpec.ofChange fnExactLeaderOfSpec)

/-- ITS FALSE NEIGHBOUR: 'it returns false'. Refute it at one input. -/
def fnExactLeaderOfWrong : ChangeSpec := { name := "fnExactLeaderOf", fn := fun _ => fun
  | [d1, d2] => { results := [.lit (.bool false)], args := [d1, d2] }
  | _ => none }
def FnExactLeaderOfWrongFalsely : Prop := fnExactLeaderOfRow.holds Try.pinned (OpenSpec.ofChange fnExactLeaderOfWrong)

/-- 'laws.FnExactLeads': WHATEVER THE INPUT: true; the input reads as it did. -/
def fnExactLeadsSpec : ChangeSpec := { name := "fnExactLeads", fn := fun _ => fun
  | [d1, d2, d3] => { results := [.lit (.bool true)], args := [d1, d2, d3] }
  | _ => none }
def fnExactLeadsRow : OpenClaim := { program := "ytaoglifenjmecak", sum := "c9ae87fbe332eaa571249b933e737fd8ee254b2032f0fa20c2ae13a6774db170", func := "loop.example/g00418/laws.FnExactLeads", spec := "fnExactLeads", unfollowed := true, recurses := true, apart := false }
def FnExactLeadsSaid : Prop := fnExactLeadsRow.holds Try.pinned (OpenSpec.ofChange fnExactLeadsSpec)

/-- ITS FALSE NEIGHBOUR: 'it returns false'. Refute it at one input. -/
def fnExactLeadsWrong : ChangeSpec := { name := "fnExactLeads", fn := fun _ => fun
  | [d1, d2, d3] => { results := [.lit (.bool false)], args := [d1, d2, d3] }
  | _ => none }
def FnExactLeadsWrongFalsely : Prop := fnExactLeadsRow.holds Try.pinned (OpenSpec.ofChange fnExactLeadsWrong)

/- THE SECOND FORM. 'bulk': how many values and letters a reading holds, each counted each time it is reached (what is shared counts as often as it is met; a slice's spare places count too). A statement '..UptoSaid' is the law's where the arguments, and the package variables that the reading takes, are together of bulk at most 1048576: NARROWER than '..Said'. Prove '..Said' where nothing that the law and all that it calls make is longer than what came in: it says more and counts as full. Else prove '..UptoSaid'. A law counts once. -/
mutual
def uptoBulk {H : Type} : DataW H → Nat
  | .lit (.string bytes) => bytes.length + 1
  | .lit _ => 1
  | .nil => 1
  | .ptr d => uptoBulk d + 1
  | .slice elems spare => uptoBulkAll elems + uptoBulkAll spare + 1
  | .agg parts => uptoBulkAll parts + 1
  | .iface _ d => uptoBulk d + 1
  | .map entries => uptoBulkEntries entries + 1
  | .held _ => 1
def uptoBulkAll {H : Type} : List (DataW H) → Nat
  | [] => 0
  | d :: r => uptoBulk d + uptoBulkAll r
def uptoBulkEntries {H : Type} : List (Lit × DataW H) → Nat
  | [] => 0
  | x :: r => uptoBulkEntry x + uptoBulkEntries r
def uptoBulkEntry {H : Type} : Lit × DataW H → Nat
  | (.string bytes, d) => bytes.length + uptoBulk d + 1
  | (_, d) => uptoBulk d + 1
 end
def uptoSmall : (H : Type) → List (DataW H) → Bool := fun _ ds => decide (uptoBulkAll ds ≤ 1048576)
def OpenSpec.upto (s : _root_.Go.ChangeSpec) : _root_.Go.OpenSpec := { _root_.Go.OpenSpec.ofChange s with cond := some uptoSmall }

/-- 'laws.FnExactSealers', WHERE WHAT IT READS IS OF BULK AT MOST 1048576: true; the input reads as it did. -/
def fnExactSealersUptoRow : OpenClaim := { program := "ytaoglifenjmecak", sum := "c9ae87fbe332eaa571249b933e737fd8ee254b2032f0fa20c2ae13a6774db170", func := "loop.example/g00418/laws.FnExactSealers", spec := "fnExactSealers", unfollowed := true, recurses := true, apart := false, narrowed := true }
def FnExactSealersUptoSaid : Prop := fnExactSealersUptoRow.holds Try.pinned (OpenSpec.upto fnExactSealersSpec)

/-- 'laws.FnExactSealedOf', WHERE WHAT IT READS IS OF BULK AT MOST 1048576: true; the input reads as it did. -/
def fnExactSealedOfUptoRow : OpenClaim := { program := "ytaoglifenjmecak", sum := "c9ae87fbe332eaa571249b933e737fd8ee254b2032f0fa20c2ae13a6774db170", func := "loop.example/g00418/laws.FnExactSealedOf", spec := "fnExactSealedOf", unfollowed := true, recurses := true, apart := false, narrowed := true }
def FnExactSealedOfUptoSaid : Prop := fnExactSealedOfUptoRow.holds Try.pinned (OpenSpec.upto fnExactSealedOfSpec)

/-- 'laws.FnExactCoinsOk', WHERE WHAT IT READS IS OF BULK AT MOST 1048576: true; the input reads as it did. -/
def fnExactCoinsOkUptoRow : OpenClaim := { program := "ytaoglifenjmecak", sum := "c9ae87fbe332eaa571249b933e737fd8ee254b2032f0fa20c2ae13a6774db170", func := "loop.example/g00418/laws.FnExactCoinsOk", spec := "fnExactCoinsOk", apart := false, narrowed := true }
def FnExactCoinsOkUptoSaid : Prop := fnExactCoinsOkUptoRow.holds Try.pinned (OpenSpec.upto fnExactCoinsOkSpec)

/-- 'laws.FnExactWaveOf', WHERE WHAT IT READS IS OF BULK AT MOST 1048576: true; the input reads as it did. -/
def fnExactWaveOfUptoRow : OpenClaim := { program := "ytaoglifenjmecak", sum := "c9ae87fbe332eaa571249b933e737fd8ee254b2032f0fa20c2ae13a6774db170", func := "loop.example/g00418/laws.FnExactWaveOf", spec := "fnExactWaveOf", apart := false, narrowed := true }
def FnExactWaveOfUptoSaid : Prop := fnExactWaveOfUptoRow.holds Try.pinned (OpenSpec.upto fnExactWaveOfSpec)

/-- 'laws.FnExactLeaderOf', WHERE WHAT IT READS IS OF BULK AT MOST 1048576: true; the input reads as it did. -/
def fnExactLeaderOfUptoRow : OpenClaim := { program := "ytaoglifenjmecak", sum := "c9ae87fbe332eaa571249b933e737fd8ee254b2032f0fa20c2ae13a6774db170", func := "loop.example/g00418/laws.FnExactLeaderOf", spec := "fnExactLeaderOf", apart := false, narrowed := true }
def FnExactLeaderOfUptoSaid : Prop := fnExactLeaderOfUptoRow.holds Try.pinned (OpenSpec.upto fnExactLeaderOfSpec)

/-- 'laws.FnExactLeads', WHERE WHAT IT READS IS OF BULK AT MOST 1048576: true; the input reads as it did. -/
def fnExactLeadsUptoRow : OpenClaim := { program := "ytaoglifenjmecak", sum := "c9ae87fbe332eaa571249b933e737fd8ee254b2032f0fa20c2ae13a6774db170", func := "loop.example/g00418/laws.FnExactLeads", spec := "fnExactLeads", unfollowed := true, recurses := true, apart := false, narrowed := true }
def FnExactLeadsUptoSaid : Prop := fnExactLeadsUptoRow.holds Try.pinned (OpenSpec.upto fnExactLeadsSpec)

end Rows
end Go.Proofs.Ytaoglifenjmecak
