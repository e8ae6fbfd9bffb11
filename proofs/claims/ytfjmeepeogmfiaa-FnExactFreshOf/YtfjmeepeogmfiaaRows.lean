/-
  No cell of these rows narrows 'for every input' (looked for: loops, veiled, ifaces, maps, wideKeys, modest, calm, conditions, laid).
  DERIVED. THE GIVEN ROWS OF THIS SEAT. 3 by the template 'for every input the law returns true; each argument reads behind the call as it read before'; 0 by the template 'total and deterministic' (their statements: YtfjmeepeogmfiaaTotals.lean).
  GIVEN WITH THE SEED: the statements are not yours to turn. If you find one false, say at which input.
  Laid BY PROGRAM, IN A SANDBOX (cutbox-rows.mjs): the forced cells as the released guide's own fill.sh prints them over the translation d030f41f06c5be04… (all of the seat's roots in one cut). By AI agents, Wed Nov 11 2026. No macro, syntax, notation, axiom, sorry.
-/
import Derived.Test.YtfjmeepeogmfiaaChecked
import GoSem.Claim
import GoSem.ClaimJoined
import GoSem.ClaimMapViews
import Derived.JoinedTies
import Derived.KernelRfl
namespace Go.Proofs.Ytfjmeepeogmfiaa
/- THE CELL 'sum', in the pinned program and in every row, IS THE sha256 OF THE DUMP (.gsa) THAT YtfjmeepeogmfiaaProg.lean LOADS. Nothing in Lean hashes anything: it is a label: what it is worth is what the hold of that sum in a sandbox is worth. -/
noncomputable def Try.pinned : Pinned := { name := "ytfjmeepeogmfiaa", sum := "d030f41f06c5be04438a809cbdfa799f41af9c937d8f9dd64654ca80ad9c33ad", checked := Try.checked }
namespace Rows
def none {H : Type} : Left H := { results := [], args := [] }

/-- 'laws.FnExactOrdered': WHATEVER THE INPUT: true; the input reads as it did. -/
def fnExactOrderedSpec : ChangeSpec := { name := "fnExactOrdered", fn := fun _ => fun
  | [d1, d2] => { results := [.lit (.bool true)], args := [d1, d2] }
  | _ => none }
def fnExactOrderedRow : OpenClaim := { program := "ytfjmeepeogmfiaa", sum := "d030f41f06c5be04438a809cbdfa799f41af9c937d8f9dd64654ca80ad9c33ad", func := "loop.example/g00418/laws.FnExactOrdered", spec := "fnExactOrdered", unfollowed := true, recurses := true, apart := false }
def FnExactOrderedSaid : Prop := fnExactOrderedRow.holds Try.pinned (OpenSpec.ofChange fnExactOrderedSpec)

/-- ITS FALSE NEIGHBOUR: 'it returns false'. Refute it at one input. -/
def fnExactOrderedWrong : ChangeSpec := { name := "fnExactOrdered", fn := fun _ => fun
  | [d1, d2] => { results := [.lit (.bool false)], args := [d1, d2] }
  | _ => none }
def FnExactOrderedWrongFalsely : Prop := fnExactOrderedRow.holds Try.pinned (OpenSpec.ofChange fnExactOrderedWrong)

/-- 'laws.FnExactFreshOf': WHATEVER THE INPUT: true; the input reads as it did. -/
def fnExactFreshOfSpec : ChangeSpec := { name := "fnExactFreshOf", fn := fun _ => fun
  | [d1, d2, d3] => { results := [.lit (.bool true)], args := [d1, d2, d3] }
  | _ => none }
def fnExactFreshOfRow : OpenClaim := { program := "ytfjmeepeogmfiaa", sum := "d030f41f06c5be04438a809cbdfa799f41af9c937d8f9dd64654ca80ad9c33ad", func := "loop.example/g00418/laws.FnExactFreshOf", spec := "fnExactFreshOf", unfollowed := true, recurses := true, apart := false }
def FnExactFreshOfSaid : Prop := fnExactFreshOfRow.holds Try.pinned (OpenSpec.ofChange fnExactFreshOfSpec)

/-- ITS FALSE NEIGHBOUR: 'it returns false'. Refute it at one input. -/
def fnExactFreshOfWrong : ChangeSpec := { name := "fnExactFreshOf", fn := fun _ => fun
  | [d1, d2, d3] => { results := [.lit (.bool false)], args := [d1, d2, d3] }
  | _ => none }
def FnExactFreshOfWrongFalsely : Prop := fnExactFreshOfRow.holds Try.pinned (OpenSpec.ofChange fnExactFreshOfWrong)

/-- 'laws.FnExactRespects': WHATEVER THE INPUT: true; the input reads as it did. -/
def fnExactRespectsSpec : ChangeSpec := { name := "fnExactRespects", fn := fun _ => fun
  | [d1, d2] => { results := [.lit (.bool true)], args := [d1, d2] }
  | _ => none }
def fnExactRespectsRow : OpenClaim := { program := "ytfjmeepeogmfiaa", sum := "d030f41f06c5be04438a809cbdfa799f41af9c937d8f9dd64654ca80ad9c33ad", func := "loop.example/g00418/laws.FnExactRespects", spec := "fnExactRespects", unfollowed := true, recurses := true, apart := false }
def FnExactRespectsSaid : Prop := fnExactRespectsRow.holds Try.pinned (OpenSpec.ofChange fnExactRespectsSpec)

/-- ITS FALSE NEIGHBOUR: 'it returns false'. Refute it at one input. -/
def fnExactRespectsWrong : ChangeSpec := { name := "fnExactRespects", fn := fun _ => fun
  | [d1, d2] => { results := [.lit (.bool false)], args := [d1, d2] }
  | _ => none }
def FnExactRespectsWrongFalsely : Prop := fnExactRespectsRow.holds Try.pinned (OpenSpec.ofChange fnExactRespectsWrong)

/- THE SECOND FORM. 'bulk': how many values and letters a reading holds, each counted each time it is reached (what is shared counts as often as it is met; a slice's spare places count too). A statement '..UptoSaid' is the law's where the arguments, and the package variables that the reading takes, are together of bulk at most 1048576: NARROWER than '..Said'. Prove '..Said' where nothing that the law and all that it calls make is longer than what came in: it says more and counts as full. Else prove '..UptoSaid'. A law counts once. -/
mutual
def uptoBulk {H : Type} : DataW H → Nat
  | .lit (.string bytes) => bytes.length + 1
  | .lit _ => 1
  | .nil => 1
  | .ptr d => uptoBulk d + 1
  | .slice elems spare => uptoBulkAll elems + uptoBulkAll spare + 1
  | .agg parts => uptoBulkAll parts + 1
  | .iface _ d => uptoBulk d + 1
  | .map entries => uptoBulkEntries entries + 1
  | .held _ => 1
def uptoBulkAll {H : Type} : List (DataW H) → Nat
  | [] => 0
  | d :: r => uptoBulk d + uptoBulkAll r
def uptoBulkEntries {H : Type} : List (Lit × DataW H) → Nat
  | [] => 0
  | x :: r => uptoBulkEntry x + uptoBulkEntries r
def uptoBulkEntry {H : Type} : Lit × DataW H → Nat
  | (.string bytes, d) => bytes.length + uptoBulk d + 1
  | (_, d) => uptoBulk d + 1
 end
def uptoSmall : (H : Type) → List (DataW H) → Bool := fun _ ds => decide (uptoBulkAll ds ≤ 1048576)
def OpenSpec.upto (s : _root_.Go.ChangeSpec) : _root_.Go.OpenSpec := { _root_.Go.OpenSpec.ofChange s with cond := some uptoSmall }

/-- 'laws.FnExactOrdered', WHERE WHAT IT READS IS OF BULK AT MOST 1048576: true; the input reads as it did. -/
def fnExactOrderedUptoRow : OpenClaim := { program := "ytfjmeepeogmfiaa", sum := "d030f41f06c5be04438a809cbdfa799f41af9c937d8f9dd64654ca80ad9c33ad", func := "loop.example/g00418/laws.FnExactOrdered", spec := "fnExactOrdered", unfollowed := true, recurses := true, apart := false, narrowed := true }
def FnExactOrderedUptoSaid : Prop := fnExactOrderedUptoRow.holds Try.pinned (OpenSpec.upto fnExactOrderedSpec)

/-- 'laws.FnExactFreshOf', WHERE WHAT IT READS IS OF BULK AT MOST 1048576: true; the input reads as it did. -/
def fnExactFreshOfUptoRow : OpenClaim := { program := "ytfjmeepeogmfiaa", sum := "d030f41f06c5be04438a809cbdfa799f41af9c937d8f9dd64654ca80ad9c33ad", func := "loop.example/g00418/laws.FnExactFreshOf", spec := "fnExactFreshOf", unfollowed := true, recurses := true, apart := false, narrowed := true }
def FnExactFreshOfUptoSaid : Prop := fnExactFreshOfUptoRow.holds Try.pinned (OpenSpec.upto fnExactFreshOfSpec)

/-- 'laws.FnExactRespects', WHERE WHAT IT READS IS OF BULK AT MOST 1048576: true; the input reads as it did. -/
def fnExactRespectsUptoRow : OpenClaim := { program := "ytfjmeepeogmfiaa", sum := "d030f41f06c5be04438a809cbdfa799f41af9c937d8f9dd64654ca80ad9c33ad", func := "loop.example/g00418/laws.FnExactRespects", spec := "fnExactRespects", unfollowed := true, recurses := true, apart := false, narrowed := true }
def FnExactRespectsUptoSaid : Prop := fnExactRespectsUptoRow.holds Try.pinned (OpenSpec.upto fnExactRespectsSpec)

end Rows
end Go.Proofs.Ytfjmeepeogmfiaa
