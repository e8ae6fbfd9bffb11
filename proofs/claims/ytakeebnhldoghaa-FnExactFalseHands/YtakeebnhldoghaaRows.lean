/-
  No cell of these rows narrows 'for every input' (looked for: loops, veiled, ifaces, maps, wideKeys, modest, calm, conditions, laid).
  DERIVED. THE GIVEN ROWS OF THIS SEAT. 3 by the template 'for every input the law returns true; each argument reads behind the call as it read before'; 0 by the template 'total and deterministic' (their statements: YtakeebnhldoghaaTotals.lean).
  GIVEN WITH THE SEED: the statements are not yours to turn. If you find one false, say at which input.
  Laid BY PROGRAM, IN A SANDBOX (cutbox-rows.mjs): the forced cells as the released guide's own fill.sh prints them over the translation bf1354ac8528dd27… (all of the seat's roots in one cut). By AI agents, Wed Nov 11 2026. No macro, syntax, notation, axiom, sorry.
-/
import Derived.Test.YtakeebnhldoghaaChecked
import GoSem.Claim
import GoSem.ClaimJoined
import GoSem.ClaimMapViews
import Derived.JoinedTies
import Derived.KernelRfl
namespace Go.Proofs.Ytakeebnhldoghaa
/- THE CELL 'sum', in the pinned program and in every row, IS THE sha256 OF THE DUMP (.gsa) THAT YtakeebnhldoghaaProg.lean LOADS. Nothing in Lean hashes anything: it is a label: what it is worth is what the hold of that sum in a sandbox is worth. -/
noncomputable def Try.pinned : Pinned := { name := "ytakeebnhldoghaa", sum := "bf1354ac8528dd27335d303bd5ae0531ec6b0199cc1ba227f430990a723b22d3", checked := Try.checked }
namespace Rows
def none {H : Type} : Left H := { results := [], args := [] }

/-- 'laws.FnExactDoubled': WHATEVER THE INPUT: true; the input reads as it did. -/
def fnExactDoubledSpec : ChangeSpec := { name := "fnExactDoubled", fn := fun _ => fun
  | [d1, d2, d3] => { results := [.lit (.bool true)], args := [d1, d2, d3] }
  | _ => none }
def fnExactDoubledRow : OpenClaim := { program := "ytakeebnhldoghaa", sum := "bf1354ac8528dd27335d303bd5ae0531ec6b0199cc1ba227f430990a723b22d3", func := "loop.example/g00418/laws.FnExactDoubled", spec := "fnExactDoubled", unfollowed := true, recurses := true, plainKeys := false, apart := false }
def FnExactDoubledSaid : Prop := fnExactDoubledRow.holds Try.pinned (OpenSpec.ofChange fnExactDoubledSpec)

/-- ITS FALSE NEIGHBOUR: 'it returns false'. Refute it at one input. -/
def fnExactDoubledWrong : ChangeSpec := { name := "fnExactDoubled", fn := fun _ => fun
  | [d1, d2, d3] => { results := [.lit (.bool false)], args := [d1, d2, d3] }
  | _ => none }
def FnExactDoubledWrongFalsely : Prop := fnExactDoubledRow.holds Try.pinned (OpenSpec.ofChange fnExactDoubledWrong)

/-- 'laws.FnExactDoublesOf': WHATEVER THE INPUT: true; the input reads as it did. -/
def fnExactDoublesOfSpec : ChangeSpec := { name := "fnExactDoublesOf", fn := fun _ => fun
  | [d1, d2] => { results := [.lit (.bool true)], args := [d1, d2] }
  | _ => none }
def fnExactDoublesOfRow : OpenClaim := { program := "ytakeebnhldoghaa", sum := "bf1354ac8528dd27335d303bd5ae0531ec6b0199cc1ba227f430990a723b22d3", func := "loop.example/g00418/laws.FnExactDoublesOf", spec := "fnExactDoublesOf", unfollowed := true, recurses := true, plainKeys := false, apart := false }
def FnExactDoublesOfSaid : Prop := fnExactDoublesOfRow.holds Try.pinned (OpenSpec.ofChange fnExactDoublesOfSpec)

/-- ITS FALSE NEIGHBOUR: 'it returns false'. Refute it at one input. -/
def fnExactDoublesOfWrong : ChangeSpec := { name := "fnExactDoublesOf", fn := fun _ => fun
  | [d1, d2] => { results := [.lit (.bool false)], args := [d1, d2] }
  | _ => none }
def FnExactDoublesOfWrongFalsely : Prop := fnExactDoublesOfRow.holds Try.pinned (OpenSpec.ofChange fnExactDoublesOfWrong)

/-- 'laws.FnExactFalseHands': WHATEVER THE INPUT: true; the input reads as it did. -/
def fnExactFalseHandsSpec : ChangeSpec := { name := "fnExactFalseHands", fn := fun _ => fun
  | [d1, d2] => { results := [.lit (.bool true)], args := [d1, d2] }
  | _ => none }
def fnExactFalseHandsRow : OpenClaim := { program := "ytakeebnhldoghaa", sum := "bf1354ac8528dd27335d303bd5ae0531ec6b0199cc1ba227f430990a723b22d3", func := "loop.example/g00418/laws.FnExactFalseHands", spec := "fnExactFalseHands", unfollowed := true, recurses := true, plainKeys := false, apart := false }
def FnExactFalseHandsSaid : Prop := fnExactFalseHandsRow.holds Try.pinned (OpenSpec.ofChange fnExactFalseHandsSpec)

/-- ITS FALSE NEIGHBOUR: 'it returns false'. Refute it at one input. -/
def fnExactFalseHandsWrong : ChangeSpec := { name := "fnExactFalseHands", fn := fun _ => fun
  | [d1, d2] => { results := [.lit (.bool false)], args := [d1, d2] }
  | _ => none }
def FnExactFalseHandsWrongFalsely : Prop := fnExactFalseHandsRow.holds Try.pinned (OpenSpec.ofChange fnExactFalseHandsWrong)

/- THE SECOND FORM. 'bulk': how many values and letters a reading holds, each counted each time it is reached (what is shared counts as often as it is met; a slice's spare places count too). A statement '..UptoSaid' is the law's where the arguments, and the package variables that the reading takes, are together of bulk at most 1048576: NARROWER than '..Said'. Prove '..Said' where nothing that the law and all that it calls make is longer than what came in: it says more and counts as full. Else prove '..UptoSaid'. A law counts once. -/
mutual
def uptoBulk {H : Type} : DataW H → Nat
  | .lit (.string bytes) => bytes.length + 1
  | .lit _ => 1
  | .nil => 1
  | .ptr d => uptoBulk d + 1
  | .slice elems spare => uptoBulkAll elems + uptoBulkAll spare + 1
  | .agg parts => uptoBulkAll parts + 1
  | .iface _ d => uptoBulk d + 1
  | .map entries => uptoBulkEntries entries + 1
  | .held _ => 1
def uptoBulkAll {H : Type} : List (DataW H) → Nat
  | [] => 0
  | d :: r => uptoBulk d + uptoBulkAll r
def uptoBulkEntries {H : Type} : List (Lit × DataW H) → Nat
  | [] => 0
  | x :: r => uptoBulkEntry x + uptoBulkEntries r
def uptoBulkEntry {H : Type} : Lit × DataW H → Nat
  | (.string bytes, d) => bytes.length + uptoBulk d + 1
  | (_, d) => uptoBulk d + 1
 end
def uptoSmall : (H : Type) → List (DataW H) → Bool := fun _ ds => decide (uptoBulkAll ds ≤ 1048576)
def OpenSpec.upto (s : _root_.Go.ChangeSpec) : _root_.Go.OpenSpec := { _root_.Go.OpenSpec.ofChange s with cond := some uptoSmall }

/-- 'laws.FnExactDoubled', WHERE WHAT IT READS IS OF BULK AT MOST 1048576: true; the input reads as it did. -/
def fnExactDoubledUptoRow : OpenClaim := { program := "ytakeebnhldoghaa", sum := "bf1354ac8528dd27335d303bd5ae0531ec6b0199cc1ba227f430990a723b22d3", func := "loop.example/g00418/laws.FnExactDoubled", spec := "fnExactDoubled", unfollowed := true, recurses := true, plainKeys := false, apart := false, narrowed := true }
def FnExactDoubledUptoSaid : Prop := fnExactDoubledUptoRow.holds Try.pinned (OpenSpec.upto fnExactDoubledSpec)

/-- 'laws.FnExactDoublesOf', WHERE WHAT IT READS IS OF BULK AT MOST 1048576: true; the input reads as it did. -/
def fnExactDoublesOfUptoRow : OpenClaim := { program := "ytakeebnhldoghaa", sum := "bf1354ac8528dd27335d303bd5ae0531ec6b0199cc1ba227f430990a723b22d3", func := "loop.example/g00418/laws.FnExactDoublesOf", spec := "fnExactDoublesOf", unfollowed := true, recurses := true, plainKeys := false, apart := false, narrowed := true }
def FnExactDoublesOfUptoSaid : Prop := fnExactDoublesOfUptoRow.holds Try.pinned (OpenSpec.upto fnExactDoublesOfSpec)

/-- 'laws.FnExactFalseHands', WHERE WHAT IT READS IS OF BULK AT MOST 1048576: true; the input reads as it did. -/
def fnExactFalseHandsUptoRow : OpenClaim := { program := "ytakeebnhldoghaa", sum := "bf1354ac8528dd27335d303bd5ae0531ec6b0199cc1ba227f430990a723b22d3", func := "loop.example/g00418/laws.FnExactFalseHands", spec := "fnExactFalseHands", unfollowed := true, recurses := true, plainKeys := false, apart := false, narrowed := true }
def FnExactFalseHandsUptoSaid : Prop := fnExactFalseHandsUptoRow.holds Try.pinned (OpenSpec.upto fnExactFalseHandsSpec)

end Rows
end Go.Proofs.Ytakeebnhldoghaa
