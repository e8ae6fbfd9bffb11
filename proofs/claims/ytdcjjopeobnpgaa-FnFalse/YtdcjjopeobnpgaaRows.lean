/-
  No cell of these rows narrows 'for every input' (looked for: loops, veiled, ifaces, maps, wideKeys, modest, calm, conditions, laid).
  DERIVED. THE GIVEN ROWS OF THIS SEAT. 6 by the template 'for every input the law returns true; each argument reads behind the call as it read before'; 0 by the template 'total and deterministic' (their statements: YtdcjjopeobnpgaaTotals.lean).
  GIVEN WITH THE SEED: the statements are not yours to turn. If you find one false, say at which input.
  Laid BY PROGRAM, IN A SANDBOX (cutbox-rows.mjs): the forced cells as the released guide's own fill.sh prints them over the translation 624a6c185fd28437… (all of the seat's roots in one cut). By AI agents, Wed Nov 11 2026. No macro, syntax, notation, axiom, sorry.
-/
import Derived.Test.YtdcjjopeobnpgaaChecked
import GoSem.Claim
import GoSem.ClaimJoined
import GoSem.ClaimMapViews
import Derived.JoinedTies
import Derived.KernelRfl
namespace Go.Proofs.Ytdcjjopeobnpgaa
/- THE CELL 'sum', in the pinned program and in every row, IS THE sha256 OF THE DUMP (.gsa) THAT YtdcjjopeobnpgaaProg.lean LOADS. Nothing in Lean hashes anything: it is a label: what it is worth is what the hold of that sum in a sandbox is worth. -/
noncomputable def Try.pinned : Pinned := { name := "ytdcjjopeobnpgaa", sum := "624a6c185fd2843738b9d3ef0677719b17a11184c4d24ef887374b1fdeae46cf", checked := Try.checked }
namespace Rows
def none {H : Type} : Left H := { results := [], args := [] }

/-- 'laws.FnTied': WHATEVER THE INPUT: true; the input reads as it did. -/
def fnTiedSpec : ChangeSpec := { name := "fnTied", fn := fun _ => fun
  | [d] => { results := [.lit (.bool true)], args := [d] }
  | _ => none }
def fnTiedRow : OpenClaim := { program := "ytdcjjopeobnpgaa", sum := "624a6c185fd2843738b9d3ef0677719b17a11184c4d24ef887374b1fdeae46cf", func := "loop.example/g00418/laws.FnTied", spec := "fnTied", unfollowed := true, recurses := true, plainKeys := false, apart := false }
def FnTiedSaid : Prop := fnTiedRow.holds Try.pinned (OpenSpec.ofChange fnTiedSpec)

/-- ITS FALSE NEIGHBOUR: 'it returns false'. Refute it at one input. -/
def fnTiedWrong : ChangeSpec := { name := "fnTied", fn := fun _ => fun
  | [d] => { results := [.lit (.bool false)], args := [d] }
  | _ => none }
def FnTiedWrongFalsely : Prop := fnTiedRow.holds Try.pinned (OpenSpec.ofChange fnTiedWrong)

/-- 'laws.FnHandsOf': WHATEVER THE INPUT: true; the input reads as it did. -/
def fnHandsOfSpec : ChangeSpec := { name := "fnHandsOf", fn := fun _ => fun
  | [d] => { results := [.lit (.bool true)], args := [d] }
  | _ => none }
def fnHandsOfRow : OpenClaim := { program := "ytdcjjopeobnpgaa", sum := "624a6c185fd2843738b9d3ef0677719b17a11184c4d24ef887374b1fdeae46cf", func := "loop.example/g00418/laws.FnHandsOf", spec := "fnHandsOf", unfollowed := true, recurses := true, plainKeys := false, apart := false }
def FnHandsOfSaid : Prop := fnHandsOfRow.holds Try.pinned (OpenSpec.ofChange fnHandsOfSpec)

/-- ITS FALSE NEIGHBOUR: 'it returns false'. Refute it at one input. -/
def fnHandsOfWrong : ChangeSpec := { name := "fnHandsOf", fn := fun _ => fun
  | [d] => { results := [.lit (.bool false)], args := [d] }
  | _ => none }
def FnHandsOfWrongFalsely : Prop := fnHandsOfRow.holds Try.pinned (OpenSpec.ofChange fnHandsOfWrong)

/-- 'laws.FnBelow': WHATEVER THE INPUT: true; the input reads as it did. -/
def fnBelowSpec : ChangeSpec := { name := "fnBelow", fn := fun _ => fun
  | [d] => { results := [.lit (.bool true)], args := [d] }
  | _ => none }
def fnBelowRow : OpenClaim := { program := "ytdcjjopeobnpgaa", sum := "624a6c185fd2843738b9d3ef0677719b17a11184c4d24ef887374b1fdeae46cf", func := "loop.example/g00418/laws.FnBelow", spec := "fnBelow", unfollowed := true, recurses := true, plainKeys := false, apart := false }
def FnBelowSaid : Prop := fnBelowRow.holds Try.pinned (OpenSpec.ofChange fnBelowSpec)

/-- ITS FALSE NEIGHBOUR: 'it returns false'. Refute it at one input. -/
def fnBelowWrong : ChangeSpec := { name := "fnBelow", fn := fun _ => fun
  | [d] => { results := [.lit (.bool false)], args := [d] }
  | _ => none }
def FnBelowWrongFalsely : Prop := fnBelowRow.holds Try.pinned (OpenSpec.ofChange fnBelowWrong)

/-- 'laws.FnClosed': WHATEVER THE INPUT: true; the input reads as it did. -/
def fnClosedSpec : ChangeSpec := { name := "fnClosed", fn := fun _ => fun
  | [d] => { results := [.lit (.bool true)], args := [d] }
  | _ => none }
def fnClosedRow : OpenClaim := { program := "ytdcjjopeobnpgaa", sum := "624a6c185fd2843738b9d3ef0677719b17a11184c4d24ef887374b1fdeae46cf", func := "loop.example/g00418/laws.FnClosed", spec := "fnClosed", unfollowed := true, recurses := true, plainKeys := false, apart := false }
def FnClosedSaid : Prop := fnClosedRow.holds Try.pinned (OpenSpec.ofChange fnClosedSpec)

/-- ITS FALSE NEIGHBOUR: 'it returns false'. Refute it at one input. -/
def fnClosedWrong : ChangeSpec := { name := "fnClosed", fn := fun _ => fun
  | [d] => { results := [.lit (.bool false)], args := [d] }
  | _ => none }
def FnClosedWrongFalsely : Prop := fnClosedRow.holds Try.pinned (OpenSpec.ofChange fnClosedWrong)

/-- 'laws.FnDoubled': WHATEVER THE INPUT: true; the input reads as it did. -/
def fnDoubledSpec : ChangeSpec := { name := "fnDoubled", fn := fun _ => fun
  | [d] => { results := [.lit (.bool true)], args := [d] }
  | _ => none }
def fnDoubledRow : OpenClaim := { program := "ytdcjjopeobnpgaa", sum := "624a6c185fd2843738b9d3ef0677719b17a11184c4d24ef887374b1fdeae46cf", func := "loop.example/g00418/laws.FnDoubled", spec := "fnDoubled", unfollowed := true, recurses := true, plainKeys := false, apart := false }
def FnDoubledSaid : Prop := fnDoubledRow.holds Try.pinned (OpenSpec.ofChange fnDoubledSpec)

/-- ITS FALSE NEIGHBOUR: 'it returns false'. Refute it at one input. -/
def fnDoubledWrong : ChangeSpec := { name := "fnDoubled", fn := fun _ => fun
  | [d] => { results := [.lit (.bool false)], args := [d] }
  | _ => none }
def FnDoubledWrongFalsely : Prop := fnDoubledRow.holds Try.pinned (OpenSpec.ofChange fnDoubledWrong)

/-- 'laws.FnFalse': WHATEVER THE INPUT: true; the input reads as it did. -/
def fnFalseSpec : ChangeSpec := { name := "fnFalse", fn := fun _ => fun
  | [d] => { results := [.lit (.bool true)], args := [d] }
  | _ => none }
def fnFalseRow : OpenClaim := { program := "ytdcjjopeobnpgaa", sum := "624a6c185fd2843738b9d3ef0677719b17a11184c4d24ef887374b1fdeae46cf", func := "loop.example/g00418/laws.FnFalse", spec := "fnFalse", unfollowed := true, recurses := true, plainKeys := false, apart := false }
def FnFalseSaid : Prop := fnFalseRow.holds Try.pinned (OpenSpec.ofChange fnFalseSpec)

/-- ITS FALSE NEIGHBOUR: 'it returns false'. Refute it at one input. -/
def fnFalseWrong : ChangeSpec := { name := "fnFalse", fn := fun _ => fun
  | [d] => { results := [.lit (.bool false)], args := [d] }
  | _ => none }
def FnFalseWrongFalsely : Prop := fnFalseRow.holds Try.pinned (OpenSpec.ofChange fnFalseWrong)

/- THE SECOND FORM. 'bulk': how many values and letters a reading holds, each counted each time it is reached (what is shared counts as often as it is met; a slice's spare places count too). A statement '..UptoSaid' is the law's where the arguments, and the package variables that the reading takes, are together of bulk at most 1048576: NARROWER than '..Said'. Prove '..Said' where nothing that the law and all that it calls make is longer than what came in: it says more and counts as full. Else prove '..UptoSaid'. A law counts once. -/
mutual
def uptoBulk {H : Type} : DataW H → Nat
  | .lit (.string bytes) => bytes.length + 1
  | .lit _ => 1
  | .nil => 1
  | .ptr d => uptoBulk d + 1
  | .slice elems spare => uptoBulkAll elems + uptoBulkAll spare + 1
  | .agg parts => uptoBulkAll parts + 1
  | .iface _ d => uptoBulk d + 1
  | .map entries => uptoBulkEntries entries + 1
  | .held _ => 1
def uptoBulkAll {H : Type} : List (DataW H) → Nat
  | [] => 0
  | d :: r => uptoBulk d + uptoBulkAll r
def uptoBulkEntries {H : Type} : List (Lit × DataW H) → Nat
  | [] => 0
  | x :: r => uptoBulkEntry x + uptoBulkEntries r
def uptoBulkEntry {H : Type} : Lit × DataW H → Nat
  | (.string bytes, d) => bytes.length + uptoBulk d + 1
  | (_, d) => uptoBulk d + 1
 end
def uptoSmall : (H : Type) → List (DataW H) → Bool := fun _ ds => decide (uptoBulkAll ds ≤ 1048576)
def OpenSpec.upto (s : _root_.Go.ChangeSpec) : _root_.Go.OpenSpec := { _root_.Go.OpenSpec.ofChange s with cond := some uptoSmall }

/-- 'laws.FnTied', WHERE WHAT IT READS IS OF BULK AT MOST 1048576: true; the input reads as it did. -/
def fnTiedUptoRow : OpenClaim := { program := "ytdcjjopeobnpgaa", sum := "624a6c185fd2843738b9d3ef0677719b17a11184c4d24ef887374b1fdeae46cf", func := "loop.example/g00418/laws.FnTied", spec := "fnTied", unfollowed := true, recurses := true, plainKeys := false, apart := false, narrowed := true }
def FnTiedUptoSaid : Prop := fnTiedUptoRow.holds Try.pinned (OpenSpec.upto fnTiedSpec)

/-- 'laws.FnHandsOf', WHERE WHAT IT READS IS OF BULK AT MOST 1048576: true; the input reads as it did. -/
def fnHandsOfUptoRow : OpenClaim := { program := "ytdcjjopeobnpgaa", sum := "624a6c185fd2843738b9d3ef0677719b17a11184c4d24ef887374b1fdeae46cf", func := "loop.example/g00418/laws.FnHandsOf", spec := "fnHandsOf", unfollowed := true, recurses := true, plainKeys := false, apart := false, narrowed := true }
def FnHandsOfUptoSaid : Prop := fnHandsOfUptoRow.holds Try.pinned (OpenSpec.upto fnHandsOfSpec)

/-- 'laws.FnBelow', WHERE WHAT IT READS IS OF BULK AT MOST 1048576: true; the input reads as it did. -/
def fnBelowUptoRow : OpenClaim := { program := "ytdcjjopeobnpgaa", sum := "624a6c185fd2843738b9d3ef0677719b17a11184c4d24ef887374b1fdeae46cf", func := "loop.example/g00418/laws.FnBelow", spec := "fnBelow", unfollowed := true, recurses := true, plainKeys := false, apart := false, narrowed := true }
def FnBelowUptoSaid : Prop := fnBelowUptoRow.holds Try.pinned (OpenSpec.upto fnBelowSpec)

/-- 'laws.FnClosed', WHERE WHAT IT READS IS OF BULK AT MOST 1048576: true; the input reads as it did. -/
def fnClosedUptoRow : OpenClaim := { program := "ytdcjjopeobnpgaa", sum := "624a6c185fd2843738b9d3ef0677719b17a11184c4d24ef887374b1fdeae46cf", func := "loop.example/g00418/laws.FnClosed", spec := "fnClosed", unfollowed := true, recurses := true, plainKeys := false, apart := false, narrowed := true }
def FnClosedUptoSaid : Prop := fnClosedUptoRow.holds Try.pinned (OpenSpec.upto fnClosedSpec)

/-- 'laws.FnDoubled', WHERE WHAT IT READS IS OF BULK AT MOST 1048576: true; the input reads as it did. -/
def fnDoubledUptoRow : OpenClaim := { program := "ytdcjjopeobnpgaa", sum := "624a6c185fd2843738b9d3ef0677719b17a11184c4d24ef887374b1fdeae46cf", func := "loop.example/g00418/laws.FnDoubled", spec := "fnDoubled", unfollowed := true, recurses := true, plainKeys := false, apart := false, narrowed := true }
def FnDoubledUptoSaid : Prop := fnDoubledUptoRow.holds Try.pinned (OpenSpec.upto fnDoubledSpec)

/-- 'laws.FnFalse', WHERE WHAT IT READS IS OF BULK AT MOST 1048576: true; the input reads as it did. -/
def fnFalseUptoRow : OpenClaim := { program := "ytdcjjopeobnpgaa", sum := "624a6c185fd2843738b9d3ef0677719b17a11184c4d24ef887374b1fdeae46cf", func := "loop.example/g00418/laws.FnFalse", spec := "fnFalse", unfollowed := true, recurses := true, plainKeys := false, apart := false, narrowed := true }
def FnFalseUptoSaid : Prop := fnFalseUptoRow.holds Try.pinned (OpenSpec.upto fnFalseSpec)

end Rows
end Go.Proofs.Ytdcjjopeobnpgaa
