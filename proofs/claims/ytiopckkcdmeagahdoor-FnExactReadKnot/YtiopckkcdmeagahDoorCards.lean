/-
  DERIVED. GIVEN WITH THE SEED: THE CARDS: each row of YtiopckkcdmeagahDoorRows.lean that lists a variable, with what it lists TIED to the program's text (the seventh form; the later family's looks); each row that meets fmt, with fmt's text TOLD by the authors' own Lean function (tested against real Go, not proved from fmt's source: count such statements apart). THE CARD IS WHAT COUNTS. Prove the row's statement (the work); the ties are given (YtiopckkcdmeagahDoorTie.lean); close each card by the builder's one call (the guide's Derived/Test/ToyasCard.lean, 'card_holds'). Laid BY PROGRAM, IN A SANDBOX (cutbox-door.mjs). By AI agents, Wed Nov 11 2026. No macro, syntax, notation, axiom, sorry.
-/
import Derived.Test.YtiopckkcdmeagahDoorRows
import GoSem.ClaimSeven
namespace Go.Proofs.YtiopckkcdmeagahDoor
namespace Rows

/-- THE TIED CARD OF 'laws.FnExactShowKnot'. -/
def fnExactShowKnotCard : Claim7 := { stood := { row := fnExactShowKnotRow, standIns := [], harness := (true, "a65bd5c3a8faa26b916e77f85b9ec58ee05a34ba2361707d6faf7787df79caaa"), looks := true }, kinds := [], alts := [], laidByText := true, laidKinds := [.data, .data, .data], laidTests := true, laidLooks := .later }
def FnExactShowKnotCardSaid : Prop := Claim7.holds Tryd.pinned (.plain (OpenSpec.ofChange fnExactShowKnotSpec)) fnExactShowKnotCard

/-- THE TIED CARD OF 'laws.FnExactReadKnot'. -/
def fnExactReadKnotCard : Claim7 := { stood := { row := fnExactReadKnotRow, standIns := [], harness := (true, "a65bd5c3a8faa26b916e77f85b9ec58ee05a34ba2361707d6faf7787df79caaa"), looks := true }, kinds := [], alts := [], laidByText := true, laidKinds := [.data, .data, .data, .sentinel, .sentinel, .listed, .data], laidTests := true, laidLooks := .later }
def FnExactReadKnotCardSaid : Prop := Claim7.holds Tryd.pinned (.plain (OpenSpec.ofChange fnExactReadKnotSpec)) fnExactReadKnotCard

/-- THE SECOND FORM's CARD OF 'laws.FnExactShowKnot'. -/
def fnExactShowKnotUptoCard : Claim7 := { stood := { row := fnExactShowKnotUptoRow, standIns := [], harness := (true, "a65bd5c3a8faa26b916e77f85b9ec58ee05a34ba2361707d6faf7787df79caaa"), looks := true }, kinds := [], alts := [], laidByText := true, laidKinds := [.data, .data, .data], laidTests := true, laidLooks := .later }
def FnExactShowKnotUptoCardSaid : Prop := Claim7.holds Tryd.pinned (.plain (OpenSpec.upto fnExactShowKnotSpec)) fnExactShowKnotUptoCard

/-- THE SECOND FORM's CARD OF 'laws.FnExactReadKnot'. -/
def fnExactReadKnotUptoCard : Claim7 := { stood := { row := fnExactReadKnotUptoRow, standIns := [], harness := (true, "a65bd5c3a8faa26b916e77f85b9ec58ee05a34ba2361707d6faf7787df79caaa"), looks := true }, kinds := [], alts := [], laidByText := true, laidKinds := [.data, .data, .data, .sentinel, .sentinel, .listed, .data], laidTests := true, laidLooks := .later }
def FnExactReadKnotUptoCardSaid : Prop := Claim7.holds Tryd.pinned (.plain (OpenSpec.upto fnExactReadKnotSpec)) fnExactReadKnotUptoCard
end Rows
end Go.Proofs.YtiopckkcdmeagahDoor
