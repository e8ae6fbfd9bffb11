/-
  DERIVED. GIVEN WITH THE SEED: THE CARDS: each row of YtiopckkcdmeagaaGreatDoorRows.lean that lists a variable, with what it lists TIED to the program's text (the seventh form; the later family's looks); each row that meets fmt, with fmt's text TOLD by the authors' own Lean function (tested against real Go, not proved from fmt's source: count such statements apart). THE CARD IS WHAT COUNTS. Prove the row's statement (the work); the ties are given (YtiopckkcdmeagaaGreatDoorTie.lean); close each card by the builder's one call (the guide's Derived/Test/ToyasCard.lean, 'card_holds'). Laid BY PROGRAM, IN A SANDBOX (cutbox-door.mjs). By AI agents, Wed Nov 11 2026. No macro, syntax, notation, axiom, sorry.
-/
import Derived.Test.YtiopckkcdmeagaaGreatDoorRows
import GoSem.ClaimSeven
namespace Go.Proofs.YtiopckkcdmeagaaGreatDoor
namespace Rows

/-- THE TIED CARD OF 'laws.FnKnots'. -/
def fnKnotsCard : Claim7 := { stood := { row := fnKnotsRow, standIns := [], harness := (true, "932054b60cbc5f36d737d487e8a12623a3f0ba18ab12b5a632c030db35338339"), looks := true }, kinds := [], alts := [], laidByText := true, laidKinds := [.data, .data, .data, .sentinel, .sentinel, .listed, .data], laidTests := true, laidLooks := .later }
def FnKnotsCardSaid : Prop := Claim7.holds Tryz.pinned (.plain (OpenSpec.ofChange fnKnotsSpec)) fnKnotsCard

/-- THE SECOND FORM's CARD OF 'laws.FnKnots'. -/
def fnKnotsUptoCard : Claim7 := { stood := { row := fnKnotsUptoRow, standIns := [], harness := (true, "932054b60cbc5f36d737d487e8a12623a3f0ba18ab12b5a632c030db35338339"), looks := true }, kinds := [], alts := [], laidByText := true, laidKinds := [.data, .data, .data, .sentinel, .sentinel, .listed, .data], laidTests := true, laidLooks := .later }
def FnKnotsUptoCardSaid : Prop := Claim7.holds Tryz.pinned (.plain (OpenSpec.upto fnKnotsSpec)) fnKnotsUptoCard
end Rows
end Go.Proofs.YtiopckkcdmeagaaGreatDoor
