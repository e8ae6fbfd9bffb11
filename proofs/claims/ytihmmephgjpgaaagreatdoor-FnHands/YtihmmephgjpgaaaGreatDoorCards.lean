/-
  DERIVED. GIVEN WITH THE SEED: THE CARDS: each row of YtihmmephgjpgaaaGreatDoorRows.lean that lists a variable, with what it lists TIED to the program's text (the seventh form; the later family's looks); each row that meets fmt, with fmt's text TOLD by the authors' own Lean function (tested against real Go, not proved from fmt's source: count such statements apart). THE CARD IS WHAT COUNTS. Prove the row's statement (the work); the ties are given (YtihmmephgjpgaaaGreatDoorTie.lean); close each card by the builder's one call (the guide's Derived/Test/ToyasCard.lean, 'card_holds'). Laid BY PROGRAM, IN A SANDBOX (cutbox-door.mjs). By AI agents, Wed Nov 11 2026. No macro, syntax, notation, axiom, sorry.
-/
import Derived.Test.YtihmmephgjpgaaaGreatDoorRows
import GoSem.ClaimSeven
namespace Go.Proofs.YtihmmephgjpgaaaGreatDoor
namespace Rows

/-- THE TIED CARD OF 'laws.FnHands'. -/
def fnHandsCard : Claim7 := { stood := { row := fnHandsRow, standIns := [], harness := (true, "76f874409b777713cdd45c377890eeb00fd7c75b68df2b4b1662247dd57511a4"), looks := true }, kinds := [], alts := [], laidByText := true, laidKinds := [.sentinel], laidTests := true, laidLooks := .later }
def FnHandsCardSaid : Prop := Claim7.holds Tryz.pinned (.plain (OpenSpec.ofChange fnHandsSpec)) fnHandsCard

/-- THE TIED CARD OF 'laws.FnLearns'. -/
def fnLearnsCard : Claim7 := { stood := { row := fnLearnsRow, standIns := [], harness := (true, "76f874409b777713cdd45c377890eeb00fd7c75b68df2b4b1662247dd57511a4"), looks := true }, kinds := [], alts := [], laidByText := true, laidKinds := [.handle, .sentinel, .sentinel, .sentinel, .sentinel, .sentinel], laidTests := true, laidLooks := .later }
def FnLearnsCardSaid : Prop := Claim7.holds Tryz.pinned (.plain (OpenSpec.ofChange fnLearnsSpec)) fnLearnsCard

/-- THE SECOND FORM's CARD OF 'laws.FnHands'. -/
def fnHandsUptoCard : Claim7 := { stood := { row := fnHandsUptoRow, standIns := [], harness := (true, "76f874409b777713cdd45c377890eeb00fd7c75b68df2b4b1662247dd57511a4"), looks := true }, kinds := [], alts := [], laidByText := true, laidKinds := [.sentinel], laidTests := true, laidLooks := .later }
def FnHandsUptoCardSaid : Prop := Claim7.holds Tryz.pinned (.plain (OpenSpec.upto fnHandsSpec)) fnHandsUptoCard

/-- THE SECOND FORM's CARD OF 'laws.FnLearns'. -/
def fnLearnsUptoCard : Claim7 := { stood := { row := fnLearnsUptoRow, standIns := [], harness := (true, "76f874409b777713cdd45c377890eeb00fd7c75b68df2b4b1662247dd57511a4"), looks := true }, kinds := [], alts := [], laidByText := true, laidKinds := [.handle, .sentinel, .sentinel, .sentinel, .sentinel, .sentinel], laidTests := true, laidLooks := .later }
def FnLearnsUptoCardSaid : Prop := Claim7.holds Tryz.pinned (.plain (OpenSpec.upto fnLearnsSpec)) fnLearnsUptoCard
end Rows
end Go.Proofs.YtihmmephgjpgaaaGreatDoor
