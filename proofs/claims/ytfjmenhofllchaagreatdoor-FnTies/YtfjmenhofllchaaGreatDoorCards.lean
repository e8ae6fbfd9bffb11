/-
  DERIVED. GIVEN WITH THE SEED: THE CARDS: each row of YtfjmenhofllchaaGreatDoorRows.lean that lists a variable, with what it lists TIED to the program's text (the seventh form; the later family's looks); each row that meets fmt, with fmt's text TOLD by the authors' own Lean function (tested against real Go, not proved from fmt's source: count such statements apart). THE CARD IS WHAT COUNTS. Prove the row's statement (the work); the ties are given (YtfjmenhofllchaaGreatDoorTie.lean); close each card by the builder's one call (the guide's Derived/Test/ToyasCard.lean, 'card_holds'). Laid BY PROGRAM, IN A SANDBOX (cutbox-door.mjs). By AI agents, Wed Nov 11 2026. No macro, syntax, notation, axiom, sorry.
-/
import Derived.Test.YtfjmenhofllchaaGreatDoorRows
import GoSem.ClaimSeven
namespace Go.Proofs.YtfjmenhofllchaaGreatDoor
namespace Rows

/-- THE TIED CARD OF 'laws.FnLearns'. -/
def fnLearnsCard : Claim7 := { stood := { row := fnLearnsRow, standIns := [], harness := (true, "7cf24c4e7b817c2e8046c94fa8618beadb49cdb2469f18f92eb9246087272fce"), looks := true }, kinds := [], alts := [], laidByText := true, laidKinds := [.handle, .sentinel, .sentinel, .sentinel, .sentinel, .sentinel], laidTests := true, laidLooks := .later }
def FnLearnsCardSaid : Prop := Claim7.holds Tryz.pinned (.plain (OpenSpec.ofChange fnLearnsSpec)) fnLearnsCard

/-- THE TIED CARD OF 'laws.FnTies'. -/
def fnTiesCard : Claim7 := { stood := { row := fnTiesRow, standIns := [], harness := (true, "7cf24c4e7b817c2e8046c94fa8618beadb49cdb2469f18f92eb9246087272fce"), looks := true }, kinds := [], alts := [], laidByText := true, laidKinds := [.sentinel, .sentinel, .sentinel, .sentinel], laidTests := true, laidLooks := .later }
def FnTiesCardSaid : Prop := Claim7.holds Tryz.pinned (.plain (OpenSpec.ofChange fnTiesSpec)) fnTiesCard

/-- THE TIED CARD OF 'laws.FnOnceARound'. -/
def fnOnceARoundCard : Claim7 := { stood := { row := fnOnceARoundRow, standIns := [], harness := (true, "7cf24c4e7b817c2e8046c94fa8618beadb49cdb2469f18f92eb9246087272fce"), looks := true }, kinds := [], alts := [], laidByText := true, laidKinds := [.sentinel, .sentinel, .sentinel, .sentinel], laidTests := true, laidLooks := .later }
def FnOnceARoundCardSaid : Prop := Claim7.holds Tryz.pinned (.plain (OpenSpec.ofChange fnOnceARoundSpec)) fnOnceARoundCard

/-- THE SECOND FORM's CARD OF 'laws.FnLearns'. -/
def fnLearnsUptoCard : Claim7 := { stood := { row := fnLearnsUptoRow, standIns := [], harness := (true, "7cf24c4e7b817c2e8046c94fa8618beadb49cdb2469f18f92eb9246087272fce"), looks := true }, kinds := [], alts := [], laidByText := true, laidKinds := [.handle, .sentinel, .sentinel, .sentinel, .sentinel, .sentinel], laidTests := true, laidLooks := .later }
def FnLearnsUptoCardSaid : Prop := Claim7.holds Tryz.pinned (.plain (OpenSpec.upto fnLearnsSpec)) fnLearnsUptoCard

/-- THE SECOND FORM's CARD OF 'laws.FnTies'. -/
def fnTiesUptoCard : Claim7 := { stood := { row := fnTiesUptoRow, standIns := [], harness := (true, "7cf24c4e7b817c2e8046c94fa8618beadb49cdb2469f18f92eb9246087272fce"), looks := true }, kinds := [], alts := [], laidByText := true, laidKinds := [.sentinel, .sentinel, .sentinel, .sentinel], laidTests := true, laidLooks := .later }
def FnTiesUptoCardSaid : Prop := Claim7.holds Tryz.pinned (.plain (OpenSpec.upto fnTiesSpec)) fnTiesUptoCard

/-- THE SECOND FORM's CARD OF 'laws.FnOnceARound'. -/
def fnOnceARoundUptoCard : Claim7 := { stood := { row := fnOnceARoundUptoRow, standIns := [], harness := (true, "7cf24c4e7b817c2e8046c94fa8618beadb49cdb2469f18f92eb9246087272fce"), looks := true }, kinds := [], alts := [], laidByText := true, laidKinds := [.sentinel, .sentinel, .sentinel, .sentinel], laidTests := true, laidLooks := .later }
def FnOnceARoundUptoCardSaid : Prop := Claim7.holds Tryz.pinned (.plain (OpenSpec.upto fnOnceARoundSpec)) fnOnceARoundUptoCard
end Rows
end Go.Proofs.YtfjmenhofllchaaGreatDoor
