/-
  DERIVED. GIVEN WITH THE SEED: THE CARDS: each row of YtapfmadnkaimeaaDoorRows.lean that lists a variable, with what it lists TIED to the program's text (the seventh form; the later family's looks); each row that meets fmt, with fmt's text TOLD by the authors' own Lean function (tested against real Go, not proved from fmt's source: count such statements apart). THE CARD IS WHAT COUNTS. Prove the row's statement (the work); the ties are given (YtapfmadnkaimeaaDoorTie.lean); close each card by the builder's one call (the guide's Derived/Test/ToyasCard.lean, 'card_holds'). Laid BY PROGRAM, IN A SANDBOX (cutbox-door.mjs). By AI agents, Wed Nov 11 2026. No macro, syntax, notation, axiom, sorry.
-/
import Derived.Test.YtapfmadnkaimeaaDoorRows
import GoSem.ClaimSeven
namespace Go.Proofs.YtapfmadnkaimeaaDoor
namespace Rows

/-- THE TIED CARD OF 'laws.FnExactLearns'. -/
def fnExactLearnsCard : Claim7 := { stood := { row := fnExactLearnsRow, standIns := [], harness := (true, "3f8aaaba9913d456cf579b4034245f348fb41a15b24314907f33c7a488228292"), looks := true }, kinds := [], alts := [], laidByText := true, laidKinds := [.sentinel, .sentinel, .sentinel, .sentinel, .sentinel], laidTests := true, laidLooks := .later }
def FnExactLearnsCardSaid : Prop := Claim7.holds Tryd.pinned (.plain (OpenSpec.ofChange fnExactLearnsSpec)) fnExactLearnsCard

/-- THE TIED CARD OF 'laws.FnExactLearnsAll'. -/
def fnExactLearnsAllCard : Claim7 := { stood := { row := fnExactLearnsAllRow, standIns := [], harness := (true, "3f8aaaba9913d456cf579b4034245f348fb41a15b24314907f33c7a488228292"), looks := true }, kinds := [], alts := [], laidByText := true, laidKinds := [.handle, .sentinel, .sentinel, .sentinel, .sentinel, .sentinel], laidTests := true, laidLooks := .later }
def FnExactLearnsAllCardSaid : Prop := Claim7.holds Tryd.pinned (.plain (OpenSpec.ofChange fnExactLearnsAllSpec)) fnExactLearnsAllCard

/-- THE TIED CARD OF 'laws.FnExactNextRound'. -/
def fnExactNextRoundCard : Claim7 := { stood := { row := fnExactNextRoundRow, standIns := [], harness := (true, "3f8aaaba9913d456cf579b4034245f348fb41a15b24314907f33c7a488228292"), looks := true }, kinds := [], alts := [], laidByText := true, laidKinds := [.sentinel, .sentinel], laidTests := true, laidLooks := .later }
def FnExactNextRoundCardSaid : Prop := Claim7.holds Tryd.pinned (.plain (OpenSpec.ofChange fnExactNextRoundSpec)) fnExactNextRoundCard

/-- THE TIED CARD OF 'laws.FnExactDraft'. -/
def fnExactDraftCard : Claim7 := { stood := { row := fnExactDraftRow, standIns := [], harness := (true, "3f8aaaba9913d456cf579b4034245f348fb41a15b24314907f33c7a488228292"), looks := true }, kinds := [], alts := [], laidByText := true, laidKinds := [.sentinel, .sentinel, .sentinel], laidTests := true, laidLooks := .later }
def FnExactDraftCardSaid : Prop := Claim7.holds Tryd.pinned (.plain (OpenSpec.ofChange fnExactDraftSpec)) fnExactDraftCard

/-- THE TIED CARD OF 'laws.FnExactTies'. -/
def fnExactTiesCard : Claim7 := { stood := { row := fnExactTiesRow, standIns := [], harness := (true, "3f8aaaba9913d456cf579b4034245f348fb41a15b24314907f33c7a488228292"), looks := true }, kinds := [], alts := [], laidByText := true, laidKinds := [.sentinel, .sentinel, .sentinel, .sentinel], laidTests := true, laidLooks := .later }
def FnExactTiesCardSaid : Prop := Claim7.holds Tryd.pinned (.plain (OpenSpec.ofChange fnExactTiesSpec)) fnExactTiesCard

/-- THE SECOND FORM's CARD OF 'laws.FnExactLearns'. -/
def fnExactLearnsUptoCard : Claim7 := { stood := { row := fnExactLearnsUptoRow, standIns := [], harness := (true, "3f8aaaba9913d456cf579b4034245f348fb41a15b24314907f33c7a488228292"), looks := true }, kinds := [], alts := [], laidByText := true, laidKinds := [.sentinel, .sentinel, .sentinel, .sentinel, .sentinel], laidTests := true, laidLooks := .later }
def FnExactLearnsUptoCardSaid : Prop := Claim7.holds Tryd.pinned (.plain (OpenSpec.upto fnExactLearnsSpec)) fnExactLearnsUptoCard

/-- THE SECOND FORM's CARD OF 'laws.FnExactLearnsAll'. -/
def fnExactLearnsAllUptoCard : Claim7 := { stood := { row := fnExactLearnsAllUptoRow, standIns := [], harness := (true, "3f8aaaba9913d456cf579b4034245f348fb41a15b24314907f33c7a488228292"), looks := true }, kinds := [], alts := [], laidByText := true, laidKinds := [.handle, .sentinel, .sentinel, .sentinel, .sentinel, .sentinel], laidTests := true, laidLooks := .later }
def FnExactLearnsAllUptoCardSaid : Prop := Claim7.holds Tryd.pinned (.plain (OpenSpec.upto fnExactLearnsAllSpec)) fnExactLearnsAllUptoCard

/-- THE SECOND FORM's CARD OF 'laws.FnExactNextRound'. -/
def fnExactNextRoundUptoCard : Claim7 := { stood := { row := fnExactNextRoundUptoRow, standIns := [], harness := (true, "3f8aaaba9913d456cf579b4034245f348fb41a15b24314907f33c7a488228292"), looks := true }, kinds := [], alts := [], laidByText := true, laidKinds := [.sentinel, .sentinel], laidTests := true, laidLooks := .later }
def FnExactNextRoundUptoCardSaid : Prop := Claim7.holds Tryd.pinned (.plain (OpenSpec.upto fnExactNextRoundSpec)) fnExactNextRoundUptoCard

/-- THE SECOND FORM's CARD OF 'laws.FnExactDraft'. -/
def fnExactDraftUptoCard : Claim7 := { stood := { row := fnExactDraftUptoRow, standIns := [], harness := (true, "3f8aaaba9913d456cf579b4034245f348fb41a15b24314907f33c7a488228292"), looks := true }, kinds := [], alts := [], laidByText := true, laidKinds := [.sentinel, .sentinel, .sentinel], laidTests := true, laidLooks := .later }
def FnExactDraftUptoCardSaid : Prop := Claim7.holds Tryd.pinned (.plain (OpenSpec.upto fnExactDraftSpec)) fnExactDraftUptoCard

/-- THE SECOND FORM's CARD OF 'laws.FnExactTies'. -/
def fnExactTiesUptoCard : Claim7 := { stood := { row := fnExactTiesUptoRow, standIns := [], harness := (true, "3f8aaaba9913d456cf579b4034245f348fb41a15b24314907f33c7a488228292"), looks := true }, kinds := [], alts := [], laidByText := true, laidKinds := [.sentinel, .sentinel, .sentinel, .sentinel], laidTests := true, laidLooks := .later }
def FnExactTiesUptoCardSaid : Prop := Claim7.holds Tryd.pinned (.plain (OpenSpec.upto fnExactTiesSpec)) fnExactTiesUptoCard
end Rows
end Go.Proofs.YtapfmadnkaimeaaDoor
