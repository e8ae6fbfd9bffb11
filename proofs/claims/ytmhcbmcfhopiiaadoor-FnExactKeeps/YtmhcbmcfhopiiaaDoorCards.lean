/-
  DERIVED. GIVEN WITH THE SEED: THE CARDS: each row of YtmhcbmcfhopiiaaDoorRows.lean that lists a variable, with what it lists TIED to the program's text (the seventh form; the later family's looks); each row that meets fmt, with fmt's text TOLD by the authors' own Lean function (tested against real Go, not proved from fmt's source: count such statements apart). THE CARD IS WHAT COUNTS. Prove the row's statement (the work); the ties are given (YtmhcbmcfhopiiaaDoorTie.lean); close each card by the builder's one call (the guide's Derived/Test/ToyasCard.lean, 'card_holds'). Laid BY PROGRAM, IN A SANDBOX (cutbox-door.mjs). By AI agents, Wed Nov 11 2026. No macro, syntax, notation, axiom, sorry.
-/
import Derived.Test.YtmhcbmcfhopiiaaDoorRows
import GoSem.ClaimSeven
namespace Go.Proofs.YtmhcbmcfhopiiaaDoor
namespace Rows

/-- THE TIED CARD OF 'laws.FnExactHandOk'. -/
def fnExactHandOkCard : Claim7 := { stood := { row := fnExactHandOkRow, standIns := [], harness := (true, "ac552e777e6f89e2916836d046accbfedda2ef432f0134bd680cac0cae92424a"), looks := true }, kinds := [], alts := [], laidByText := true, laidKinds := [.sentinel], laidTests := true, laidLooks := .later }
def FnExactHandOkCardSaid : Prop := Claim7.holds Tryd.pinned (.plain (OpenSpec.ofChange fnExactHandOkSpec)) fnExactHandOkCard

/-- THE TIED CARD OF 'laws.FnExactLearns'. -/
def fnExactLearnsCard : Claim7 := { stood := { row := fnExactLearnsRow, standIns := [], harness := (true, "ac552e777e6f89e2916836d046accbfedda2ef432f0134bd680cac0cae92424a"), looks := true }, kinds := [], alts := [], laidByText := true, laidKinds := [.sentinel, .sentinel, .sentinel, .sentinel, .sentinel], laidTests := true, laidLooks := .later }
def FnExactLearnsCardSaid : Prop := Claim7.holds Tryd.pinned (.plain (OpenSpec.ofChange fnExactLearnsSpec)) fnExactLearnsCard

/-- THE TIED CARD OF 'laws.FnExactLearnsAll'. -/
def fnExactLearnsAllCard : Claim7 := { stood := { row := fnExactLearnsAllRow, standIns := [], harness := (true, "ac552e777e6f89e2916836d046accbfedda2ef432f0134bd680cac0cae92424a"), looks := true }, kinds := [], alts := [], laidByText := true, laidKinds := [.handle, .sentinel, .sentinel, .sentinel, .sentinel, .sentinel], laidTests := true, laidLooks := .later }
def FnExactLearnsAllCardSaid : Prop := Claim7.holds Tryd.pinned (.plain (OpenSpec.ofChange fnExactLearnsAllSpec)) fnExactLearnsAllCard

/-- THE TIED CARD OF 'laws.FnExactKeeps'. -/
def fnExactKeepsCard : Claim7 := { stood := { row := fnExactKeepsRow, standIns := [], harness := (true, "ac552e777e6f89e2916836d046accbfedda2ef432f0134bd680cac0cae92424a"), looks := true }, kinds := [], alts := [], laidByText := true, laidKinds := [.sentinel], laidTests := true, laidLooks := .later }
def FnExactKeepsCardSaid : Prop := Claim7.holds Tryd.pinned (.plain (OpenSpec.ofChange fnExactKeepsSpec)) fnExactKeepsCard

/-- THE TIED CARD OF 'laws.FnExactForgets'. -/
def fnExactForgetsCard : Claim7 := { stood := { row := fnExactForgetsRow, standIns := [], harness := (true, "ac552e777e6f89e2916836d046accbfedda2ef432f0134bd680cac0cae92424a"), looks := true }, kinds := [], alts := [], laidByText := true, laidKinds := [.sentinel], laidTests := true, laidLooks := .later }
def FnExactForgetsCardSaid : Prop := Claim7.holds Tryd.pinned (.plain (OpenSpec.ofChange fnExactForgetsSpec)) fnExactForgetsCard

/-- THE SECOND FORM's CARD OF 'laws.FnExactHandOk'. -/
def fnExactHandOkUptoCard : Claim7 := { stood := { row := fnExactHandOkUptoRow, standIns := [], harness := (true, "ac552e777e6f89e2916836d046accbfedda2ef432f0134bd680cac0cae92424a"), looks := true }, kinds := [], alts := [], laidByText := true, laidKinds := [.sentinel], laidTests := true, laidLooks := .later }
def FnExactHandOkUptoCardSaid : Prop := Claim7.holds Tryd.pinned (.plain (OpenSpec.upto fnExactHandOkSpec)) fnExactHandOkUptoCard

/-- THE SECOND FORM's CARD OF 'laws.FnExactLearns'. -/
def fnExactLearnsUptoCard : Claim7 := { stood := { row := fnExactLearnsUptoRow, standIns := [], harness := (true, "ac552e777e6f89e2916836d046accbfedda2ef432f0134bd680cac0cae92424a"), looks := true }, kinds := [], alts := [], laidByText := true, laidKinds := [.sentinel, .sentinel, .sentinel, .sentinel, .sentinel], laidTests := true, laidLooks := .later }
def FnExactLearnsUptoCardSaid : Prop := Claim7.holds Tryd.pinned (.plain (OpenSpec.upto fnExactLearnsSpec)) fnExactLearnsUptoCard

/-- THE SECOND FORM's CARD OF 'laws.FnExactLearnsAll'. -/
def fnExactLearnsAllUptoCard : Claim7 := { stood := { row := fnExactLearnsAllUptoRow, standIns := [], harness := (true, "ac552e777e6f89e2916836d046accbfedda2ef432f0134bd680cac0cae92424a"), looks := true }, kinds := [], alts := [], laidByText := true, laidKinds := [.handle, .sentinel, .sentinel, .sentinel, .sentinel, .sentinel], laidTests := true, laidLooks := .later }
def FnExactLearnsAllUptoCardSaid : Prop := Claim7.holds Tryd.pinned (.plain (OpenSpec.upto fnExactLearnsAllSpec)) fnExactLearnsAllUptoCard

/-- THE SECOND FORM's CARD OF 'laws.FnExactKeeps'. -/
def fnExactKeepsUptoCard : Claim7 := { stood := { row := fnExactKeepsUptoRow, standIns := [], harness := (true, "ac552e777e6f89e2916836d046accbfedda2ef432f0134bd680cac0cae92424a"), looks := true }, kinds := [], alts := [], laidByText := true, laidKinds := [.sentinel], laidTests := true, laidLooks := .later }
def FnExactKeepsUptoCardSaid : Prop := Claim7.holds Tryd.pinned (.plain (OpenSpec.upto fnExactKeepsSpec)) fnExactKeepsUptoCard

/-- THE SECOND FORM's CARD OF 'laws.FnExactForgets'. -/
def fnExactForgetsUptoCard : Claim7 := { stood := { row := fnExactForgetsUptoRow, standIns := [], harness := (true, "ac552e777e6f89e2916836d046accbfedda2ef432f0134bd680cac0cae92424a"), looks := true }, kinds := [], alts := [], laidByText := true, laidKinds := [.sentinel], laidTests := true, laidLooks := .later }
def FnExactForgetsUptoCardSaid : Prop := Claim7.holds Tryd.pinned (.plain (OpenSpec.upto fnExactForgetsSpec)) fnExactForgetsUptoCard
end Rows
end Go.Proofs.YtmhcbmcfhopiiaaDoor
