/-
  DERIVED. GIVEN WITH THE SEED: THE CARDS: each row of YtknkhigmokooaaaDoorRows.lean that lists a variable, with what it lists TIED to the program's text (the seventh form; the later family's looks); each row that meets fmt, with fmt's text TOLD by the authors' own Lean function (tested against real Go, not proved from fmt's source: count such statements apart). THE CARD IS WHAT COUNTS. Prove the row's statement (the work); the ties are given (YtknkhigmokooaaaDoorTie.lean); close each card by the builder's one call (the guide's Derived/Test/ToyasCard.lean, 'card_holds'). Laid BY PROGRAM, IN A SANDBOX (cutbox-door.mjs). By AI agents, Wed Nov 11 2026. No macro, syntax, notation, axiom, sorry.
-/
import Derived.Test.YtknkhigmokooaaaDoorRows
import GoSem.ClaimSeven
namespace Go.Proofs.YtknkhigmokooaaaDoor
namespace Rows

/-- THE TIED CARD OF 'remontoirlaw18.SteadyTells'. -/
def steadyTellsCard : Claim7 := { stood := { row := steadyTellsRow, standIns := [], harness := (true, "e95ba5a693ba482f8d47a136a0f279c15305c817af6ba93e02f03be807fc6ebd"), looks := false }, kinds := [], alts := [], laidByText := true, laidKinds := [.data], laidTests := true, laidLooks := .later }
def SteadyTellsCardSaid : Prop := Claim7.holds Tryd.pinned (.plain (OpenSpec.ofChange steadyTellsSpec)) steadyTellsCard

/-- THE TIED CARD OF 'remontoirlaw18.SteadyBusy'. -/
def steadyBusyCard : Claim7 := { stood := { row := steadyBusyRow, standIns := [], harness := (true, "e95ba5a693ba482f8d47a136a0f279c15305c817af6ba93e02f03be807fc6ebd"), looks := false }, kinds := [], alts := [], laidByText := true, laidKinds := [.data], laidTests := true, laidLooks := .later }
def SteadyBusyCardSaid : Prop := Claim7.holds Tryd.pinned (.plain (OpenSpec.ofChange steadyBusySpec)) steadyBusyCard

/-- THE TIED CARD OF 'remontoirlaw18.SteadyGrows'. -/
def steadyGrowsCard : Claim7 := { stood := { row := steadyGrowsRow, standIns := [], harness := (true, "e95ba5a693ba482f8d47a136a0f279c15305c817af6ba93e02f03be807fc6ebd"), looks := false }, kinds := [], alts := [], laidByText := true, laidKinds := [.data], laidTests := true, laidLooks := .later }
def SteadyGrowsCardSaid : Prop := Claim7.holds Tryd.pinned (.plain (OpenSpec.ofChange steadyGrowsSpec)) steadyGrowsCard

/-- THE TIED CARD OF 'remontoirlaw42.DiffTells'. -/
def diffTellsCard : Claim7 := { stood := { row := diffTellsRow, standIns := [], harness := (true, "e95ba5a693ba482f8d47a136a0f279c15305c817af6ba93e02f03be807fc6ebd"), looks := false }, kinds := [], alts := [], laidByText := true, laidKinds := [.data, .data, .data, .data], laidTests := true, laidLooks := .later }
def DiffTellsCardSaid : Prop := Claim7.holds Tryd.pinned (.plain (OpenSpec.ofChange diffTellsSpec)) diffTellsCard

/-- THE TIED CARD OF 'remontoirlaw42.DiffTurns'. -/
def diffTurnsCard : Claim7 := { stood := { row := diffTurnsRow, standIns := [], harness := (true, "e95ba5a693ba482f8d47a136a0f279c15305c817af6ba93e02f03be807fc6ebd"), looks := false }, kinds := [], alts := [], laidByText := true, laidKinds := [.data, .data, .data, .data], laidTests := true, laidLooks := .later }
def DiffTurnsCardSaid : Prop := Claim7.holds Tryd.pinned (.plain (OpenSpec.ofChange diffTurnsSpec)) diffTurnsCard

/-- THE TIED CARD OF 'remontoirlaw42.DiffLines'. -/
def diffLinesCard : Claim7 := { stood := { row := diffLinesRow, standIns := [], harness := (true, "e95ba5a693ba482f8d47a136a0f279c15305c817af6ba93e02f03be807fc6ebd"), looks := false }, kinds := [], alts := [], laidByText := true, laidKinds := [.data, .data, .data, .data], laidTests := true, laidLooks := .later }
def DiffLinesCardSaid : Prop := Claim7.holds Tryd.pinned (.plain (OpenSpec.ofChange diffLinesSpec)) diffLinesCard

/-- THE SECOND FORM's CARD OF 'remontoirlaw18.SteadyTells'. -/
def steadyTellsUptoCard : Claim7 := { stood := { row := steadyTellsUptoRow, standIns := [], harness := (true, "e95ba5a693ba482f8d47a136a0f279c15305c817af6ba93e02f03be807fc6ebd"), looks := false }, kinds := [], alts := [], laidByText := true, laidKinds := [.data], laidTests := true, laidLooks := .later }
def SteadyTellsUptoCardSaid : Prop := Claim7.holds Tryd.pinned (.plain (OpenSpec.upto steadyTellsSpec)) steadyTellsUptoCard

/-- THE SECOND FORM's CARD OF 'remontoirlaw18.SteadyBusy'. -/
def steadyBusyUptoCard : Claim7 := { stood := { row := steadyBusyUptoRow, standIns := [], harness := (true, "e95ba5a693ba482f8d47a136a0f279c15305c817af6ba93e02f03be807fc6ebd"), looks := false }, kinds := [], alts := [], laidByText := true, laidKinds := [.data], laidTests := true, laidLooks := .later }
def SteadyBusyUptoCardSaid : Prop := Claim7.holds Tryd.pinned (.plain (OpenSpec.upto steadyBusySpec)) steadyBusyUptoCard

/-- THE SECOND FORM's CARD OF 'remontoirlaw18.SteadyGrows'. -/
def steadyGrowsUptoCard : Claim7 := { stood := { row := steadyGrowsUptoRow, standIns := [], harness := (true, "e95ba5a693ba482f8d47a136a0f279c15305c817af6ba93e02f03be807fc6ebd"), looks := false }, kinds := [], alts := [], laidByText := true, laidKinds := [.data], laidTests := true, laidLooks := .later }
def SteadyGrowsUptoCardSaid : Prop := Claim7.holds Tryd.pinned (.plain (OpenSpec.upto steadyGrowsSpec)) steadyGrowsUptoCard

/-- THE SECOND FORM's CARD OF 'remontoirlaw42.DiffTells'. -/
def diffTellsUptoCard : Claim7 := { stood := { row := diffTellsUptoRow, standIns := [], harness := (true, "e95ba5a693ba482f8d47a136a0f279c15305c817af6ba93e02f03be807fc6ebd"), looks := false }, kinds := [], alts := [], laidByText := true, laidKinds := [.data, .data, .data, .data], laidTests := true, laidLooks := .later }
def DiffTellsUptoCardSaid : Prop := Claim7.holds Tryd.pinned (.plain (OpenSpec.upto diffTellsSpec)) diffTellsUptoCard

/-- THE SECOND FORM's CARD OF 'remontoirlaw42.DiffTurns'. -/
def diffTurnsUptoCard : Claim7 := { stood := { row := diffTurnsUptoRow, standIns := [], harness := (true, "e95ba5a693ba482f8d47a136a0f279c15305c817af6ba93e02f03be807fc6ebd"), looks := false }, kinds := [], alts := [], laidByText := true, laidKinds := [.data, .data, .data, .data], laidTests := true, laidLooks := .later }
def DiffTurnsUptoCardSaid : Prop := Claim7.holds Tryd.pinned (.plain (OpenSpec.upto diffTurnsSpec)) diffTurnsUptoCard

/-- THE SECOND FORM's CARD OF 'remontoirlaw42.DiffLines'. -/
def diffLinesUptoCard : Claim7 := { stood := { row := diffLinesUptoRow, standIns := [], harness := (true, "e95ba5a693ba482f8d47a136a0f279c15305c817af6ba93e02f03be807fc6ebd"), looks := false }, kinds := [], alts := [], laidByText := true, laidKinds := [.data, .data, .data, .data], laidTests := true, laidLooks := .later }
def DiffLinesUptoCardSaid : Prop := Claim7.holds Tryd.pinned (.plain (OpenSpec.upto diffLinesSpec)) diffLinesUptoCard
end Rows
end Go.Proofs.YtknkhigmokooaaaDoor
