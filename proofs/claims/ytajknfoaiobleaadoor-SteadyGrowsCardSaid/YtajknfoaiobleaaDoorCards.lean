/-
  DERIVED. GIVEN WITH THE SEED: THE CARDS: each row of YtajknfoaiobleaaDoorRows.lean that lists a variable, with what it lists TIED to the program's text (the seventh form; the later family's looks); each row that meets fmt, with fmt's text TOLD by the authors' own Lean function (tested against real Go, not proved from fmt's source: count such statements apart). THE CARD IS WHAT COUNTS. Prove the row's statement (the work); the ties are given (YtajknfoaiobleaaDoorTie.lean); close each card by the builder's one call (the guide's Derived/Test/ToyasCard.lean, 'card_holds'). Laid BY PROGRAM, IN A SANDBOX (cutbox-door.mjs). By AI agents, Wed Nov 11 2026. No macro, syntax, notation, axiom, sorry.
-/
import Derived.Test.YtajknfoaiobleaaDoorRows
import GoSem.ClaimSeven
namespace Go.Proofs.YtajknfoaiobleaaDoor
namespace Rows

/-- THE TIED CARD OF 'remontoirlaw18.SteadyTells'. -/
def steadyTellsCard : Claim7 := { stood := { row := steadyTellsRow, standIns := [], harness := (true, "4c817c2c746f227cc38dba93b035547e72a713547e9dfe916f438da5a91774ed"), looks := false }, kinds := [], alts := [], laidByText := true, laidKinds := [.data], laidTests := true, laidLooks := .later }
def SteadyTellsCardSaid : Prop := Claim7.holds Tryd.pinned (.plain (OpenSpec.ofChange steadyTellsSpec)) steadyTellsCard

/-- THE TIED CARD OF 'remontoirlaw18.SteadyBusy'. -/
def steadyBusyCard : Claim7 := { stood := { row := steadyBusyRow, standIns := [], harness := (true, "4c817c2c746f227cc38dba93b035547e72a713547e9dfe916f438da5a91774ed"), looks := false }, kinds := [], alts := [], laidByText := true, laidKinds := [.data], laidTests := true, laidLooks := .later }
def SteadyBusyCardSaid : Prop := Claim7.holds Tryd.pinned (.plain (OpenSpec.ofChange steadyBusySpec)) steadyBusyCard

/-- THE TIED CARD OF 'remontoirlaw18.SteadyGrows'. -/
def steadyGrowsCard : Claim7 := { stood := { row := steadyGrowsRow, standIns := [], harness := (true, "4c817c2c746f227cc38dba93b035547e72a713547e9dfe916f438da5a91774ed"), looks := false }, kinds := [], alts := [], laidByText := true, laidKinds := [.data], laidTests := true, laidLooks := .later }
def SteadyGrowsCardSaid : Prop := Claim7.holds Tryd.pinned (.plain (OpenSpec.ofChange steadyGrowsSpec)) steadyGrowsCard

/-- THE SECOND FORM's CARD OF 'remontoirlaw18.SteadyTells'. -/
def steadyTellsUptoCard : Claim7 := { stood := { row := steadyTellsUptoRow, standIns := [], harness := (true, "4c817c2c746f227cc38dba93b035547e72a713547e9dfe916f438da5a91774ed"), looks := false }, kinds := [], alts := [], laidByText := true, laidKinds := [.data], laidTests := true, laidLooks := .later }
def SteadyTellsUptoCardSaid : Prop := Claim7.holds Tryd.pinned (.plain (OpenSpec.upto steadyTellsSpec)) steadyTellsUptoCard

/-- THE SECOND FORM's CARD OF 'remontoirlaw18.SteadyBusy'. -/
def steadyBusyUptoCard : Claim7 := { stood := { row := steadyBusyUptoRow, standIns := [], harness := (true, "4c817c2c746f227cc38dba93b035547e72a713547e9dfe916f438da5a91774ed"), looks := false }, kinds := [], alts := [], laidByText := true, laidKinds := [.data], laidTests := true, laidLooks := .later }
def SteadyBusyUptoCardSaid : Prop := Claim7.holds Tryd.pinned (.plain (OpenSpec.upto steadyBusySpec)) steadyBusyUptoCard

/-- THE SECOND FORM's CARD OF 'remontoirlaw18.SteadyGrows'. -/
def steadyGrowsUptoCard : Claim7 := { stood := { row := steadyGrowsUptoRow, standIns := [], harness := (true, "4c817c2c746f227cc38dba93b035547e72a713547e9dfe916f438da5a91774ed"), looks := false }, kinds := [], alts := [], laidByText := true, laidKinds := [.data], laidTests := true, laidLooks := .later }
def SteadyGrowsUptoCardSaid : Prop := Claim7.holds Tryd.pinned (.plain (OpenSpec.upto steadyGrowsSpec)) steadyGrowsUptoCard
end Rows
end Go.Proofs.YtajknfoaiobleaaDoor
