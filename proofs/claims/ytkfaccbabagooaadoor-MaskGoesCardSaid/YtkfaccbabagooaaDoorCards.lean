/-
  DERIVED. GIVEN WITH THE SEED: THE CARDS: each row of YtkfaccbabagooaaDoorRows.lean that lists a variable, with what it lists TIED to the program's text (the seventh form; the later family's looks); each row that meets fmt, with fmt's text TOLD by the authors' own Lean function (tested against real Go, not proved from fmt's source: count such statements apart). THE CARD IS WHAT COUNTS. Prove the row's statement (the work); the ties are given (YtkfaccbabagooaaDoorTie.lean); close each card by the builder's one call (the guide's Derived/Test/ToyasCard.lean, 'card_holds'). Laid BY PROGRAM, IN A SANDBOX (cutbox-door.mjs). By AI agents, Wed Nov 11 2026. No macro, syntax, notation, axiom, sorry.
-/
import Derived.Test.YtkfaccbabagooaaDoorRows
import GoSem.ClaimSeven
namespace Go.Proofs.YtkfaccbabagooaaDoor
namespace Rows

/-- THE TIED CARD OF 'remontoirlaw03.MaskSets'. -/
def maskSetsCard : Claim7 := { stood := { row := maskSetsRow, standIns := [], harness := (true, "42d14e32b73fc4837858eba2be97d5271175b42d628506ef9acaac52893ea6f5"), looks := false }, kinds := [], alts := [], laidByText := true, laidKinds := [.data], laidTests := true, laidLooks := .later }
def MaskSetsCardSaid : Prop := Claim7.holds Tryd.pinned (.plain (OpenSpec.ofChange maskSetsSpec)) maskSetsCard

/-- THE TIED CARD OF 'remontoirlaw03.MaskCuts'. -/
def maskCutsCard : Claim7 := { stood := { row := maskCutsRow, standIns := [], harness := (true, "42d14e32b73fc4837858eba2be97d5271175b42d628506ef9acaac52893ea6f5"), looks := false }, kinds := [], alts := [], laidByText := true, laidKinds := [.data], laidTests := true, laidLooks := .later }
def MaskCutsCardSaid : Prop := Claim7.holds Tryd.pinned (.plain (OpenSpec.ofChange maskCutsSpec)) maskCutsCard

/-- THE TIED CARD OF 'remontoirlaw03.MaskGoes'. -/
def maskGoesCard : Claim7 := { stood := { row := maskGoesRow, standIns := [], harness := (true, "42d14e32b73fc4837858eba2be97d5271175b42d628506ef9acaac52893ea6f5"), looks := false }, kinds := [], alts := [], laidByText := true, laidKinds := [.data], laidTests := true, laidLooks := .later }
def MaskGoesCardSaid : Prop := Claim7.holds Tryd.pinned (.plain (OpenSpec.ofChange maskGoesSpec)) maskGoesCard

/-- THE SECOND FORM's CARD OF 'remontoirlaw03.MaskSets'. -/
def maskSetsUptoCard : Claim7 := { stood := { row := maskSetsUptoRow, standIns := [], harness := (true, "42d14e32b73fc4837858eba2be97d5271175b42d628506ef9acaac52893ea6f5"), looks := false }, kinds := [], alts := [], laidByText := true, laidKinds := [.data], laidTests := true, laidLooks := .later }
def MaskSetsUptoCardSaid : Prop := Claim7.holds Tryd.pinned (.plain (OpenSpec.upto maskSetsSpec)) maskSetsUptoCard

/-- THE SECOND FORM's CARD OF 'remontoirlaw03.MaskCuts'. -/
def maskCutsUptoCard : Claim7 := { stood := { row := maskCutsUptoRow, standIns := [], harness := (true, "42d14e32b73fc4837858eba2be97d5271175b42d628506ef9acaac52893ea6f5"), looks := false }, kinds := [], alts := [], laidByText := true, laidKinds := [.data], laidTests := true, laidLooks := .later }
def MaskCutsUptoCardSaid : Prop := Claim7.holds Tryd.pinned (.plain (OpenSpec.upto maskCutsSpec)) maskCutsUptoCard

/-- THE SECOND FORM's CARD OF 'remontoirlaw03.MaskGoes'. -/
def maskGoesUptoCard : Claim7 := { stood := { row := maskGoesUptoRow, standIns := [], harness := (true, "42d14e32b73fc4837858eba2be97d5271175b42d628506ef9acaac52893ea6f5"), looks := false }, kinds := [], alts := [], laidByText := true, laidKinds := [.data], laidTests := true, laidLooks := .later }
def MaskGoesUptoCardSaid : Prop := Claim7.holds Tryd.pinned (.plain (OpenSpec.upto maskGoesSpec)) maskGoesUptoCard
end Rows
end Go.Proofs.YtkfaccbabagooaaDoor
