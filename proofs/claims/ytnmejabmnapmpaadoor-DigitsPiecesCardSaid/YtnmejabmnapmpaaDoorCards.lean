/-
  DERIVED. GIVEN WITH THE SEED: THE CARDS: each row of YtnmejabmnapmpaaDoorRows.lean that lists a variable, with what it lists TIED to the program's text (the seventh form; the later family's looks); each row that meets fmt, with fmt's text TOLD by the authors' own Lean function (tested against real Go, not proved from fmt's source: count such statements apart). THE CARD IS WHAT COUNTS. Prove the row's statement (the work); the ties are given (YtnmejabmnapmpaaDoorTie.lean); close each card by the builder's one call (the guide's Derived/Test/ToyasCard.lean, 'card_holds'). Laid BY PROGRAM, IN A SANDBOX (cutbox-door.mjs). By AI agents, Wed Nov 11 2026. No macro, syntax, notation, axiom, sorry.
-/
import Derived.Test.YtnmejabmnapmpaaDoorRows
import GoSem.ClaimSeven
namespace Go.Proofs.YtnmejabmnapmpaaDoor
namespace Rows

/-- THE TIED CARD OF 'remontoirlaw01.DigitsNumbers'. -/
def digitsNumbersCard : Claim7 := { stood := { row := digitsNumbersRow, standIns := [], harness := (true, "5ccccb96505e3664f9d47cdd4ee579e474347fa3c876a7680fbfa62eb5c322dd"), looks := false }, kinds := [], alts := [], laidByText := true, laidKinds := [.data, .data, .data, .data, .pinned], laidTests := true, laidLooks := .later }
def DigitsNumbersCardSaid : Prop := Claim7.holds Tryd.pinned (.plain (OpenSpec.ofChange digitsNumbersSpec)) digitsNumbersCard

/-- THE TIED CARD OF 'remontoirlaw01.DigitsWords'. -/
def digitsWordsCard : Claim7 := { stood := { row := digitsWordsRow, standIns := [], harness := (true, "5ccccb96505e3664f9d47cdd4ee579e474347fa3c876a7680fbfa62eb5c322dd"), looks := false }, kinds := [], alts := [], laidByText := true, laidKinds := [.data, .data, .data, .data, .pinned], laidTests := true, laidLooks := .later }
def DigitsWordsCardSaid : Prop := Claim7.holds Tryd.pinned (.plain (OpenSpec.ofChange digitsWordsSpec)) digitsWordsCard

/-- THE TIED CARD OF 'remontoirlaw01.DigitsPieces'. -/
def digitsPiecesCard : Claim7 := { stood := { row := digitsPiecesRow, standIns := [], harness := (true, "5ccccb96505e3664f9d47cdd4ee579e474347fa3c876a7680fbfa62eb5c322dd"), looks := false }, kinds := [], alts := [], laidByText := true, laidKinds := [.data, .data, .data, .data, .pinned], laidTests := true, laidLooks := .later }
def DigitsPiecesCardSaid : Prop := Claim7.holds Tryd.pinned (.plain (OpenSpec.ofChange digitsPiecesSpec)) digitsPiecesCard

/-- THE SECOND FORM's CARD OF 'remontoirlaw01.DigitsNumbers'. -/
def digitsNumbersUptoCard : Claim7 := { stood := { row := digitsNumbersUptoRow, standIns := [], harness := (true, "5ccccb96505e3664f9d47cdd4ee579e474347fa3c876a7680fbfa62eb5c322dd"), looks := false }, kinds := [], alts := [], laidByText := true, laidKinds := [.data, .data, .data, .data, .pinned], laidTests := true, laidLooks := .later }
def DigitsNumbersUptoCardSaid : Prop := Claim7.holds Tryd.pinned (.plain (OpenSpec.upto digitsNumbersSpec)) digitsNumbersUptoCard

/-- THE SECOND FORM's CARD OF 'remontoirlaw01.DigitsWords'. -/
def digitsWordsUptoCard : Claim7 := { stood := { row := digitsWordsUptoRow, standIns := [], harness := (true, "5ccccb96505e3664f9d47cdd4ee579e474347fa3c876a7680fbfa62eb5c322dd"), looks := false }, kinds := [], alts := [], laidByText := true, laidKinds := [.data, .data, .data, .data, .pinned], laidTests := true, laidLooks := .later }
def DigitsWordsUptoCardSaid : Prop := Claim7.holds Tryd.pinned (.plain (OpenSpec.upto digitsWordsSpec)) digitsWordsUptoCard

/-- THE SECOND FORM's CARD OF 'remontoirlaw01.DigitsPieces'. -/
def digitsPiecesUptoCard : Claim7 := { stood := { row := digitsPiecesUptoRow, standIns := [], harness := (true, "5ccccb96505e3664f9d47cdd4ee579e474347fa3c876a7680fbfa62eb5c322dd"), looks := false }, kinds := [], alts := [], laidByText := true, laidKinds := [.data, .data, .data, .data, .pinned], laidTests := true, laidLooks := .later }
def DigitsPiecesUptoCardSaid : Prop := Claim7.holds Tryd.pinned (.plain (OpenSpec.upto digitsPiecesSpec)) digitsPiecesUptoCard
end Rows
end Go.Proofs.YtnmejabmnapmpaaDoor
