/-
  DERIVED. GIVEN WITH THE SEED: THE CARDS: each row of YtchmdnmifpjfkaaDoorRows.lean that lists a variable, with what it lists TIED to the program's text (the seventh form; the later family's looks); each row that meets fmt, with fmt's text TOLD by the authors' own Lean function (tested against real Go, not proved from fmt's source: count such statements apart). THE CARD IS WHAT COUNTS. Prove the row's statement (the work); the ties are given (YtchmdnmifpjfkaaDoorTie.lean); close each card by the builder's one call (the guide's Derived/Test/ToyasCard.lean, 'card_holds'). Laid BY PROGRAM, IN A SANDBOX (cutbox-door.mjs). By AI agents, Wed Nov 11 2026. No macro, syntax, notation, axiom, sorry.
-/
import Derived.Test.YtchmdnmifpjfkaaDoorRows
import GoSem.ClaimSeven
namespace Go.Proofs.YtchmdnmifpjfkaaDoor
namespace Rows

/-- THE TIED CARD OF 'remontoirlaw19.WindowTells'. -/
def windowTellsCard : Claim7 := { stood := { row := windowTellsRow, standIns := [], harness := (true, "66820c3196d86622d9b27460d620562658695cb8eb6191d2795182be3ab3aee7"), looks := false }, kinds := [], alts := [], laidByText := true, laidKinds := [.data], laidTests := true, laidLooks := .later }
def WindowTellsCardSaid : Prop := Claim7.holds Tryd.pinned (.plain (OpenSpec.ofChange windowTellsSpec)) windowTellsCard

/-- THE TIED CARD OF 'remontoirlaw19.WindowShrinks'. -/
def windowShrinksCard : Claim7 := { stood := { row := windowShrinksRow, standIns := [], harness := (true, "66820c3196d86622d9b27460d620562658695cb8eb6191d2795182be3ab3aee7"), looks := false }, kinds := [], alts := [], laidByText := true, laidKinds := [.data], laidTests := true, laidLooks := .later }
def WindowShrinksCardSaid : Prop := Claim7.holds Tryd.pinned (.plain (OpenSpec.ofChange windowShrinksSpec)) windowShrinksCard

/-- THE TIED CARD OF 'remontoirlaw20.OffsetFinds'. -/
def offsetFindsCard : Claim7 := { stood := { row := offsetFindsRow, standIns := [], harness := (true, "66820c3196d86622d9b27460d620562658695cb8eb6191d2795182be3ab3aee7"), looks := false }, kinds := [], alts := [], laidByText := true, laidKinds := [.data], laidTests := true, laidLooks := .later }
def OffsetFindsCardSaid : Prop := Claim7.holds Tryd.pinned (.plain (OpenSpec.ofChange offsetFindsSpec)) offsetFindsCard

/-- THE TIED CARD OF 'remontoirlaw20.OffsetCommon'. -/
def offsetCommonCard : Claim7 := { stood := { row := offsetCommonRow, standIns := [], harness := (true, "66820c3196d86622d9b27460d620562658695cb8eb6191d2795182be3ab3aee7"), looks := false }, kinds := [], alts := [], laidByText := true, laidKinds := [.data], laidTests := true, laidLooks := .later }
def OffsetCommonCardSaid : Prop := Claim7.holds Tryd.pinned (.plain (OpenSpec.ofChange offsetCommonSpec)) offsetCommonCard

/-- THE TIED CARD OF 'remontoirlaw20.OffsetFills'. -/
def offsetFillsCard : Claim7 := { stood := { row := offsetFillsRow, standIns := [], harness := (true, "66820c3196d86622d9b27460d620562658695cb8eb6191d2795182be3ab3aee7"), looks := false }, kinds := [], alts := [], laidByText := true, laidKinds := [.data], laidTests := true, laidLooks := .later }
def OffsetFillsCardSaid : Prop := Claim7.holds Tryd.pinned (.plain (OpenSpec.ofChange offsetFillsSpec)) offsetFillsCard

/-- THE SECOND FORM's CARD OF 'remontoirlaw19.WindowTells'. -/
def windowTellsUptoCard : Claim7 := { stood := { row := windowTellsUptoRow, standIns := [], harness := (true, "66820c3196d86622d9b27460d620562658695cb8eb6191d2795182be3ab3aee7"), looks := false }, kinds := [], alts := [], laidByText := true, laidKinds := [.data], laidTests := true, laidLooks := .later }
def WindowTellsUptoCardSaid : Prop := Claim7.holds Tryd.pinned (.plain (OpenSpec.upto windowTellsSpec)) windowTellsUptoCard

/-- THE SECOND FORM's CARD OF 'remontoirlaw19.WindowShrinks'. -/
def windowShrinksUptoCard : Claim7 := { stood := { row := windowShrinksUptoRow, standIns := [], harness := (true, "66820c3196d86622d9b27460d620562658695cb8eb6191d2795182be3ab3aee7"), looks := false }, kinds := [], alts := [], laidByText := true, laidKinds := [.data], laidTests := true, laidLooks := .later }
def WindowShrinksUptoCardSaid : Prop := Claim7.holds Tryd.pinned (.plain (OpenSpec.upto windowShrinksSpec)) windowShrinksUptoCard

/-- THE SECOND FORM's CARD OF 'remontoirlaw20.OffsetFinds'. -/
def offsetFindsUptoCard : Claim7 := { stood := { row := offsetFindsUptoRow, standIns := [], harness := (true, "66820c3196d86622d9b27460d620562658695cb8eb6191d2795182be3ab3aee7"), looks := false }, kinds := [], alts := [], laidByText := true, laidKinds := [.data], laidTests := true, laidLooks := .later }
def OffsetFindsUptoCardSaid : Prop := Claim7.holds Tryd.pinned (.plain (OpenSpec.upto offsetFindsSpec)) offsetFindsUptoCard

/-- THE SECOND FORM's CARD OF 'remontoirlaw20.OffsetCommon'. -/
def offsetCommonUptoCard : Claim7 := { stood := { row := offsetCommonUptoRow, standIns := [], harness := (true, "66820c3196d86622d9b27460d620562658695cb8eb6191d2795182be3ab3aee7"), looks := false }, kinds := [], alts := [], laidByText := true, laidKinds := [.data], laidTests := true, laidLooks := .later }
def OffsetCommonUptoCardSaid : Prop := Claim7.holds Tryd.pinned (.plain (OpenSpec.upto offsetCommonSpec)) offsetCommonUptoCard

/-- THE SECOND FORM's CARD OF 'remontoirlaw20.OffsetFills'. -/
def offsetFillsUptoCard : Claim7 := { stood := { row := offsetFillsUptoRow, standIns := [], harness := (true, "66820c3196d86622d9b27460d620562658695cb8eb6191d2795182be3ab3aee7"), looks := false }, kinds := [], alts := [], laidByText := true, laidKinds := [.data], laidTests := true, laidLooks := .later }
def OffsetFillsUptoCardSaid : Prop := Claim7.holds Tryd.pinned (.plain (OpenSpec.upto offsetFillsSpec)) offsetFillsUptoCard
end Rows
end Go.Proofs.YtchmdnmifpjfkaaDoor
