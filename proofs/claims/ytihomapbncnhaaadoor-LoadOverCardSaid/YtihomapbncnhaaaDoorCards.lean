/-
  DERIVED. GIVEN WITH THE SEED: THE CARDS: each row of YtihomapbncnhaaaDoorRows.lean that lists a variable, with what it lists TIED to the program's text (the seventh form; the later family's looks); each row that meets fmt, with fmt's text TOLD by the authors' own Lean function (tested against real Go, not proved from fmt's source: count such statements apart). THE CARD IS WHAT COUNTS. Prove the row's statement (the work); the ties are given (YtihomapbncnhaaaDoorTie.lean); close each card by the builder's one call (the guide's Derived/Test/ToyasCard.lean, 'card_holds'). Laid BY PROGRAM, IN A SANDBOX (cutbox-door.mjs). By AI agents, Wed Nov 11 2026. No macro, syntax, notation, axiom, sorry.
-/
import Derived.Test.YtihomapbncnhaaaDoorRows
import GoSem.ClaimSeven
namespace Go.Proofs.YtihomapbncnhaaaDoor
namespace Rows

/-- THE TIED CARD OF 'remontoirlaw19.WindowTells'. -/
def windowTellsCard : Claim7 := { stood := { row := windowTellsRow, standIns := [], harness := (true, "47975e133c3713d8f473a5ca87c77cd34578695eb0d9baeb2bc6fecb3a985716"), looks := false }, kinds := [], alts := [], laidByText := true, laidKinds := [.data], laidTests := true, laidLooks := .later }
def WindowTellsCardSaid : Prop := Claim7.holds Tryd.pinned (.plain (OpenSpec.ofChange windowTellsSpec)) windowTellsCard

/-- THE TIED CARD OF 'remontoirlaw19.WindowShrinks'. -/
def windowShrinksCard : Claim7 := { stood := { row := windowShrinksRow, standIns := [], harness := (true, "47975e133c3713d8f473a5ca87c77cd34578695eb0d9baeb2bc6fecb3a985716"), looks := false }, kinds := [], alts := [], laidByText := true, laidKinds := [.data], laidTests := true, laidLooks := .later }
def WindowShrinksCardSaid : Prop := Claim7.holds Tryd.pinned (.plain (OpenSpec.ofChange windowShrinksSpec)) windowShrinksCard

/-- THE TIED CARD OF 'remontoirlaw37.LoadRounds'. -/
def loadRoundsCard : Claim7 := { stood := { row := loadRoundsRow, standIns := [], harness := (true, "47975e133c3713d8f473a5ca87c77cd34578695eb0d9baeb2bc6fecb3a985716"), looks := false }, kinds := [], alts := [], laidByText := true, laidKinds := [.data], laidTests := true, laidLooks := .later }
def LoadRoundsCardSaid : Prop := Claim7.holds Tryd.pinned (.plain (OpenSpec.ofChange loadRoundsSpec)) loadRoundsCard

/-- THE TIED CARD OF 'remontoirlaw37.LoadExact'. -/
def loadExactCard : Claim7 := { stood := { row := loadExactRow, standIns := [], harness := (true, "47975e133c3713d8f473a5ca87c77cd34578695eb0d9baeb2bc6fecb3a985716"), looks := false }, kinds := [], alts := [], laidByText := true, laidKinds := [.data], laidTests := true, laidLooks := .later }
def LoadExactCardSaid : Prop := Claim7.holds Tryd.pinned (.plain (OpenSpec.ofChange loadExactSpec)) loadExactCard

/-- THE TIED CARD OF 'remontoirlaw37.LoadLess'. -/
def loadLessCard : Claim7 := { stood := { row := loadLessRow, standIns := [], harness := (true, "47975e133c3713d8f473a5ca87c77cd34578695eb0d9baeb2bc6fecb3a985716"), looks := false }, kinds := [], alts := [], laidByText := true, laidKinds := [.data], laidTests := true, laidLooks := .later }
def LoadLessCardSaid : Prop := Claim7.holds Tryd.pinned (.plain (OpenSpec.ofChange loadLessSpec)) loadLessCard

/-- THE TIED CARD OF 'remontoirlaw37.LoadOver'. -/
def loadOverCard : Claim7 := { stood := { row := loadOverRow, standIns := [], harness := (true, "47975e133c3713d8f473a5ca87c77cd34578695eb0d9baeb2bc6fecb3a985716"), looks := false }, kinds := [], alts := [], laidByText := true, laidKinds := [.data], laidTests := true, laidLooks := .later }
def LoadOverCardSaid : Prop := Claim7.holds Tryd.pinned (.plain (OpenSpec.ofChange loadOverSpec)) loadOverCard

/-- THE SECOND FORM's CARD OF 'remontoirlaw19.WindowTells'. -/
def windowTellsUptoCard : Claim7 := { stood := { row := windowTellsUptoRow, standIns := [], harness := (true, "47975e133c3713d8f473a5ca87c77cd34578695eb0d9baeb2bc6fecb3a985716"), looks := false }, kinds := [], alts := [], laidByText := true, laidKinds := [.data], laidTests := true, laidLooks := .later }
def WindowTellsUptoCardSaid : Prop := Claim7.holds Tryd.pinned (.plain (OpenSpec.upto windowTellsSpec)) windowTellsUptoCard

/-- THE SECOND FORM's CARD OF 'remontoirlaw19.WindowShrinks'. -/
def windowShrinksUptoCard : Claim7 := { stood := { row := windowShrinksUptoRow, standIns := [], harness := (true, "47975e133c3713d8f473a5ca87c77cd34578695eb0d9baeb2bc6fecb3a985716"), looks := false }, kinds := [], alts := [], laidByText := true, laidKinds := [.data], laidTests := true, laidLooks := .later }
def WindowShrinksUptoCardSaid : Prop := Claim7.holds Tryd.pinned (.plain (OpenSpec.upto windowShrinksSpec)) windowShrinksUptoCard

/-- THE SECOND FORM's CARD OF 'remontoirlaw37.LoadRounds'. -/
def loadRoundsUptoCard : Claim7 := { stood := { row := loadRoundsUptoRow, standIns := [], harness := (true, "47975e133c3713d8f473a5ca87c77cd34578695eb0d9baeb2bc6fecb3a985716"), looks := false }, kinds := [], alts := [], laidByText := true, laidKinds := [.data], laidTests := true, laidLooks := .later }
def LoadRoundsUptoCardSaid : Prop := Claim7.holds Tryd.pinned (.plain (OpenSpec.upto loadRoundsSpec)) loadRoundsUptoCard

/-- THE SECOND FORM's CARD OF 'remontoirlaw37.LoadExact'. -/
def loadExactUptoCard : Claim7 := { stood := { row := loadExactUptoRow, standIns := [], harness := (true, "47975e133c3713d8f473a5ca87c77cd34578695eb0d9baeb2bc6fecb3a985716"), looks := false }, kinds := [], alts := [], laidByText := true, laidKinds := [.data], laidTests := true, laidLooks := .later }
def LoadExactUptoCardSaid : Prop := Claim7.holds Tryd.pinned (.plain (OpenSpec.upto loadExactSpec)) loadExactUptoCard

/-- THE SECOND FORM's CARD OF 'remontoirlaw37.LoadLess'. -/
def loadLessUptoCard : Claim7 := { stood := { row := loadLessUptoRow, standIns := [], harness := (true, "47975e133c3713d8f473a5ca87c77cd34578695eb0d9baeb2bc6fecb3a985716"), looks := false }, kinds := [], alts := [], laidByText := true, laidKinds := [.data], laidTests := true, laidLooks := .later }
def LoadLessUptoCardSaid : Prop := Claim7.holds Tryd.pinned (.plain (OpenSpec.upto loadLessSpec)) loadLessUptoCard

/-- THE SECOND FORM's CARD OF 'remontoirlaw37.LoadOver'. -/
def loadOverUptoCard : Claim7 := { stood := { row := loadOverUptoRow, standIns := [], harness := (true, "47975e133c3713d8f473a5ca87c77cd34578695eb0d9baeb2bc6fecb3a985716"), looks := false }, kinds := [], alts := [], laidByText := true, laidKinds := [.data], laidTests := true, laidLooks := .later }
def LoadOverUptoCardSaid : Prop := Claim7.holds Tryd.pinned (.plain (OpenSpec.upto loadOverSpec)) loadOverUptoCard
end Rows
end Go.Proofs.YtihomapbncnhaaaDoor
