/-
  DERIVED. GIVEN WITH THE SEED: THE CARDS: each row of YtimaihdlaaonbaaDoorRows.lean that lists a variable, with what it lists TIED to the program's text (the seventh form; the later family's looks); each row that meets fmt, with fmt's text TOLD by the authors' own Lean function (tested against real Go, not proved from fmt's source: count such statements apart). THE CARD IS WHAT COUNTS. Prove the row's statement (the work); the ties are given (YtimaihdlaaonbaaDoorTie.lean); close each card by the builder's one call (the guide's Derived/Test/ToyasCard.lean, 'card_holds'). Laid BY PROGRAM, IN A SANDBOX (cutbox-door.mjs). By AI agents, Wed Nov 11 2026. No macro, syntax, notation, axiom, sorry.
-/
import Derived.Test.YtimaihdlaaonbaaDoorRows
import GoSem.ClaimSeven
namespace Go.Proofs.YtimaihdlaaonbaaDoor
namespace Rows

/-- THE TIED CARD OF 'remontoirlaw22.ReadyPlays'. -/
def readyPlaysCard : Claim7 := { stood := { row := readyPlaysRow, standIns := [], harness := (true, "7e37e602ff75882458ef1778ca86acf3de63ea016f6618eba2f735c6ebd202b3"), looks := false }, kinds := [], alts := [], laidByText := true, laidKinds := [.data], laidTests := true, laidLooks := .later }
def ReadyPlaysCardSaid : Prop := Claim7.holds Tryd.pinned (.plain (OpenSpec.ofChange readyPlaysSpec)) readyPlaysCard

/-- THE TIED CARD OF 'remontoirlaw22.ReadyDrains'. -/
def readyDrainsCard : Claim7 := { stood := { row := readyDrainsRow, standIns := [], harness := (true, "7e37e602ff75882458ef1778ca86acf3de63ea016f6618eba2f735c6ebd202b3"), looks := false }, kinds := [], alts := [], laidByText := true, laidKinds := [.data], laidTests := true, laidLooks := .later }
def ReadyDrainsCardSaid : Prop := Claim7.holds Tryd.pinned (.plain (OpenSpec.ofChange readyDrainsSpec)) readyDrainsCard

/-- THE SECOND FORM's CARD OF 'remontoirlaw22.ReadyPlays'. -/
def readyPlaysUptoCard : Claim7 := { stood := { row := readyPlaysUptoRow, standIns := [], harness := (true, "7e37e602ff75882458ef1778ca86acf3de63ea016f6618eba2f735c6ebd202b3"), looks := false }, kinds := [], alts := [], laidByText := true, laidKinds := [.data], laidTests := true, laidLooks := .later }
def ReadyPlaysUptoCardSaid : Prop := Claim7.holds Tryd.pinned (.plain (OpenSpec.upto readyPlaysSpec)) readyPlaysUptoCard

/-- THE SECOND FORM's CARD OF 'remontoirlaw22.ReadyDrains'. -/
def readyDrainsUptoCard : Claim7 := { stood := { row := readyDrainsUptoRow, standIns := [], harness := (true, "7e37e602ff75882458ef1778ca86acf3de63ea016f6618eba2f735c6ebd202b3"), looks := false }, kinds := [], alts := [], laidByText := true, laidKinds := [.data], laidTests := true, laidLooks := .later }
def ReadyDrainsUptoCardSaid : Prop := Claim7.holds Tryd.pinned (.plain (OpenSpec.upto readyDrainsSpec)) readyDrainsUptoCard
end Rows
end Go.Proofs.YtimaihdlaaonbaaDoor
