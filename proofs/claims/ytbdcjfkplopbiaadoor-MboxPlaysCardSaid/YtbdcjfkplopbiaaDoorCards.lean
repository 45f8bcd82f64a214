/-
  DERIVED. GIVEN WITH THE SEED: THE CARDS: each row of YtbdcjfkplopbiaaDoorRows.lean that lists a variable, with what it lists TIED to the program's text (the seventh form; the later family's looks); each row that meets fmt, with fmt's text TOLD by the authors' own Lean function (tested against real Go, not proved from fmt's source: count such statements apart). THE CARD IS WHAT COUNTS. Prove the row's statement (the work); the ties are given (YtbdcjfkplopbiaaDoorTie.lean); close each card by the builder's one call (the guide's Derived/Test/ToyasCard.lean, 'card_holds'). Laid BY PROGRAM, IN A SANDBOX (cutbox-door.mjs). By AI agents, Wed Nov 11 2026. No macro, syntax, notation, axiom, sorry.
-/
import Derived.Test.YtbdcjfkplopbiaaDoorRows
import GoSem.ClaimSeven
namespace Go.Proofs.YtbdcjfkplopbiaaDoor
namespace Rows

/-- THE TIED CARD OF 'remontoirlaw51.MboxPlays'. -/
def mboxPlaysCard : Claim7 := { stood := { row := mboxPlaysRow, standIns := [], harness := (true, "e9679ec30b0ad429b6b964712e3f36cb706bdc5a2f44f4764477df4f95b76112"), looks := false }, kinds := [], alts := [], laidByText := true, laidKinds := [.data], laidTests := true, laidLooks := .later }
def MboxPlaysCardSaid : Prop := Claim7.holds Tryd.pinned (.plain (OpenSpec.ofChange mboxPlaysSpec)) mboxPlaysCard

/-- THE TIED CARD OF 'remontoirlaw51.MboxOrder'. -/
def mboxOrderCard : Claim7 := { stood := { row := mboxOrderRow, standIns := [], harness := (true, "e9679ec30b0ad429b6b964712e3f36cb706bdc5a2f44f4764477df4f95b76112"), looks := false }, kinds := [], alts := [], laidByText := true, laidKinds := [.data], laidTests := true, laidLooks := .later }
def MboxOrderCardSaid : Prop := Claim7.holds Tryd.pinned (.plain (OpenSpec.ofChange mboxOrderSpec)) mboxOrderCard

/-- THE SECOND FORM's CARD OF 'remontoirlaw51.MboxPlays'. -/
def mboxPlaysUptoCard : Claim7 := { stood := { row := mboxPlaysUptoRow, standIns := [], harness := (true, "e9679ec30b0ad429b6b964712e3f36cb706bdc5a2f44f4764477df4f95b76112"), looks := false }, kinds := [], alts := [], laidByText := true, laidKinds := [.data], laidTests := true, laidLooks := .later }
def MboxPlaysUptoCardSaid : Prop := Claim7.holds Tryd.pinned (.plain (OpenSpec.upto mboxPlaysSpec)) mboxPlaysUptoCard

/-- THE SECOND FORM's CARD OF 'remontoirlaw51.MboxOrder'. -/
def mboxOrderUptoCard : Claim7 := { stood := { row := mboxOrderUptoRow, standIns := [], harness := (true, "e9679ec30b0ad429b6b964712e3f36cb706bdc5a2f44f4764477df4f95b76112"), looks := false }, kinds := [], alts := [], laidByText := true, laidKinds := [.data], laidTests := true, laidLooks := .later }
def MboxOrderUptoCardSaid : Prop := Claim7.holds Tryd.pinned (.plain (OpenSpec.upto mboxOrderSpec)) mboxOrderUptoCard
end Rows
end Go.Proofs.YtbdcjfkplopbiaaDoor
