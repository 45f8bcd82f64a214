/-
  DERIVED. GIVEN WITH THE SEED: THE CARDS: each row of YtjgbbgemoobjjaaDoorRows.lean that lists a variable, with what it lists TIED to the program's text (the seventh form; the later family's looks); each row that meets fmt, with fmt's text TOLD by the authors' own Lean function (tested against real Go, not proved from fmt's source: count such statements apart). THE CARD IS WHAT COUNTS. Prove the row's statement (the work); the ties are given (YtjgbbgemoobjjaaDoorTie.lean); close each card by the builder's one call (the guide's Derived/Test/ToyasCard.lean, 'card_holds'). Laid BY PROGRAM, IN A SANDBOX (cutbox-door.mjs). By AI agents, Wed Nov 11 2026. No macro, syntax, notation, axiom, sorry.
-/
import Derived.Test.YtjgbbgemoobjjaaDoorRows
import GoSem.ClaimSeven
namespace Go.Proofs.YtjgbbgemoobjjaaDoor
namespace Rows

/-- THE TIED CARD OF 'remontoirlaw40.StatAdds'. -/
def statAddsCard : Claim7 := { stood := { row := statAddsRow, standIns := [], harness := (true, "bb6f940f4edf47a642b8099b650bc3a8a84599644c14fdff0300b69a66f934f4"), looks := false }, kinds := [], alts := [], laidByText := true, laidKinds := [.data, .data, .data], laidTests := true, laidLooks := .later }
def StatAddsCardSaid : Prop := Claim7.holds Tryd.pinned (.plain (OpenSpec.ofChange statAddsSpec)) statAddsCard

/-- THE TIED CARD OF 'remontoirlaw40.StatTells'. -/
def statTellsCard : Claim7 := { stood := { row := statTellsRow, standIns := [], harness := (true, "bb6f940f4edf47a642b8099b650bc3a8a84599644c14fdff0300b69a66f934f4"), looks := false }, kinds := [], alts := [], laidByText := true, laidKinds := [.data, .data, .data], laidTests := true, laidLooks := .later }
def StatTellsCardSaid : Prop := Claim7.holds Tryd.pinned (.plain (OpenSpec.ofChange statTellsSpec)) statTellsCard

/-- THE TIED CARD OF 'remontoirlaw52.SemaPlays'. -/
def semaPlaysCard : Claim7 := { stood := { row := semaPlaysRow, standIns := [], harness := (true, "bb6f940f4edf47a642b8099b650bc3a8a84599644c14fdff0300b69a66f934f4"), looks := false }, kinds := [], alts := [], laidByText := true, laidKinds := [.data], laidTests := true, laidLooks := .later }
def SemaPlaysCardSaid : Prop := Claim7.holds Tryd.pinned (.plain (OpenSpec.ofChange semaPlaysSpec)) semaPlaysCard

/-- THE SECOND FORM's CARD OF 'remontoirlaw40.StatAdds'. -/
def statAddsUptoCard : Claim7 := { stood := { row := statAddsUptoRow, standIns := [], harness := (true, "bb6f940f4edf47a642b8099b650bc3a8a84599644c14fdff0300b69a66f934f4"), looks := false }, kinds := [], alts := [], laidByText := true, laidKinds := [.data, .data, .data], laidTests := true, laidLooks := .later }
def StatAddsUptoCardSaid : Prop := Claim7.holds Tryd.pinned (.plain (OpenSpec.upto statAddsSpec)) statAddsUptoCard

/-- THE SECOND FORM's CARD OF 'remontoirlaw40.StatTells'. -/
def statTellsUptoCard : Claim7 := { stood := { row := statTellsUptoRow, standIns := [], harness := (true, "bb6f940f4edf47a642b8099b650bc3a8a84599644c14fdff0300b69a66f934f4"), looks := false }, kinds := [], alts := [], laidByText := true, laidKinds := [.data, .data, .data], laidTests := true, laidLooks := .later }
def StatTellsUptoCardSaid : Prop := Claim7.holds Tryd.pinned (.plain (OpenSpec.upto statTellsSpec)) statTellsUptoCard

/-- THE SECOND FORM's CARD OF 'remontoirlaw52.SemaPlays'. -/
def semaPlaysUptoCard : Claim7 := { stood := { row := semaPlaysUptoRow, standIns := [], harness := (true, "bb6f940f4edf47a642b8099b650bc3a8a84599644c14fdff0300b69a66f934f4"), looks := false }, kinds := [], alts := [], laidByText := true, laidKinds := [.data], laidTests := true, laidLooks := .later }
def SemaPlaysUptoCardSaid : Prop := Claim7.holds Tryd.pinned (.plain (OpenSpec.upto semaPlaysSpec)) semaPlaysUptoCard
end Rows
end Go.Proofs.YtjgbbgemoobjjaaDoor
