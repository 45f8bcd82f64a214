/-
  DERIVED. GIVEN WITH THE SEED: THE CARDS: each row of YtomdcmdgcnhnmaaDoorRows.lean that lists a variable, with what it lists TIED to the program's text (the seventh form; the later family's looks); each row that meets fmt, with fmt's text TOLD by the authors' own Lean function (tested against real Go, not proved from fmt's source: count such statements apart). THE CARD IS WHAT COUNTS. Prove the row's statement (the work); the ties are given (YtomdcmdgcnhnmaaDoorTie.lean); close each card by the builder's one call (the guide's Derived/Test/ToyasCard.lean, 'card_holds'). Laid BY PROGRAM, IN A SANDBOX (cutbox-door.mjs). By AI agents, Wed Nov 11 2026. No macro, syntax, notation, axiom, sorry.
-/
import Derived.Test.YtomdcmdgcnhnmaaDoorRows
import GoSem.ClaimSeven
namespace Go.Proofs.YtomdcmdgcnhnmaaDoor
namespace Rows

/-- THE TIED CARD OF 'remontoirlaw15.CeilTells'. -/
def ceilTellsCard : Claim7 := { stood := { row := ceilTellsRow, standIns := [], harness := (true, "73a4dc3e2be427e645a9e70b1882c6b02890c5dfa0813eec056da1b5241305be"), looks := false }, kinds := [], alts := [], laidByText := true, laidKinds := [.data], laidTests := true, laidLooks := .later }
def CeilTellsCardSaid : Prop := Claim7.holds Tryd.pinned (.plain (OpenSpec.ofChange ceilTellsSpec)) ceilTellsCard

/-- THE TIED CARD OF 'remontoirlaw15.CeilJoins'. -/
def ceilJoinsCard : Claim7 := { stood := { row := ceilJoinsRow, standIns := [], harness := (true, "73a4dc3e2be427e645a9e70b1882c6b02890c5dfa0813eec056da1b5241305be"), looks := false }, kinds := [], alts := [], laidByText := true, laidKinds := [.data], laidTests := true, laidLooks := .later }
def CeilJoinsCardSaid : Prop := Claim7.holds Tryd.pinned (.plain (OpenSpec.ofChange ceilJoinsSpec)) ceilJoinsCard

/-- THE SECOND FORM's CARD OF 'remontoirlaw15.CeilTells'. -/
def ceilTellsUptoCard : Claim7 := { stood := { row := ceilTellsUptoRow, standIns := [], harness := (true, "73a4dc3e2be427e645a9e70b1882c6b02890c5dfa0813eec056da1b5241305be"), looks := false }, kinds := [], alts := [], laidByText := true, laidKinds := [.data], laidTests := true, laidLooks := .later }
def CeilTellsUptoCardSaid : Prop := Claim7.holds Tryd.pinned (.plain (OpenSpec.upto ceilTellsSpec)) ceilTellsUptoCard

/-- THE SECOND FORM's CARD OF 'remontoirlaw15.CeilJoins'. -/
def ceilJoinsUptoCard : Claim7 := { stood := { row := ceilJoinsUptoRow, standIns := [], harness := (true, "73a4dc3e2be427e645a9e70b1882c6b02890c5dfa0813eec056da1b5241305be"), looks := false }, kinds := [], alts := [], laidByText := true, laidKinds := [.data], laidTests := true, laidLooks := .later }
def CeilJoinsUptoCardSaid : Prop := Claim7.holds Tryd.pinned (.plain (OpenSpec.upto ceilJoinsSpec)) ceilJoinsUptoCard
end Rows
end Go.Proofs.YtomdcmdgcnhnmaaDoor
