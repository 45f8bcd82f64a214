/-
  No cell of these rows narrows 'for every input' (looked for: loops, veiled, ifaces, maps, wideKeys, modest, calm, conditions, laid).
  DERIVED. THE GIVEN ROWS OF THIS SEAT. 3 by the template 'for every input the law returns true; each argument reads behind the call as it read before'; 0 by the template 'total and deterministic' (their statements: YtnmejabmnapmpaaTotals.lean).
  GIVEN WITH THE SEED: the statements are not yours to turn. If you find one false, say at which input.
  Laid BY PROGRAM, IN A SANDBOX (cutbox-rows.mjs): the forced cells as the released guide's own fill.sh prints them over the translation 1c67b8c53e8fb1a3… (all of the seat's roots in one cut). By AI agents, Wed Nov 11 2026. No macro, syntax, notation, axiom, sorry.
-/
import Derived.Test.YtnmejabmnapmpaaChecked
import GoSem.Claim
import GoSem.ClaimJoined
import GoSem.ClaimMapViews
import Derived.JoinedTies
import Derived.KernelRfl
namespace Go.Proofs.Ytnmejabmnapmpaa
/- THE CELL 'sum', in the pinned program and in every row, IS THE sha256 OF THE DUMP (.gsa) THAT YtnmejabmnapmpaaProg.lean LOADS. Nothing in Lean hashes anything: it is a label: what it is worth is what the hold of that sum in a sandbox is worth. -/
noncomputable def Try.pinned : Pinned := { name := "ytnmejabmnapmpaa", sum := "1c67b8c53e8fb1a319f0a323a84aa9ceef1320f1545f907e5bd13b9021a839ef", checked := Try.checked }
namespace Rows
def none {H : Type} : Left H := { results := [], args := [] }

/-- 'remontoirlaw02.CheckReckons': WHATEVER THE INPUT: true; the input reads as it did. -/
def checkReckonsSpec : ChangeSpec := { name := "checkReckons", fn := fun _ => fun
  | [d1, d2] => { results := [.lit (.bool true)], args := [d1, d2] }
  | _ => none }
def checkReckonsRow : OpenClaim := { program := "ytnmejabmnapmpaa", sum := "1c67b8c53e8fb1a319f0a323a84aa9ceef1320f1545f907e5bd13b9021a839ef", func := "remontoir/remontoirlaw02.CheckReckons", spec := "checkReckons", apart := false }
def CheckReckonsSaid : Prop := checkReckonsRow.holds Try.pinned (OpenSpec.ofChange checkReckonsSpec)

/-- ITS FALSE NEIGHBOUR: 'it returns false'. Refute it at one input. -/
def checkReckonsWrong : ChangeSpec := { name := "checkReckons", fn := fun _ => fun
  | [d1, d2] => { results := [.lit (.bool false)], args := [d1, d2] }
  | _ => none }
def CheckReckonsWrongFalsely : Prop := checkReckonsRow.holds Try.pinned (OpenSpec.ofChange checkReckonsWrong)

/-- 'remontoirlaw02.CheckSums': WHATEVER THE INPUT: true; the input reads as it did. -/
def checkSumsSpec : ChangeSpec := { name := "checkSums", fn := fun _ => fun
  | [d] => { results := [.lit (.bool true)], args := [d] }
  | _ => none }
def checkSumsRow : OpenClaim := { program := "ytnmejabmnapmpaa", sum := "1c67b8c53e8fb1a319f0a323a84aa9ceef1320f1545f907e5bd13b9021a839ef", func := "remontoir/remontoirlaw02.CheckSums", spec := "checkSums", unfollowed := true, recurses := true, apart := false }
def CheckSumsSaid : Prop := checkSumsRow.holds Try.pinned (OpenSpec.ofChange checkSumsSpec)

/-- ITS FALSE NEIGHBOUR: 'it returns false'. Refute it at one input. -/
def checkSumsWrong : ChangeSpec := { name := "checkSums", fn := fun _ => fun
  | [d] => { results := [.lit (.bool false)], args := [d] }
  | _ => none }
def CheckSumsWrongFalsely : Prop := checkSumsRow.holds Try.pinned (OpenSpec.ofChange checkSumsWrong)

/-- 'remontoirlaw02.CheckDivides': WHATEVER THE INPUT: true; the input reads as it did. -/
def checkDividesSpec : ChangeSpec := { name := "checkDivides", fn := fun _ => fun
  | [d1, d2, d3] => { results := [.lit (.bool true)], args := [d1, d2, d3] }
  | _ => none }
def checkDividesRow : OpenClaim := { program := "ytnmejabmnapmpaa", sum := "1c67b8c53e8fb1a319f0a323a84aa9ceef1320f1545f907e5bd13b9021a839ef", func := "remontoir/remontoirlaw02.CheckDivides", spec := "checkDivides", apart := false }
def CheckDividesSaid : Prop := checkDividesRow.holds Try.pinned (OpenSpec.ofChange checkDividesSpec)

/-- ITS FALSE NEIGHBOUR: 'it returns false'. Refute it at one input. -/
def checkDividesWrong : ChangeSpec := { name := "checkDivides", fn := fun _ => fun
  | [d1, d2, d3] => { results := [.lit (.bool false)], args := [d1, d2, d3] }
  | _ => none }
def CheckDividesWrongFalsely : Prop := checkDividesRow.holds Try.pinned (OpenSpec.ofChange checkDividesWrong)

/- THE SECOND FORM. 'bulk': how many values and letters a reading holds, each counted each time it is reached (what is shared counts as often as it is met; a slice's spare places count too). A statement '..UptoSaid' is the law's where the arguments, and the package variables that the reading takes, are together of bulk at most 1048576: NARROWER than '..Said'. Prove '..Said' where nothing that the law and all that it calls make is longer than what came in: it says more and counts as full. Else prove '..UptoSaid'. A law counts once. -/
mutual
def uptoBulk {H : Type} : DataW H → Nat
  | .lit (.string bytes) => bytes.length + 1
  | .lit _ => 1
  | .nil => 1
  | .ptr d => uptoBulk d + 1
  | .slice elems spare => uptoBulkAll elems + uptoBulkAll spare + 1
  | .agg parts => uptoBulkAll parts + 1
  | .iface _ d => uptoBulk d + 1
  | .map entries => uptoBulkEntries entries + 1
  | .held _ => 1
def uptoBulkAll {H : Type} : List (DataW H) → Nat
  | [] => 0
  | d :: r => uptoBulk d + uptoBulkAll r
def uptoBulkEntries {H : Type} : List (Lit × DataW H) → Nat
  | [] => 0
  | x :: r => uptoBulkEntry x + uptoBulkEntries r
def uptoBulkEntry {H : Type} : Lit × DataW H → Nat
  | (.string bytes, d) => bytes.length + uptoBulk d + 1
  | (_, d) => uptoBulk d + 1
 end
def uptoSmall : (H : Type) → List (DataW H) → Bool := fun _ ds => decide (uptoBulkAll ds ≤ 1048576)
def OpenSpec.upto (s : _root_.Go.ChangeSpec) : _root_.Go.OpenSpec := { _root_.Go.OpenSpec.ofChange s with cond := some uptoSmall }

/-- 'remontoirlaw02.CheckReckons', WHERE WHAT IT READS IS OF BULK AT MOST 1048576: true; the input reads as it did. -/
def checkReckonsUptoRow : OpenClaim := { program := "ytnmejabmnapmpaa", sum := "1c67b8c53e8fb1a319f0a323a84aa9ceef1320f1545f907e5bd13b9021a839ef", func := "remontoir/remontoirlaw02.CheckReckons", spec := "checkReckons", apart := false, narrowed := true }
def CheckReckonsUptoSaid : Prop := checkReckonsUptoRow.holds Try.pinned (OpenSpec.upto checkReckonsSpec)

/-- 'remontoirlaw02.CheckSums', WHERE WHAT IT READS IS OF BULK AT MOST 1048576: true; the input reads as it did. -/
def checkSumsUptoRow : OpenClaim := { program := "ytnmejabmnapmpaa", sum := "1c67b8c53e8fb1a319f0a323a84aa9ceef1320f1545f907e5bd13b9021a839ef", func := "remontoir/remontoirlaw02.CheckSums", spec := "checkSums", unfollowed := true, recurses := true, apart := false, narrowed := true }
def CheckSumsUptoSaid : Prop := checkSumsUptoRow.holds Try.pinned (OpenSpec.upto checkSumsSpec)

/-- 'remontoirlaw02.CheckDivides', WHERE WHAT IT READS IS OF BULK AT MOST 1048576: true; the input reads as it did. -/
def checkDividesUptoRow : OpenClaim := { program := "ytnmejabmnapmpaa", sum := "1c67b8c53e8fb1a319f0a323a84aa9ceef1320f1545f907e5bd13b9021a839ef", func := "remontoir/remontoirlaw02.CheckDivides", spec := "checkDivides", apart := false, narrowed := true }
def CheckDividesUptoSaid : Prop := checkDividesUptoRow.holds Try.pinned (OpenSpec.upto checkDividesSpec)

end Rows
end Go.Proofs.Ytnmejabmnapmpaa
