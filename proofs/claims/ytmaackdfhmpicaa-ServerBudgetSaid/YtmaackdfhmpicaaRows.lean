/-
  No cell of these rows narrows 'for every input' (looked for: loops, veiled, ifaces, maps, wideKeys, modest, calm, conditions, laid).
  DERIVED. THE GIVEN ROWS OF THIS SEAT. 6 by the template 'for every input the law returns true; each argument reads behind the call as it read before'; 0 by the template 'total and deterministic' (their statements: YtmaackdfhmpicaaTotals.lean).
  GIVEN WITH THE SEED: the statements are not yours to turn. If you find one false, say at which input.
  Laid BY PROGRAM, IN A SANDBOX (cutbox-rows.mjs): the forced cells as the released guide's own fill.sh prints them over the translation 3737bfdeb81bd944… (all of the seat's roots in one cut). By AI agents, Wed Nov 11 2026. No macro, syntax, notation, axiom, sorry.
-/
import Derived.Test.YtmaackdfhmpicaaChecked
import GoSem.Claim
import GoSem.ClaimJoined
import GoSem.ClaimMapViews
import Derived.JoinedTies
import Derived.KernelRfl
namespace Go.Proofs.Ytmaackdfhmpicaa
/- THE CELL 'sum', in the pinned program and in every row, IS THE sha256 OF THE DUMP (.gsa) THAT YtmaackdfhmpicaaProg.lean LOADS. Nothing in Lean hashes anything: it is a label: what it is worth is what the hold of that sum in a sandbox is worth. -/
noncomputable def Try.pinned : Pinned := { name := "ytmaackdfhmpicaa", sum := "3737bfdeb81bd9446d53cc82388e0930e64d823d573dc84dffe266a064e1512c", checked := Try.checked }
namespace Rows
def none {H : Type} : Left H := { results := [], args := [] }

/-- 'remontoirlaw38.OpaOrders': WHATEVER THE INPUT: true; the input reads as it did. -/
def opaOrdersSpec : ChangeSpec := { name := "opaOrders", fn := fun _ => fun
  | [d] => { results := [.lit (.bool true)], args := [d] }
  | _ => none }
def opaOrdersRow : OpenClaim := { program := "ytmaackdfhmpicaa", sum := "3737bfdeb81bd9446d53cc82388e0930e64d823d573dc84dffe266a064e1512c", func := "remontoir/remontoirlaw38.OpaOrders", spec := "opaOrders", unfollowed := true, recurses := true, apart := false }
def OpaOrdersSaid : Prop := opaOrdersRow.holds Try.pinned (OpenSpec.ofChange opaOrdersSpec)

/-- ITS FALSE NEIGHBOUR: 'it returns false'. Refute it at one input. -/
def opaOrdersWrong : ChangeSpec := { name := "opaOrders", fn := fun _ => fun
  | [d] => { results := [.lit (.bool false)], args := [d] }
  | _ => none }
def OpaOrdersWrongFalsely : Prop := opaOrdersRow.holds Try.pinned (OpenSpec.ofChange opaOrdersWrong)

/-- 'remontoirlaw38.OpaBest': WHATEVER THE INPUT: true; the input reads as it did. -/
def opaBestSpec : ChangeSpec := { name := "opaBest", fn := fun _ => fun
  | [d] => { results := [.lit (.bool true)], args := [d] }
  | _ => none }
def opaBestRow : OpenClaim := { program := "ytmaackdfhmpicaa", sum := "3737bfdeb81bd9446d53cc82388e0930e64d823d573dc84dffe266a064e1512c", func := "remontoir/remontoirlaw38.OpaBest", spec := "opaBest", unfollowed := true, recurses := true, apart := false }
def OpaBestSaid : Prop := opaBestRow.holds Try.pinned (OpenSpec.ofChange opaBestSpec)

/-- ITS FALSE NEIGHBOUR: 'it returns false'. Refute it at one input. -/
def opaBestWrong : ChangeSpec := { name := "opaBest", fn := fun _ => fun
  | [d] => { results := [.lit (.bool false)], args := [d] }
  | _ => none }
def OpaBestWrongFalsely : Prop := opaBestRow.holds Try.pinned (OpenSpec.ofChange opaBestWrong)

/-- 'remontoirlaw56.ServerGets': WHATEVER THE INPUT: true; the input reads as it did. -/
def serverGetsSpec : ChangeSpec := { name := "serverGets", fn := fun _ => fun
  | [d1, d2, d3] => { results := [.lit (.bool true)], args := [d1, d2, d3] }
  | _ => none }
def serverGetsRow : OpenClaim := { program := "ytmaackdfhmpicaa", sum := "3737bfdeb81bd9446d53cc82388e0930e64d823d573dc84dffe266a064e1512c", func := "remontoir/remontoirlaw56.ServerGets", spec := "serverGets", apart := false }
def ServerGetsSaid : Prop := serverGetsRow.holds Try.pinned (OpenSpec.ofChange serverGetsSpec)

/-- ITS FALSE NEIGHBOUR: 'it returns false'. Refute it at one input. -/
def serverGetsWrong : ChangeSpec := { name := "serverGets", fn := fun _ => fun
  | [d1, d2, d3] => { results := [.lit (.bool false)], args := [d1, d2, d3] }
  | _ => none }
def ServerGetsWrongFalsely : Prop := serverGetsRow.holds Try.pinned (OpenSpec.ofChange serverGetsWrong)

/-- 'remontoirlaw56.ServerTurns': WHATEVER THE INPUT: true; the input reads as it did. -/
def serverTurnsSpec : ChangeSpec := { name := "serverTurns", fn := fun _ => fun
  | [d1, d2] => { results := [.lit (.bool true)], args := [d1, d2] }
  | _ => none }
def serverTurnsRow : OpenClaim := { program := "ytmaackdfhmpicaa", sum := "3737bfdeb81bd9446d53cc82388e0930e64d823d573dc84dffe266a064e1512c", func := "remontoir/remontoirlaw56.ServerTurns", spec := "serverTurns", apart := false }
def ServerTurnsSaid : Prop := serverTurnsRow.holds Try.pinned (OpenSpec.ofChange serverTurnsSpec)

/-- ITS FALSE NEIGHBOUR: 'it returns false'. Refute it at one input. -/
def serverTurnsWrong : ChangeSpec := { name := "serverTurns", fn := fun _ => fun
  | [d1, d2] => { results := [.lit (.bool false)], args := [d1, d2] }
  | _ => none }
def ServerTurnsWrongFalsely : Prop := serverTurnsRow.holds Try.pinned (OpenSpec.ofChange serverTurnsWrong)

/-- 'remontoirlaw56.ServerFits': WHATEVER THE INPUT: true; the input reads as it did. -/
def serverFitsSpec : ChangeSpec := { name := "serverFits", fn := fun _ => fun
  | [d1, d2] => { results := [.lit (.bool true)], args := [d1, d2] }
  | _ => none }
def serverFitsRow : OpenClaim := { program := "ytmaackdfhmpicaa", sum := "3737bfdeb81bd9446d53cc82388e0930e64d823d573dc84dffe266a064e1512c", func := "remontoir/remontoirlaw56.ServerFits", spec := "serverFits", unfollowed := true, recurses := true, apart := false }
def ServerFitsSaid : Prop := serverFitsRow.holds Try.pinned (OpenSpec.ofChange serverFitsSpec)

/-- ITS FALSE NEIGHBOUR: 'it returns false'. Refute it at one input. -/
def serverFitsWrong : ChangeSpec := { name := "serverFits", fn := fun _ => fun
  | [d1, d2] => { results := [.lit (.bool false)], args := [d1, d2] }
  | _ => none }
def ServerFitsWrongFalsely : Prop := serverFitsRow.holds Try.pinned (OpenSpec.ofChange serverFitsWrong)

/-- 'remontoirlaw56.ServerBudget': WHATEVER THE INPUT: true; the input reads as it did. -/
def serverBudgetSpec : ChangeSpec := { name := "serverBudget", fn := fun _ => fun
  | [d1, d2] => { results := [.lit (.bool true)], args := [d1, d2] }
  | _ => none }
def serverBudgetRow : OpenClaim := { program := "ytmaackdfhmpicaa", sum := "3737bfdeb81bd9446d53cc82388e0930e64d823d573dc84dffe266a064e1512c", func := "remontoir/remontoirlaw56.ServerBudget", spec := "serverBudget", unfollowed := true, recurses := true, apart := false }
def ServerBudgetSaid : Prop := serverBudgetRow.holds Try.pinned (OpenSpec.ofChange serverBudgetSpec)

/-- ITS FALSE NEIGHBOUR: 'it returns false'. Refute it at one input. -/
def serverBudgetWrong : ChangeSpec := { name := "serverBudget", fn := fun _ => fun
  | [d1, d2] => { results := [.lit (.bool false)], args := [d1, d2] }
  | _ => none }
def ServerBudgetWrongFalsely : Prop := serverBudgetRow.holds Try.pinned (OpenSpec.ofChange serverBudgetWrong)

/- THE SECOND FORM. 'bulk': how many values and letters a reading holds, each counted each time it is reached (what is shared counts as often as it is met; a slice's spare places count too). A statement '..UptoSaid' is the law's where the arguments, and the package variables that the reading takes, are together of bulk at most 1048576: NARROWER than '..Said'. Prove '..Said' where nothing that the law and all that it calls make is longer than what came in: it says more and counts as full. Else prove '..UptoSaid'. A law counts once. -/
mutual
def uptoBulk {H : Type} : DataW H → Nat
  | .lit (.string bytes) => bytes.length + 1
  | .lit _ => 1
  | .nil => 1
  | .ptr d => uptoBulk d + 1
  | .slice elems spare => uptoBulkAll elems + uptoBulkAll spare + 1
  | .agg parts => uptoBulkAll parts + 1
  | .iface _ d => uptoBulk d + 1
  | .map entries => uptoBulkEntries entries + 1
  | .held _ => 1
def uptoBulkAll {H : Type} : List (DataW H) → Nat
  | [] => 0
  | d :: r => uptoBulk d + uptoBulkAll r
def uptoBulkEntries {H : Type} : List (Lit × DataW H) → Nat
  | [] => 0
  | x :: r => uptoBulkEntry x + uptoBulkEntries r
def uptoBulkEntry {H : Type} : Lit × DataW H → Nat
  | (.string bytes, d) => bytes.length + uptoBulk d + 1
  | (_, d) => uptoBulk d + 1
 end
def uptoSmall : (H : Type) → List (DataW H) → Bool := fun _ ds => decide (uptoBulkAll ds ≤ 1048576)
def OpenSpec.upto (s : _root_.Go.ChangeSpec) : _root_.Go.OpenSpec := { _root_.Go.OpenSpec.ofChange s with cond := some uptoSmall }

/-- 'remontoirlaw38.OpaOrders', WHERE WHAT IT READS IS OF BULK AT MOST 1048576: true; the input reads as it did. -/
def opaOrdersUptoRow : OpenClaim := { program := "ytmaackdfhmpicaa", sum := "3737bfdeb81bd9446d53cc82388e0930e64d823d573dc84dffe266a064e1512c", func := "remontoir/remontoirlaw38.OpaOrders", spec := "opaOrders", unfollowed := true, recurses := true, apart := false, narrowed := true }
def OpaOrdersUptoSaid : Prop := opaOrdersUptoRow.holds Try.pinned (OpenSpec.upto opaOrdersSpec)

/-- 'remontoirlaw38.OpaBest', WHERE WHAT IT READS IS OF BULK AT MOST 1048576: true; the input reads as it did. -/
def opaBestUptoRow : OpenClaim := { program := "ytmaackdfhmpicaa", sum := "3737bfdeb81bd9446d53cc82388e0930e64d823d573dc84dffe266a064e1512c", func := "remontoir/remontoirlaw38.OpaBest", spec := "opaBest", unfollowed := true, recurses := true, apart := false, narrowed := true }
def OpaBestUptoSaid : Prop := opaBestUptoRow.holds Try.pinned (OpenSpec.upto opaBestSpec)

/-- 'remontoirlaw56.ServerGets', WHERE WHAT IT READS IS OF BULK AT MOST 1048576: true; the input reads as it did. -/
def serverGetsUptoRow : OpenClaim := { program := "ytmaackdfhmpicaa", sum := "3737bfdeb81bd9446d53cc82388e0930e64d823d573dc84dffe266a064e1512c", func := "remontoir/remontoirlaw56.ServerGets", spec := "serverGets", apart := false, narrowed := true }
def ServerGetsUptoSaid : Prop := serverGetsUptoRow.holds Try.pinned (OpenSpec.upto serverGetsSpec)

/-- 'remontoirlaw56.ServerTurns', WHERE WHAT IT READS IS OF BULK AT MOST 1048576: true; the input reads as it did. -/
def serverTurnsUptoRow : OpenClaim := { program := "ytmaackdfhmpicaa", sum := "3737bfdeb81bd9446d53cc82388e0930e64d823d573dc84dffe266a064e1512c", func := "remontoir/remontoirlaw56.ServerTurns", spec := "serverTurns", apart := false, narrowed := true }
def ServerTurnsUptoSaid : Prop := serverTurnsUptoRow.holds Try.pinned (OpenSpec.upto serverTurnsSpec)

/-- 'remontoirlaw56.ServerFits', WHERE WHAT IT READS IS OF BULK AT MOST 1048576: true; the input reads as it did. -/
def serverFitsUptoRow : OpenClaim := { program := "ytmaackdfhmpicaa", sum := "3737bfdeb81bd9446d53cc82388e0930e64d823d573dc84dffe266a064e1512c", func := "remontoir/remontoirlaw56.ServerFits", spec := "serverFits", unfollowed := true, recurses := true, apart := false, narrowed := true }
def ServerFitsUptoSaid : Prop := serverFitsUptoRow.holds Try.pinned (OpenSpec.upto serverFitsSpec)

/-- 'remontoirlaw56.ServerBudget', WHERE WHAT IT READS IS OF BULK AT MOST 1048576: true; the input reads as it did. -/
def serverBudgetUptoRow : OpenClaim := { program := "ytmaackdfhmpicaa", sum := "3737bfdeb81bd9446d53cc82388e0930e64d823d573dc84dffe266a064e1512c", func := "remontoir/remontoirlaw56.ServerBudget", spec := "serverBudget", unfollowed := true, recurses := true, apart := false, narrowed := true }
def ServerBudgetUptoSaid : Prop := serverBudgetUptoRow.holds Try.pinned (OpenSpec.upto serverBudgetSpec)

end Rows
end Go.Proofs.Ytmaackdfhmpicaa
