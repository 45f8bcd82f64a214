/-
  No cell of these rows narrows 'for every input' (looked for: loops, veiled, ifaces, maps, wideKeys, modest, calm, conditions, laid).
  DERIVED. THE GIVEN ROWS OF THIS SEAT. 5 by the template 'for every input the law returns true; each argument reads behind the call as it read before'; 0 by the template 'total and deterministic' (their statements: YthpagbfabpfngaaTotals.lean).
  GIVEN WITH THE SEED: the statements are not yours to turn. If you find one false, say at which input.
  Laid BY PROGRAM, IN A SANDBOX (cutbox-rows.mjs): the forced cells as the released guide's own fill.sh prints them over the translation 89b57a7cfd48a22b… (all of the seat's roots in one cut). By AI agents, Wed Nov 11 2026. No macro, syntax, notation, axiom, sorry.
-/
import Derived.Test.YthpagbfabpfngaaChecked
import GoSem.Claim
import GoSem.ClaimJoined
import GoSem.ClaimMapViews
import Derived.JoinedTies
import Derived.KernelRfl
namespace Go.Proofs.Ythpagbfabpfngaa
/- THE CELL 'sum', in the pinned program and in every row, IS THE sha256 OF THE DUMP (.gsa) THAT YthpagbfabpfngaaProg.lean LOADS. Nothing in Lean hashes anything: it is a label: what it is worth is what the hold of that sum in a sandbox is worth. -/
noncomputable def Try.pinned : Pinned := { name := "ythpagbfabpfngaa", sum := "89b57a7cfd48a22b13d9bb10b17f6abfdf6db5f76efc748233f01fe27d8124e0", checked := Try.checked }
namespace Rows
def none {H : Type} : Left H := { results := [], args := [] }

/-- 'remontoirlaw08.BankFits': WHATEVER THE INPUT: true; the input reads as it did. -/
def bankFitsSpec : ChangeSpec := { name := "bankFits", fn := fun _ => fun
  | [d1, d2, d3] => { results := [.lit (.bool true)], args := [d1, d2, d3] }
  | _ => none }
def bankFitsRow : OpenClaim := { program := "ythpagbfabpfngaa", sum := "89b57a7cfd48a22b13d9bb10b17f6abfdf6db5f76efc748233f01fe27d8124e0", func := "remontoir/remontoirlaw08.BankFits", spec := "bankFits", unfollowed := true, recurses := true, apart := false }
def BankFitsSaid : Prop := bankFitsRow.holds Try.pinned (OpenSpec.ofChange bankFitsSpec)

/-- ITS FALSE NEIGHBOUR: 'it returns false'. Refute it at one input. -/
def bankFitsWrong : ChangeSpec := { name := "bankFits", fn := fun _ => fun
  | [d1, d2, d3] => { results := [.lit (.bool false)], args := [d1, d2, d3] }
  | _ => none }
def BankFitsWrongFalsely : Prop := bankFitsRow.holds Try.pinned (OpenSpec.ofChange bankFitsWrong)

/-- 'remontoirlaw08.BankPlays': WHATEVER THE INPUT: true; the input reads as it did. -/
def bankPlaysSpec : ChangeSpec := { name := "bankPlays", fn := fun _ => fun
  | [d] => { results := [.lit (.bool true)], args := [d] }
  | _ => none }
def bankPlaysRow : OpenClaim := { program := "ythpagbfabpfngaa", sum := "89b57a7cfd48a22b13d9bb10b17f6abfdf6db5f76efc748233f01fe27d8124e0", func := "remontoir/remontoirlaw08.BankPlays", spec := "bankPlays", unfollowed := true, recurses := true, apart := false }
def BankPlaysSaid : Prop := bankPlaysRow.holds Try.pinned (OpenSpec.ofChange bankPlaysSpec)

/-- ITS FALSE NEIGHBOUR: 'it returns false'. Refute it at one input. -/
def bankPlaysWrong : ChangeSpec := { name := "bankPlays", fn := fun _ => fun
  | [d] => { results := [.lit (.bool false)], args := [d] }
  | _ => none }
def BankPlaysWrongFalsely : Prop := bankPlaysRow.holds Try.pinned (OpenSpec.ofChange bankPlaysWrong)

/-- 'remontoirlaw08.BankWhole': WHATEVER THE INPUT: true; the input reads as it did. -/
def bankWholeSpec : ChangeSpec := { name := "bankWhole", fn := fun _ => fun
  | [d] => { results := [.lit (.bool true)], args := [d] }
  | _ => none }
def bankWholeRow : OpenClaim := { program := "ythpagbfabpfngaa", sum := "89b57a7cfd48a22b13d9bb10b17f6abfdf6db5f76efc748233f01fe27d8124e0", func := "remontoir/remontoirlaw08.BankWhole", spec := "bankWhole", unfollowed := true, recurses := true, apart := false }
def BankWholeSaid : Prop := bankWholeRow.holds Try.pinned (OpenSpec.ofChange bankWholeSpec)

/-- ITS FALSE NEIGHBOUR: 'it returns false'. Refute it at one input. -/
def bankWholeWrong : ChangeSpec := { name := "bankWhole", fn := fun _ => fun
  | [d] => { results := [.lit (.bool false)], args := [d] }
  | _ => none }
def BankWholeWrongFalsely : Prop := bankWholeRow.holds Try.pinned (OpenSpec.ofChange bankWholeWrong)

/-- 'remontoirlaw27.QueuePlays': WHATEVER THE INPUT: true; the input reads as it did. -/
def queuePlaysSpec : ChangeSpec := { name := "queuePlays", fn := fun _ => fun
  | [d1, d2] => { results := [.lit (.bool true)], args := [d1, d2] }
  | _ => none }
def queuePlaysRow : OpenClaim := { program := "ythpagbfabpfngaa", sum := "89b57a7cfd48a22b13d9bb10b17f6abfdf6db5f76efc748233f01fe27d8124e0", func := "remontoir/remontoirlaw27.QueuePlays", spec := "queuePlays", unfollowed := true, recurses := true, apart := false }
def QueuePlaysSaid : Prop := queuePlaysRow.holds Try.pinned (OpenSpec.ofChange queuePlaysSpec)

/-- ITS FALSE NEIGHBOUR: 'it returns false'. Refute it at one input. -/
def queuePlaysWrong : ChangeSpec := { name := "queuePlays", fn := fun _ => fun
  | [d1, d2] => { results := [.lit (.bool false)], args := [d1, d2] }
  | _ => none }
def QueuePlaysWrongFalsely : Prop := queuePlaysRow.holds Try.pinned (OpenSpec.ofChange queuePlaysWrong)

/-- 'remontoirlaw27.QueueOrder': WHATEVER THE INPUT: true; the input reads as it did. -/
def queueOrderSpec : ChangeSpec := { name := "queueOrder", fn := fun _ => fun
  | [d1, d2] => { results := [.lit (.bool true)], args := [d1, d2] }
  | _ => none }
def queueOrderRow : OpenClaim := { program := "ythpagbfabpfngaa", sum := "89b57a7cfd48a22b13d9bb10b17f6abfdf6db5f76efc748233f01fe27d8124e0", func := "remontoir/remontoirlaw27.QueueOrder", spec := "queueOrder", apart := false }
def QueueOrderSaid : Prop := queueOrderRow.holds Try.pinned (OpenSpec.ofChange queueOrderSpec)

/-- ITS FALSE NEIGHBOUR: 'it returns false'. Refute it at one input. -/
def queueOrderWrong : ChangeSpec := { name := "queueOrder", fn := fun _ => fun
  | [d1, d2] => { results := [.lit (.bool false)], args := [d1, d2] }
  | _ => none }
def QueueOrderWrongFalsely : Prop := queueOrderRow.holds Try.pinned (OpenSpec.ofChange queueOrderWrong)

/- THE SECOND FORM. 'bulk': how many values and letters a reading holds, each counted each time it is reached (what is shared counts as often as it is met; a slice's spare places count too). A statement '..UptoSaid' is the law's where the arguments, and the package variables that the reading takes, are together of bulk at most 1048576: NARROWER than '..Said'. Prove '..Said' where nothing that the law and all that it calls make is longer than what came in: it says more and counts as full. Else prove '..UptoSaid'. A law counts once. -/
mutual
def uptoBulk {H : Type} : DataW H → Nat
  | .lit (.string bytes) => bytes.length + 1
  | .lit _ => 1
  | .nil => 1
  | .ptr d => uptoBulk d + 1
  | .slice elems spare => uptoBulkAll elems + uptoBulkAll spare + 1
  | .agg parts => uptoBulkAll parts + 1
  | .iface _ d => uptoBulk d + 1
  | .map entries => uptoBulkEntries entries + 1
  | .held _ => 1
def uptoBulkAll {H : Type} : List (DataW H) → Nat
  | [] => 0
  | d :: r => uptoBulk d + uptoBulkAll r
def uptoBulkEntries {H : Type} : List (Lit × DataW H) → Nat
  | [] => 0
  | x :: r => uptoBulkEntry x + uptoBulkEntries r
def uptoBulkEntry {H : Type} : Lit × DataW H → Nat
  | (.string bytes, d) => bytes.length + uptoBulk d + 1
  | (_, d) => uptoBulk d + 1
 end
def uptoSmall : (H : Type) → List (DataW H) → Bool := fun _ ds => decide (uptoBulkAll ds ≤ 1048576)
def OpenSpec.upto (s : _root_.Go.ChangeSpec) : _root_.Go.OpenSpec := { _root_.Go.OpenSpec.ofChange s with cond := some uptoSmall }

/-- 'remontoirlaw08.BankFits', WHERE WHAT IT READS IS OF BULK AT MOST 1048576: true; the input reads as it did. -/
def bankFitsUptoRow : OpenClaim := { program := "ythpagbfabpfngaa", sum := "89b57a7cfd48a22b13d9bb10b17f6abfdf6db5f76efc748233f01fe27d8124e0", func := "remontoir/remontoirlaw08.BankFits", spec := "bankFits", unfollowed := true, recurses := true, apart := false, narrowed := true }
def BankFitsUptoSaid : Prop := bankFitsUptoRow.holds Try.pinned (OpenSpec.upto bankFitsSpec)

/-- 'remontoirlaw08.BankPlays', WHERE WHAT IT READS IS OF BULK AT MOST 1048576: true; the input reads as it did. -/
def bankPlaysUptoRow : OpenClaim := { program := "ythpagbfabpfngaa", sum := "89b57a7cfd48a22b13d9bb10b17f6abfdf6db5f76efc748233f01fe27d8124e0", func := "remontoir/remontoirlaw08.BankPlays", spec := "bankPlays", unfollowed := true, recurses := true, apart := false, narrowed := true }
def BankPlaysUptoSaid : Prop := bankPlaysUptoRow.holds Try.pinned (OpenSpec.upto bankPlaysSpec)

/-- 'remontoirlaw08.BankWhole', WHERE WHAT IT READS IS OF BULK AT MOST 1048576: true; the input reads as it did. -/
def bankWholeUptoRow : OpenClaim := { program := "ythpagbfabpfngaa", sum := "89b57a7cfd48a22b13d9bb10b17f6abfdf6db5f76efc748233f01fe27d8124e0", func := "remontoir/remontoirlaw08.BankWhole", spec := "bankWhole", unfollowed := true, recurses := true, apart := false, narrowed := true }
def BankWholeUptoSaid : Prop := bankWholeUptoRow.holds Try.pinned (OpenSpec.upto bankWholeSpec)

/-- 'remontoirlaw27.QueuePlays', WHERE WHAT IT READS IS OF BULK AT MOST 1048576: true; the input reads as it did. -/
def queuePlaysUptoRow : OpenClaim := { program := "ythpagbfabpfngaa", sum := "89b57a7cfd48a22b13d9bb10b17f6abfdf6db5f76efc748233f01fe27d8124e0", func := "remontoir/remontoirlaw27.QueuePlays", spec := "queuePlays", unfollowed := true, recurses := true, apart := false, narrowed := true }
def QueuePlaysUptoSaid : Prop := queuePlaysUptoRow.holds Try.pinned (OpenSpec.upto queuePlaysSpec)

/-- 'remontoirlaw27.QueueOrder', WHERE WHAT IT READS IS OF BULK AT MOST 1048576: true; the input reads as it did. -/
def queueOrderUptoRow : OpenClaim := { program := "ythpagbfabpfngaa", sum := "89b57a7cfd48a22b13d9bb10b17f6abfdf6db5f76efc748233f01fe27d8124e0", func := "remontoir/remontoirlaw27.QueueOrder", spec := "queueOrder", apart := false, narrowed := true }
def QueueOrderUptoSaid : Prop := queueOrderUptoRow.holds Try.pinned (OpenSpec.upto queueOrderSpec)

end Rows
end Go.Proofs.Ythpagbfabpfngaa
