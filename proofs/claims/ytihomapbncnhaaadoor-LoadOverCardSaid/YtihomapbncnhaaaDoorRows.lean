/-
  NARROWER THAN 'FOR EVERY INPUT', by the rows' own cells (each row's printed sentence says how): WindowTells: laid · WindowShrinks: laid · LoadRounds: laid · LoadExact: laid · LoadLess: laid · LoadOver: laid.
  DERIVED. THE GIVEN ROWS OF THIS SEAT. 6 by the template 'for every input the law returns true; each argument reads behind the call as it read before'; 0 by the template 'total and deterministic' (their statements: YtihomapbncnhaaaDoorTotals.lean).
  GIVEN WITH THE SEED: the statements are not yours to turn. If you find one false, say at which input.
  Laid BY PROGRAM, IN A SANDBOX (cutbox-rows.mjs): the forced cells as the released guide's own fill.sh prints them over the translation 0ff1b6be4a2024a9… (all of the seat's roots in one cut). By AI agents, Wed Nov 11 2026. No macro, syntax, notation, axiom, sorry.
-/
import Derived.Test.YtihomapbncnhaaaDoorChecked
import GoSem.Claim
import GoSem.ClaimJoined
import GoSem.ClaimMapViews
import Derived.JoinedTies
import Derived.KernelRfl
namespace Go.Proofs.YtihomapbncnhaaaDoor
/- THE CELL 'sum', in the pinned program and in every row, IS THE sha256 OF THE DUMP (.gsa) THAT YtihomapbncnhaaaDoorProg.lean LOADS. Nothing in Lean hashes anything: it is a label: what it is worth is what the hold of that sum in a sandbox is worth. -/
noncomputable def Tryd.pinned : Pinned := { name := "ytihomapbncnhaaadoor", sum := "0ff1b6be4a2024a9759ed396c3a539ff1f17b40dd6494334c38c35e62650df5a", checked := Tryd.checked }
namespace Rows
def none {H : Type} : Left H := { results := [], args := [] }

/- WHAT THE LISTED PACKAGE-LEVEL VARIABLES READ AS WHEN THE CALL BEGINS. Each datum BY PROGRAM (the guide's laid-datum.mjs) off the statement by which the dump's own 'gosem.cut.vars' lays the variable. In a bare row this is a premise. The card (YtihomapbncnhaaaDoorCards.lean) ties it to the program's text. -/
def laid_math_bits_deBruijn32tab {H : Type} : DataW H := .agg [.lit (.int .u8 0), .lit (.int .u8 1), .lit (.int .u8 28), .lit (.int .u8 2), .lit (.int .u8 29), .lit (.int .u8 14), .lit (.int .u8 24), .lit (.int .u8 3), .lit (.int .u8 30), .lit (.int .u8 22), .lit (.int .u8 20), .lit (.int .u8 15), .lit (.int .u8 25), .lit (.int .u8 17), .lit (.int .u8 4), .lit (.int .u8 8), .lit (.int .u8 31), .lit (.int .u8 27), .lit (.int .u8 13), .lit (.int .u8 23), .lit (.int .u8 21), .lit (.int .u8 19), .lit (.int .u8 16), .lit (.int .u8 7), .lit (.int .u8 26), .lit (.int .u8 12), .lit (.int .u8 18), .lit (.int .u8 6), .lit (.int .u8 11), .lit (.int .u8 5), .lit (.int .u8 10), .lit (.int .u8 9)]

/-- 'remontoirlaw19.WindowTells': WHATEVER THE INPUT: true; the input reads as it did. -/
def windowTellsSpec : ChangeSpec := { name := "windowTells", fn := fun _ => fun
  | [d1, d2, d3] => { results := [.lit (.bool true)], args := [d1, d2, d3] }
  | _ => none }
def windowTellsRow : OpenClaim := { program := "ytihomapbncnhaaadoor", sum := "0ff1b6be4a2024a9759ed396c3a539ff1f17b40dd6494334c38c35e62650df5a", func := "remontoir/remontoirlaw19.WindowTells", spec := "windowTells", unfollowed := true, recurses := true, named := ["math/bits.deBruijn32tab"], apart := false, laid := [("math/bits.deBruijn32tab", laid_math_bits_deBruijn32tab)] }
def WindowTellsSaid : Prop := windowTellsRow.holds Tryd.pinned (OpenSpec.ofChange windowTellsSpec)

/-- ITS FALSE NEIGHBOUR: 'it returns false'. Refute it at one input. -/
def windowTellsWrong : ChangeSpec := { name := "windowTells", fn := fun _ => fun
  | [d1, d2, d3] => { results := [.lit (.bool false)], args := [d1, d2, d3] }
  | _ => none }
def WindowTellsWrongFalsely : Prop := windowTellsRow.holds Tryd.pinned (OpenSpec.ofChange windowTellsWrong)

/-- 'remontoirlaw19.WindowShrinks': WHATEVER THE INPUT: true; the input reads as it did. -/
def windowShrinksSpec : ChangeSpec := { name := "windowShrinks", fn := fun _ => fun
  | [d1, d2, d3] => { results := [.lit (.bool true)], args := [d1, d2, d3] }
  | _ => none }
def windowShrinksRow : OpenClaim := { program := "ytihomapbncnhaaadoor", sum := "0ff1b6be4a2024a9759ed396c3a539ff1f17b40dd6494334c38c35e62650df5a", func := "remontoir/remontoirlaw19.WindowShrinks", spec := "windowShrinks", unfollowed := true, recurses := true, named := ["math/bits.deBruijn32tab"], apart := false, laid := [("math/bits.deBruijn32tab", laid_math_bits_deBruijn32tab)] }
def WindowShrinksSaid : Prop := windowShrinksRow.holds Tryd.pinned (OpenSpec.ofChange windowShrinksSpec)

/-- ITS FALSE NEIGHBOUR: 'it returns false'. Refute it at one input. -/
def windowShrinksWrong : ChangeSpec := { name := "windowShrinks", fn := fun _ => fun
  | [d1, d2, d3] => { results := [.lit (.bool false)], args := [d1, d2, d3] }
  | _ => none }
def WindowShrinksWrongFalsely : Prop := windowShrinksRow.holds Tryd.pinned (OpenSpec.ofChange windowShrinksWrong)

/-- 'remontoirlaw37.LoadRounds': WHATEVER THE INPUT: true; the input reads as it did. -/
def loadRoundsSpec : ChangeSpec := { name := "loadRounds", fn := fun _ => fun
  | [d1, d2] => { results := [.lit (.bool true)], args := [d1, d2] }
  | _ => none }
def loadRoundsRow : OpenClaim := { program := "ytihomapbncnhaaadoor", sum := "0ff1b6be4a2024a9759ed396c3a539ff1f17b40dd6494334c38c35e62650df5a", func := "remontoir/remontoirlaw37.LoadRounds", spec := "loadRounds", unfollowed := true, recurses := true, named := ["math/bits.deBruijn32tab"], apart := false, laid := [("math/bits.deBruijn32tab", laid_math_bits_deBruijn32tab)] }
def LoadRoundsSaid : Prop := loadRoundsRow.holds Tryd.pinned (OpenSpec.ofChange loadRoundsSpec)

/-- ITS FALSE NEIGHBOUR: 'it returns false'. Refute it at one input. -/
def loadRoundsWrong : ChangeSpec := { name := "loadRounds", fn := fun _ => fun
  | [d1, d2] => { results := [.lit (.bool false)], args := [d1, d2] }
  | _ => none }
def LoadRoundsWrongFalsely : Prop := loadRoundsRow.holds Tryd.pinned (OpenSpec.ofChange loadRoundsWrong)

/-- 'remontoirlaw37.LoadExact': WHATEVER THE INPUT: true; the input reads as it did. -/
def loadExactSpec : ChangeSpec := { name := "loadExact", fn := fun _ => fun
  | [d1, d2] => { results := [.lit (.bool true)], args := [d1, d2] }
  | _ => none }
def loadExactRow : OpenClaim := { program := "ytihomapbncnhaaadoor", sum := "0ff1b6be4a2024a9759ed396c3a539ff1f17b40dd6494334c38c35e62650df5a", func := "remontoir/remontoirlaw37.LoadExact", spec := "loadExact", unfollowed := true, recurses := true, named := ["math/bits.deBruijn32tab"], apart := false, laid := [("math/bits.deBruijn32tab", laid_math_bits_deBruijn32tab)] }
def LoadExactSaid : Prop := loadExactRow.holds Tryd.pinned (OpenSpec.ofChange loadExactSpec)

/-- ITS FALSE NEIGHBOUR: 'it returns false'. Refute it at one input. -/
def loadExactWrong : ChangeSpec := { name := "loadExact", fn := fun _ => fun
  | [d1, d2] => { results := [.lit (.bool false)], args := [d1, d2] }
  | _ => none }
def LoadExactWrongFalsely : Prop := loadExactRow.holds Tryd.pinned (OpenSpec.ofChange loadExactWrong)

/-- 'remontoirlaw37.LoadLess': WHATEVER THE INPUT: true; the input reads as it did. -/
def loadLessSpec : ChangeSpec := { name := "loadLess", fn := fun _ => fun
  | [d1, d2] => { results := [.lit (.bool true)], args := [d1, d2] }
  | _ => none }
def loadLessRow : OpenClaim := { program := "ytihomapbncnhaaadoor", sum := "0ff1b6be4a2024a9759ed396c3a539ff1f17b40dd6494334c38c35e62650df5a", func := "remontoir/remontoirlaw37.LoadLess", spec := "loadLess", unfollowed := true, recurses := true, named := ["math/bits.deBruijn32tab"], apart := false, laid := [("math/bits.deBruijn32tab", laid_math_bits_deBruijn32tab)] }
def LoadLessSaid : Prop := loadLessRow.holds Tryd.pinned (OpenSpec.ofChange loadLessSpec)

/-- ITS FALSE NEIGHBOUR: 'it returns false'. Refute it at one input. -/
def loadLessWrong : ChangeSpec := { name := "loadLess", fn := fun _ => fun
  | [d1, d2] => { results := [.lit (.bool false)], args := [d1, d2] }
  | _ => none }
def LoadLessWrongFalsely : Prop := loadLessRow.holds Tryd.pinned (OpenSpec.ofChange loadLessWrong)

/-- 'remontoirlaw37.LoadOver': WHATEVER THE INPUT: true; the input reads as it did. -/
def loadOverSpec : ChangeSpec := { name := "loadOver", fn := fun _ => fun
  | [d1, d2] => { results := [.lit (.bool true)], args := [d1, d2] }
  | _ => none }
def loadOverRow : OpenClaim := { program := "ytihomapbncnhaaadoor", sum := "0ff1b6be4a2024a9759ed396c3a539ff1f17b40dd6494334c38c35e62650df5a", func := "remontoir/remontoirlaw37.LoadOver", spec := "loadOver", unfollowed := true, recurses := true, named := ["math/bits.deBruijn32tab"], apart := false, laid := [("math/bits.deBruijn32tab", laid_math_bits_deBruijn32tab)] }
def LoadOverSaid : Prop := loadOverRow.holds Tryd.pinned (OpenSpec.ofChange loadOverSpec)

/-- ITS FALSE NEIGHBOUR: 'it returns false'. Refute it at one input. -/
def loadOverWrong : ChangeSpec := { name := "loadOver", fn := fun _ => fun
  | [d1, d2] => { results := [.lit (.bool false)], args := [d1, d2] }
  | _ => none }
def LoadOverWrongFalsely : Prop := loadOverRow.holds Tryd.pinned (OpenSpec.ofChange loadOverWrong)

/- THE SECOND FORM. 'bulk': how many values and letters a reading holds, each counted each time it is reached (what is shared counts as often as it is met; a slice's spare places count too). A statement '..UptoSaid' is the law's where the arguments, and the package variables that the reading takes, are together of bulk at most 1048576: NARROWER than '..Said'. Prove '..Said' where nothing that the law and all that it calls make is longer than what came in: it says more and counts as full. Else prove '..UptoSaid'. A law counts once. -/
mutual
def uptoBulk {H : Type} : DataW H → Nat
  | .lit (.string bytes) => bytes.length + 1
  | .lit _ => 1
  | .nil => 1
  | .ptr d => uptoBulk d + 1
  | .slice elems spare => uptoBulkAll elems + uptoBulkAll spare + 1
  | .agg parts => uptoBulkAll parts + 1
  | .iface _ d => uptoBulk d + 1
  | .map entries => uptoBulkEntries entries + 1
  | .held _ => 1
def uptoBulkAll {H : Type} : List (DataW H) → Nat
  | [] => 0
  | d :: r => uptoBulk d + uptoBulkAll r
def uptoBulkEntries {H : Type} : List (Lit × DataW H) → Nat
  | [] => 0
  | x :: r => uptoBulkEntry x + uptoBulkEntries r
def uptoBulkEntry {H : Type} : Lit × DataW H → Nat
  | (.string bytes, d) => bytes.length + uptoBulk d + 1
  | (_, d) => uptoBulk d + 1
 end
def uptoSmall : (H : Type) → List (DataW H) → Bool := fun _ ds => decide (uptoBulkAll ds ≤ 1048576)
def OpenSpec.upto (s : _root_.Go.ChangeSpec) : _root_.Go.OpenSpec := { _root_.Go.OpenSpec.ofChange s with cond := some uptoSmall }

/-- 'remontoirlaw19.WindowTells', WHERE WHAT IT READS IS OF BULK AT MOST 1048576: true; the input reads as it did. -/
def windowTellsUptoRow : OpenClaim := { program := "ytihomapbncnhaaadoor", sum := "0ff1b6be4a2024a9759ed396c3a539ff1f17b40dd6494334c38c35e62650df5a", func := "remontoir/remontoirlaw19.WindowTells", spec := "windowTells", unfollowed := true, recurses := true, named := ["math/bits.deBruijn32tab"], apart := false, laid := [("math/bits.deBruijn32tab", laid_math_bits_deBruijn32tab)], narrowed := true }
def WindowTellsUptoSaid : Prop := windowTellsUptoRow.holds Tryd.pinned (OpenSpec.upto windowTellsSpec)

/-- 'remontoirlaw19.WindowShrinks', WHERE WHAT IT READS IS OF BULK AT MOST 1048576: true; the input reads as it did. -/
def windowShrinksUptoRow : OpenClaim := { program := "ytihomapbncnhaaadoor", sum := "0ff1b6be4a2024a9759ed396c3a539ff1f17b40dd6494334c38c35e62650df5a", func := "remontoir/remontoirlaw19.WindowShrinks", spec := "windowShrinks", unfollowed := true, recurses := true, named := ["math/bits.deBruijn32tab"], apart := false, laid := [("math/bits.deBruijn32tab", laid_math_bits_deBruijn32tab)], narrowed := true }
def WindowShrinksUptoSaid : Prop := windowShrinksUptoRow.holds Tryd.pinned (OpenSpec.upto windowShrinksSpec)

/-- 'remontoirlaw37.LoadRounds', WHERE WHAT IT READS IS OF BULK AT MOST 1048576: true; the input reads as it did. -/
def loadRoundsUptoRow : OpenClaim := { program := "ytihomapbncnhaaadoor", sum := "0ff1b6be4a2024a9759ed396c3a539ff1f17b40dd6494334c38c35e62650df5a", func := "remontoir/remontoirlaw37.LoadRounds", spec := "loadRounds", unfollowed := true, recurses := true, named := ["math/bits.deBruijn32tab"], apart := false, laid := [("math/bits.deBruijn32tab", laid_math_bits_deBruijn32tab)], narrowed := true }
def LoadRoundsUptoSaid : Prop := loadRoundsUptoRow.holds Tryd.pinned (OpenSpec.upto loadRoundsSpec)

/-- 'remontoirlaw37.LoadExact', WHERE WHAT IT READS IS OF BULK AT MOST 1048576: true; the input reads as it did. -/
def loadExactUptoRow : OpenClaim := { program := "ytihomapbncnhaaadoor", sum := "0ff1b6be4a2024a9759ed396c3a539ff1f17b40dd6494334c38c35e62650df5a", func := "remontoir/remontoirlaw37.LoadExact", spec := "loadExact", unfollowed := true, recurses := true, named := ["math/bits.deBruijn32tab"], apart := false, laid := [("math/bits.deBruijn32tab", laid_math_bits_deBruijn32tab)], narrowed := true }
def LoadExactUptoSaid : Prop := loadExactUptoRow.holds Tryd.pinned (OpenSpec.upto loadExactSpec)

/-- 'remontoirlaw37.LoadLess', WHERE WHAT IT READS IS OF BULK AT MOST 1048576: true; the input reads as it did. -/
def loadLessUptoRow : OpenClaim := { program := "ytihomapbncnhaaadoor", sum := "0ff1b6be4a2024a9759ed396c3a539ff1f17b40dd6494334c38c35e62650df5a", func := "remontoir/remontoirlaw37.LoadLess", spec := "loadLess", unfollowed := true, recurses := true, named := ["math/bits.deBruijn32tab"], apart := false, laid := [("math/bits.deBruijn32tab", laid_math_bits_deBruijn32tab)], narrowed := true }
def LoadLessUptoSaid : Prop := loadLessUptoRow.holds Tryd.pinned (OpenSpec.upto loadLessSpec)

/-- 'remontoirlaw37.LoadOver', WHERE WHAT IT READS IS OF BULK AT MOST 1048576: true; the input reads as it did. -/
def loadOverUptoRow : OpenClaim := { program := "ytihomapbncnhaaadoor", sum := "0ff1b6be4a2024a9759ed396c3a539ff1f17b40dd6494334c38c35e62650df5a", func := "remontoir/remontoirlaw37.LoadOver", spec := "loadOver", unfollowed := true, recurses := true, named := ["math/bits.deBruijn32tab"], apart := false, laid := [("math/bits.deBruijn32tab", laid_math_bits_deBruijn32tab)], narrowed := true }
def LoadOverUptoSaid : Prop := loadOverUptoRow.holds Tryd.pinned (OpenSpec.upto loadOverSpec)

end Rows
end Go.Proofs.YtihomapbncnhaaaDoor
