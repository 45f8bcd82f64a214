/-
  No cell of these rows narrows 'for every input' (looked for: loops, veiled, ifaces, maps, wideKeys, modest, calm, conditions, laid).
  DERIVED. THE GIVEN ROWS OF THIS SEAT. 9 by the template 'for every input the law returns true; each argument reads behind the call as it read before'; 0 by the template 'total and deterministic' (their statements: YtjgnclhkoncnkaaTotals.lean).
  GIVEN WITH THE SEED: the statements are not yours to turn. If you find one false, say at which input.
  Laid BY PROGRAM, IN A SANDBOX (cutbox-rows.mjs): the forced cells as the released guide's own fill.sh prints them over the translation aea9ab68fa4ad515… (all of the seat's roots in one cut). By AI agents, Wed Nov 11 2026. No macro, syntax, notation, axiom, sorry.
-/
import Derived.Test.YtjgnclhkoncnkaaChecked
import GoSem.Claim
import GoSem.ClaimJoined
import GoSem.ClaimMapViews
import Derived.JoinedTies
import Derived.KernelRfl
namespace Go.Proofs.Ytjgnclhkoncnkaa
/- THE CELL 'sum', in the pinned program and in every row, IS THE sha256 OF THE DUMP (.gsa) THAT YtjgnclhkoncnkaaProg.lean LOADS. Nothing in Lean hashes anything: it is a label: what it is worth is what the hold of that sum in a sandbox is worth. -/
noncomputable def Try.pinned : Pinned := { name := "ytjgnclhkoncnkaa", sum := "aea9ab68fa4ad5150fada9a04a297608950e4c5fff31540da0fe93f49ba5d6a3", checked := Try.checked }
namespace Rows
def none {H : Type} : Left H := { results := [], args := [] }

/-- 'remontoirlaw17.FixFinds': WHATEVER THE INPUT: true; the input reads as it did. -/
def fixFindsSpec : ChangeSpec := { name := "fixFinds", fn := fun _ => fun
  | [d1, d2, d3] => { results := [.lit (.bool true)], args := [d1, d2, d3] }
  | _ => none }
def fixFindsRow : OpenClaim := { program := "ytjgnclhkoncnkaa", sum := "aea9ab68fa4ad5150fada9a04a297608950e4c5fff31540da0fe93f49ba5d6a3", func := "remontoir/remontoirlaw17.FixFinds", spec := "fixFinds", unfollowed := true, recurses := true, apart := false }
def FixFindsSaid : Prop := fixFindsRow.holds Try.pinned (OpenSpec.ofChange fixFindsSpec)

/-- ITS FALSE NEIGHBOUR: 'it returns false'. Refute it at one input. -/
def fixFindsWrong : ChangeSpec := { name := "fixFinds", fn := fun _ => fun
  | [d1, d2, d3] => { results := [.lit (.bool false)], args := [d1, d2, d3] }
  | _ => none }
def FixFindsWrongFalsely : Prop := fixFindsRow.holds Try.pinned (OpenSpec.ofChange fixFindsWrong)

/-- 'remontoirlaw17.FixLeast': WHATEVER THE INPUT: true; the input reads as it did. -/
def fixLeastSpec : ChangeSpec := { name := "fixLeast", fn := fun _ => fun
  | [d1, d2, d3] => { results := [.lit (.bool true)], args := [d1, d2, d3] }
  | _ => none }
def fixLeastRow : OpenClaim := { program := "ytjgnclhkoncnkaa", sum := "aea9ab68fa4ad5150fada9a04a297608950e4c5fff31540da0fe93f49ba5d6a3", func := "remontoir/remontoirlaw17.FixLeast", spec := "fixLeast", unfollowed := true, recurses := true, apart := false }
def FixLeastSaid : Prop := fixLeastRow.holds Try.pinned (OpenSpec.ofChange fixLeastSpec)

/-- ITS FALSE NEIGHBOUR: 'it returns false'. Refute it at one input. -/
def fixLeastWrong : ChangeSpec := { name := "fixLeast", fn := fun _ => fun
  | [d1, d2, d3] => { results := [.lit (.bool false)], args := [d1, d2, d3] }
  | _ => none }
def FixLeastWrongFalsely : Prop := fixLeastRow.holds Try.pinned (OpenSpec.ofChange fixLeastWrong)

/-- 'remontoirlaw17.FixGrows': WHATEVER THE INPUT: true; the input reads as it did. -/
def fixGrowsSpec : ChangeSpec := { name := "fixGrows", fn := fun _ => fun
  | [d1, d2, d3] => { results := [.lit (.bool true)], args := [d1, d2, d3] }
  | _ => none }
def fixGrowsRow : OpenClaim := { program := "ytjgnclhkoncnkaa", sum := "aea9ab68fa4ad5150fada9a04a297608950e4c5fff31540da0fe93f49ba5d6a3", func := "remontoir/remontoirlaw17.FixGrows", spec := "fixGrows", unfollowed := true, recurses := true, apart := false }
def FixGrowsSaid : Prop := fixGrowsRow.holds Try.pinned (OpenSpec.ofChange fixGrowsSpec)

/-- ITS FALSE NEIGHBOUR: 'it returns false'. Refute it at one input. -/
def fixGrowsWrong : ChangeSpec := { name := "fixGrows", fn := fun _ => fun
  | [d1, d2, d3] => { results := [.lit (.bool false)], args := [d1, d2, d3] }
  | _ => none }
def FixGrowsWrongFalsely : Prop := fixGrowsRow.holds Try.pinned (OpenSpec.ofChange fixGrowsWrong)

/-- 'remontoirlaw29.MigrateMakes': WHATEVER THE INPUT: true; the input reads as it did. -/
def migrateMakesSpec : ChangeSpec := { name := "migrateMakes", fn := fun _ => fun
  | [d] => { results := [.lit (.bool true)], args := [d] }
  | _ => none }
def migrateMakesRow : OpenClaim := { program := "ytjgnclhkoncnkaa", sum := "aea9ab68fa4ad5150fada9a04a297608950e4c5fff31540da0fe93f49ba5d6a3", func := "remontoir/remontoirlaw29.MigrateMakes", spec := "migrateMakes", unfollowed := true, recurses := true, apart := false }
def MigrateMakesSaid : Prop := migrateMakesRow.holds Try.pinned (OpenSpec.ofChange migrateMakesSpec)

/-- ITS FALSE NEIGHBOUR: 'it returns false'. Refute it at one input. -/
def migrateMakesWrong : ChangeSpec := { name := "migrateMakes", fn := fun _ => fun
  | [d] => { results := [.lit (.bool false)], args := [d] }
  | _ => none }
def MigrateMakesWrongFalsely : Prop := migrateMakesRow.holds Try.pinned (OpenSpec.ofChange migrateMakesWrong)

/-- 'remontoirlaw29.MigrateMoves': WHATEVER THE INPUT: true; the input reads as it did. -/
def migrateMovesSpec : ChangeSpec := { name := "migrateMoves", fn := fun _ => fun
  | [d1, d2, d3] => { results := [.lit (.bool true)], args := [d1, d2, d3] }
  | _ => none }
def migrateMovesRow : OpenClaim := { program := "ytjgnclhkoncnkaa", sum := "aea9ab68fa4ad5150fada9a04a297608950e4c5fff31540da0fe93f49ba5d6a3", func := "remontoir/remontoirlaw29.MigrateMoves", spec := "migrateMoves", unfollowed := true, recurses := true, apart := false }
def MigrateMovesSaid : Prop := migrateMovesRow.holds Try.pinned (OpenSpec.ofChange migrateMovesSpec)

/-- ITS FALSE NEIGHBOUR: 'it returns false'. Refute it at one input. -/
def migrateMovesWrong : ChangeSpec := { name := "migrateMoves", fn := fun _ => fun
  | [d1, d2, d3] => { results := [.lit (.bool false)], args := [d1, d2, d3] }
  | _ => none }
def MigrateMovesWrongFalsely : Prop := migrateMovesRow.holds Try.pinned (OpenSpec.ofChange migrateMovesWrong)

/-- 'remontoirlaw55.PatchMakes': WHATEVER THE INPUT: true; the input reads as it did. -/
def patchMakesSpec : ChangeSpec := { name := "patchMakes", fn := fun _ => fun
  | [d1, d2] => { results := [.lit (.bool true)], args := [d1, d2] }
  | _ => none }
def patchMakesRow : OpenClaim := { program := "ytjgnclhkoncnkaa", sum := "aea9ab68fa4ad5150fada9a04a297608950e4c5fff31540da0fe93f49ba5d6a3", func := "remontoir/remontoirlaw55.PatchMakes", spec := "patchMakes", apart := false }
def PatchMakesSaid : Prop := patchMakesRow.holds Try.pinned (OpenSpec.ofChange patchMakesSpec)

/-- ITS FALSE NEIGHBOUR: 'it returns false'. Refute it at one input. -/
def patchMakesWrong : ChangeSpec := { name := "patchMakes", fn := fun _ => fun
  | [d1, d2] => { results := [.lit (.bool false)], args := [d1, d2] }
  | _ => none }
def PatchMakesWrongFalsely : Prop := patchMakesRow.holds Try.pinned (OpenSpec.ofChange patchMakesWrong)

/-- 'remontoirlaw55.PatchApplies': WHATEVER THE INPUT: true; the input reads as it did. -/
def patchAppliesSpec : ChangeSpec := { name := "patchApplies", fn := fun _ => fun
  | [d1, d2] => { results := [.lit (.bool true)], args := [d1, d2] }
  | _ => none }
def patchAppliesRow : OpenClaim := { program := "ytjgnclhkoncnkaa", sum := "aea9ab68fa4ad5150fada9a04a297608950e4c5fff31540da0fe93f49ba5d6a3", func := "remontoir/remontoirlaw55.PatchApplies", spec := "patchApplies", apart := false }
def PatchAppliesSaid : Prop := patchAppliesRow.holds Try.pinned (OpenSpec.ofChange patchAppliesSpec)

/-- ITS FALSE NEIGHBOUR: 'it returns false'. Refute it at one input. -/
def patchAppliesWrong : ChangeSpec := { name := "patchApplies", fn := fun _ => fun
  | [d1, d2] => { results := [.lit (.bool false)], args := [d1, d2] }
  | _ => none }
def PatchAppliesWrongFalsely : Prop := patchAppliesRow.holds Try.pinned (OpenSpec.ofChange patchAppliesWrong)

/-- 'remontoirlaw55.PatchBack': WHATEVER THE INPUT: true; the input reads as it did. -/
def patchBackSpec : ChangeSpec := { name := "patchBack", fn := fun _ => fun
  | [d1, d2] => { results := [.lit (.bool true)], args := [d1, d2] }
  | _ => none }
def patchBackRow : OpenClaim := { program := "ytjgnclhkoncnkaa", sum := "aea9ab68fa4ad5150fada9a04a297608950e4c5fff31540da0fe93f49ba5d6a3", func := "remontoir/remontoirlaw55.PatchBack", spec := "patchBack", apart := false }
def PatchBackSaid : Prop := patchBackRow.holds Try.pinned (OpenSpec.ofChange patchBackSpec)

/-- ITS FALSE NEIGHBOUR: 'it returns false'. Refute it at one input. -/
def patchBackWrong : ChangeSpec := { name := "patchBack", fn := fun _ => fun
  | [d1, d2] => { results := [.lit (.bool false)], args := [d1, d2] }
  | _ => none }
def PatchBackWrongFalsely : Prop := patchBackRow.holds Try.pinned (OpenSpec.ofChange patchBackWrong)

/-- 'remontoirlaw55.PatchGreat': WHATEVER THE INPUT: true; the input reads as it did. -/
def patchGreatSpec : ChangeSpec := { name := "patchGreat", fn := fun _ => fun
  | [d1, d2] => { results := [.lit (.bool true)], args := [d1, d2] }
  | _ => none }
def patchGreatRow : OpenClaim := { program := "ytjgnclhkoncnkaa", sum := "aea9ab68fa4ad5150fada9a04a297608950e4c5fff31540da0fe93f49ba5d6a3", func := "remontoir/remontoirlaw55.PatchGreat", spec := "patchGreat", apart := false }
def PatchGreatSaid : Prop := patchGreatRow.holds Try.pinned (OpenSpec.ofChange patchGreatSpec)

/-- ITS FALSE NEIGHBOUR: 'it returns false'. Refute it at one input. -/
def patchGreatWrong : ChangeSpec := { name := "patchGreat", fn := fun _ => fun
  | [d1, d2] => { results := [.lit (.bool false)], args := [d1, d2] }
  | _ => none }
def PatchGreatWrongFalsely : Prop := patchGreatRow.holds Try.pinned (OpenSpec.ofChange patchGreatWrong)

/- THE SECOND FORM. 'bulk': how many values and letters a reading holds, each counted each time it is reached (what is shared counts as often as it is met; a slice's spare places count too). A statement '..UptoSaid' is the law's where the arguments, and the package variables that the reading takes, are together of bulk at most 1048576: NARROWER than '..Said'. Prove '..Said' where nothing that the law and all that it calls make is longer than what came in: it says more and counts as full. Else prove '..UptoSaid'. A law counts once. -/
mutual
def uptoBulk {H : Type} : DataW H → Nat
  | .lit (.string bytes) => bytes.length + 1
  | .lit _ => 1
  | .nil => 1
  | .ptr d => uptoBulk d + 1
  | .slice elems spare => uptoBulkAll elems + uptoBulkAll spare + 1
  | .agg parts => uptoBulkAll parts + 1
  | .iface _ d => uptoBulk d + 1
  | .map entries => uptoBulkEntries entries + 1
  | .held _ => 1
def uptoBulkAll {H : Type} : List (DataW H) → Nat
  | [] => 0
  | d :: r => uptoBulk d + uptoBulkAll r
def uptoBulkEntries {H : Type} : List (Lit × DataW H) → Nat
  | [] => 0
  | x :: r => uptoBulkEntry x + uptoBulkEntries r
def uptoBulkEntry {H : Type} : Lit × DataW H → Nat
  | (.string bytes, d) => bytes.length + uptoBulk d + 1
  | (_, d) => uptoBulk d + 1
 end
def uptoSmall : (H : Type) → List (DataW H) → Bool := fun _ ds => decide (uptoBulkAll ds ≤ 1048576)
def OpenSpec.upto (s : _root_.Go.ChangeSpec) : _root_.Go.OpenSpec := { _root_.Go.OpenSpec.ofChange s with cond := some uptoSmall }

/-- 'remontoirlaw17.FixFinds', WHERE WHAT IT READS IS OF BULK AT MOST 1048576: true; the input reads as it did. -/
def fixFindsUptoRow : OpenClaim := { program := "ytjgnclhkoncnkaa", sum := "aea9ab68fa4ad5150fada9a04a297608950e4c5fff31540da0fe93f49ba5d6a3", func := "remontoir/remontoirlaw17.FixFinds", spec := "fixFinds", unfollowed := true, recurses := true, apart := false, narrowed := true }
def FixFindsUptoSaid : Prop := fixFindsUptoRow.holds Try.pinned (OpenSpec.upto fixFindsSpec)

/-- 'remontoirlaw17.FixLeast', WHERE WHAT IT READS IS OF BULK AT MOST 1048576: true; the input reads as it did. -/
def fixLeastUptoRow : OpenClaim := { program := "ytjgnclhkoncnkaa", sum := "aea9ab68fa4ad5150fada9a04a297608950e4c5fff31540da0fe93f49ba5d6a3", func := "remontoir/remontoirlaw17.FixLeast", spec := "fixLeast", unfollowed := true, recurses := true, apart := false, narrowed := true }
def FixLeastUptoSaid : Prop := fixLeastUptoRow.holds Try.pinned (OpenSpec.upto fixLeastSpec)

/-- 'remontoirlaw17.FixGrows', WHERE WHAT IT READS IS OF BULK AT MOST 1048576: true; the input reads as it did. -/
def fixGrowsUptoRow : OpenClaim := { program := "ytjgnclhkoncnkaa", sum := "aea9ab68fa4ad5150fada9a04a297608950e4c5fff31540da0fe93f49ba5d6a3", func := "remontoir/remontoirlaw17.FixGrows", spec := "fixGrows", unfollowed := true, recurses := true, apart := false, narrowed := true }
def FixGrowsUptoSaid : Prop := fixGrowsUptoRow.holds Try.pinned (OpenSpec.upto fixGrowsSpec)

/-- 'remontoirlaw29.MigrateMakes', WHERE WHAT IT READS IS OF BULK AT MOST 1048576: true; the input reads as it did. -/
def migrateMakesUptoRow : OpenClaim := { program := "ytjgnclhkoncnkaa", sum := "aea9ab68fa4ad5150fada9a04a297608950e4c5fff31540da0fe93f49ba5d6a3", func := "remontoir/remontoirlaw29.MigrateMakes", spec := "migrateMakes", unfollowed := true, recurses := true, apart := false, narrowed := true }
def MigrateMakesUptoSaid : Prop := migrateMakesUptoRow.holds Try.pinned (OpenSpec.upto migrateMakesSpec)

/-- 'remontoirlaw29.MigrateMoves', WHERE WHAT IT READS IS OF BULK AT MOST 1048576: true; the input reads as it did. -/
def migrateMovesUptoRow : OpenClaim := { program := "ytjgnclhkoncnkaa", sum := "aea9ab68fa4ad5150fada9a04a297608950e4c5fff31540da0fe93f49ba5d6a3", func := "remontoir/remontoirlaw29.MigrateMoves", spec := "migrateMoves", unfollowed := true, recurses := true, apart := false, narrowed := true }
def MigrateMovesUptoSaid : Prop := migrateMovesUptoRow.holds Try.pinned (OpenSpec.upto migrateMovesSpec)

/-- 'remontoirlaw55.PatchMakes', WHERE WHAT IT READS IS OF BULK AT MOST 1048576: true; the input reads as it did. -/
def patchMakesUptoRow : OpenClaim := { program := "ytjgnclhkoncnkaa", sum := "aea9ab68fa4ad5150fada9a04a297608950e4c5fff31540da0fe93f49ba5d6a3", func := "remontoir/remontoirlaw55.PatchMakes", spec := "patchMakes", apart := false, narrowed := true }
def PatchMakesUptoSaid : Prop := patchMakesUptoRow.holds Try.pinned (OpenSpec.upto patchMakesSpec)

/-- 'remontoirlaw55.PatchApplies', WHERE WHAT IT READS IS OF BULK AT MOST 1048576: true; the input reads as it did. -/
def patchAppliesUptoRow : OpenClaim := { program := "ytjgnclhkoncnkaa", sum := "aea9ab68fa4ad5150fada9a04a297608950e4c5fff31540da0fe93f49ba5d6a3", func := "remontoir/remontoirlaw55.PatchApplies", spec := "patchApplies", apart := false, narrowed := true }
def PatchAppliesUptoSaid : Prop := patchAppliesUptoRow.holds Try.pinned (OpenSpec.upto patchAppliesSpec)

/-- 'remontoirlaw55.PatchBack', WHERE WHAT IT READS IS OF BULK AT MOST 1048576: true; the input reads as it did. -/
def patchBackUptoRow : OpenClaim := { program := "ytjgnclhkoncnkaa", sum := "aea9ab68fa4ad5150fada9a04a297608950e4c5fff31540da0fe93f49ba5d6a3", func := "remontoir/remontoirlaw55.PatchBack", spec := "patchBack", apart := false, narrowed := true }
def PatchBackUptoSaid : Prop := patchBackUptoRow.holds Try.pinned (OpenSpec.upto patchBackSpec)

/-- 'remontoirlaw55.PatchGreat', WHERE WHAT IT READS IS OF BULK AT MOST 1048576: true; the input reads as it did. -/
def patchGreatUptoRow : OpenClaim := { program := "ytjgnclhkoncnkaa", sum := "aea9ab68fa4ad5150fada9a04a297608950e4c5fff31540da0fe93f49ba5d6a3", func := "remontoir/remontoirlaw55.PatchGreat", spec := "patchGreat", apart := false, narrowed := true }
def PatchGreatUptoSaid : Prop := patchGreatUptoRow.holds Try.pinned (OpenSpec.upto patchGreatSpec)

end Rows
end Go.Proofs.Ytjgnclhkoncnkaa
