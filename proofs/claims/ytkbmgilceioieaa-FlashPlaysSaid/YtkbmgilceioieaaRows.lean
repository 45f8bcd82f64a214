/-
  No cell of these rows narrows 'for every input' (looked for: loops, veiled, ifaces, maps, wideKeys, modest, calm, conditions, laid).
  DERIVED. THE GIVEN ROWS OF THIS SEAT. 8 by the template 'for every input the law returns true; each argument reads behind the call as it read before'; 0 by the template 'total and deterministic' (their statements: YtkbmgilceioieaaTotals.lean).
  GIVEN WITH THE SEED: the statements are not yours to turn. If you find one false, say at which input.
  Laid BY PROGRAM, IN A SANDBOX (cutbox-rows.mjs): the forced cells as the released guide's own fill.sh prints them over the translation 30502fed6ddd1e8b… (all of the seat's roots in one cut). By AI agents, Wed Nov 11 2026. No macro, syntax, notation, axiom, sorry.
-/
import Derived.Test.YtkbmgilceioieaaChecked
import GoSem.Claim
import GoSem.ClaimJoined
import GoSem.ClaimMapViews
import Derived.JoinedTies
import Derived.KernelRfl
namespace Go.Proofs.Ytkbmgilceioieaa
/- THE CELL 'sum', in the pinned program and in every row, IS THE sha256 OF THE DUMP (.gsa) THAT YtkbmgilceioieaaProg.lean LOADS. Nothing in Lean hashes anything: it is a label: what it is worth is what the hold of that sum in a sandbox is worth. -/
noncomputable def Try.pinned : Pinned := { name := "ytkbmgilceioieaa", sum := "30502fed6ddd1e8b64c1f2d20c3ea084e55f3b26e41f09270cf5318a2a15e67a", checked := Try.checked }
namespace Rows
def none {H : Type} : Left H := { results := [], args := [] }

/-- 'remontoirlaw06.FlashPlays': WHATEVER THE INPUT: true; the input reads as it did. -/
def flashPlaysSpec : ChangeSpec := { name := "flashPlays", fn := fun _ => fun
  | [d1, d2] => { results := [.lit (.bool true)], args := [d1, d2] }
  | _ => none }
def flashPlaysRow : OpenClaim := { program := "ytkbmgilceioieaa", sum := "30502fed6ddd1e8b64c1f2d20c3ea084e55f3b26e41f09270cf5318a2a15e67a", func := "remontoir/remontoirlaw06.FlashPlays", spec := "flashPlays", apart := false }
def FlashPlaysSaid : Prop := flashPlaysRow.holds Try.pinned (OpenSpec.ofChange flashPlaysSpec)

/-- ITS FALSE NEIGHBOUR: 'it returns false'. Refute it at one input. -/
def flashPlaysWrong : ChangeSpec := { name := "flashPlays", fn := fun _ => fun
  | [d1, d2] => { results := [.lit (.bool false)], args := [d1, d2] }
  | _ => none }
def FlashPlaysWrongFalsely : Prop := flashPlaysRow.holds Try.pinned (OpenSpec.ofChange flashPlaysWrong)

/-- 'remontoirlaw06.FlashBits': WHATEVER THE INPUT: true; the input reads as it did. -/
def flashBitsSpec : ChangeSpec := { name := "flashBits", fn := fun _ => fun
  | [d1, d2] => { results := [.lit (.bool true)], args := [d1, d2] }
  | _ => none }
def flashBitsRow : OpenClaim := { program := "ytkbmgilceioieaa", sum := "30502fed6ddd1e8b64c1f2d20c3ea084e55f3b26e41f09270cf5318a2a15e67a", func := "remontoir/remontoirlaw06.FlashBits", spec := "flashBits", apart := false }
def FlashBitsSaid : Prop := flashBitsRow.holds Try.pinned (OpenSpec.ofChange flashBitsSpec)

/-- ITS FALSE NEIGHBOUR: 'it returns false'. Refute it at one input. -/
def flashBitsWrong : ChangeSpec := { name := "flashBits", fn := fun _ => fun
  | [d1, d2] => { results := [.lit (.bool false)], args := [d1, d2] }
  | _ => none }
def FlashBitsWrongFalsely : Prop := flashBitsRow.holds Try.pinned (OpenSpec.ofChange flashBitsWrong)

/-- 'remontoirlaw23.DeltaPlays': WHATEVER THE INPUT: true; the input reads as it did. -/
def deltaPlaysSpec : ChangeSpec := { name := "deltaPlays", fn := fun _ => fun
  | [d] => { results := [.lit (.bool true)], args := [d] }
  | _ => none }
def deltaPlaysRow : OpenClaim := { program := "ytkbmgilceioieaa", sum := "30502fed6ddd1e8b64c1f2d20c3ea084e55f3b26e41f09270cf5318a2a15e67a", func := "remontoir/remontoirlaw23.DeltaPlays", spec := "deltaPlays", unfollowed := true, recurses := true, apart := false }
def DeltaPlaysSaid : Prop := deltaPlaysRow.holds Try.pinned (OpenSpec.ofChange deltaPlaysSpec)

/-- ITS FALSE NEIGHBOUR: 'it returns false'. Refute it at one input. -/
def deltaPlaysWrong : ChangeSpec := { name := "deltaPlays", fn := fun _ => fun
  | [d] => { results := [.lit (.bool false)], args := [d] }
  | _ => none }
def DeltaPlaysWrongFalsely : Prop := deltaPlaysRow.holds Try.pinned (OpenSpec.ofChange deltaPlaysWrong)

/-- 'remontoirlaw23.DeltaDue': WHATEVER THE INPUT: true; the input reads as it did. -/
def deltaDueSpec : ChangeSpec := { name := "deltaDue", fn := fun _ => fun
  | [d1, d2, d3] => { results := [.lit (.bool true)], args := [d1, d2, d3] }
  | _ => none }
def deltaDueRow : OpenClaim := { program := "ytkbmgilceioieaa", sum := "30502fed6ddd1e8b64c1f2d20c3ea084e55f3b26e41f09270cf5318a2a15e67a", func := "remontoir/remontoirlaw23.DeltaDue", spec := "deltaDue", apart := false }
def DeltaDueSaid : Prop := deltaDueRow.holds Try.pinned (OpenSpec.ofChange deltaDueSpec)

/-- ITS FALSE NEIGHBOUR: 'it returns false'. Refute it at one input. -/
def deltaDueWrong : ChangeSpec := { name := "deltaDue", fn := fun _ => fun
  | [d1, d2, d3] => { results := [.lit (.bool false)], args := [d1, d2, d3] }
  | _ => none }
def DeltaDueWrongFalsely : Prop := deltaDueRow.holds Try.pinned (OpenSpec.ofChange deltaDueWrong)

/-- 'remontoirlaw23.DeltaFull': WHATEVER THE INPUT: true; the input reads as it did. -/
def deltaFullSpec : ChangeSpec := { name := "deltaFull", fn := fun _ => fun
  | [d1, d2] => { results := [.lit (.bool true)], args := [d1, d2] }
  | _ => none }
def deltaFullRow : OpenClaim := { program := "ytkbmgilceioieaa", sum := "30502fed6ddd1e8b64c1f2d20c3ea084e55f3b26e41f09270cf5318a2a15e67a", func := "remontoir/remontoirlaw23.DeltaFull", spec := "deltaFull", unfollowed := true, recurses := true, apart := false }
def DeltaFullSaid : Prop := deltaFullRow.holds Try.pinned (OpenSpec.ofChange deltaFullSpec)

/-- ITS FALSE NEIGHBOUR: 'it returns false'. Refute it at one input. -/
def deltaFullWrong : ChangeSpec := { name := "deltaFull", fn := fun _ => fun
  | [d1, d2] => { results := [.lit (.bool false)], args := [d1, d2] }
  | _ => none }
def DeltaFullWrongFalsely : Prop := deltaFullRow.holds Try.pinned (OpenSpec.ofChange deltaFullWrong)

/-- 'remontoirlaw54.RlePacks': WHATEVER THE INPUT: true; the input reads as it did. -/
def rlePacksSpec : ChangeSpec := { name := "rlePacks", fn := fun _ => fun
  | [d1, d2] => { results := [.lit (.bool true)], args := [d1, d2] }
  | _ => none }
def rlePacksRow : OpenClaim := { program := "ytkbmgilceioieaa", sum := "30502fed6ddd1e8b64c1f2d20c3ea084e55f3b26e41f09270cf5318a2a15e67a", func := "remontoir/remontoirlaw54.RlePacks", spec := "rlePacks", unfollowed := true, recurses := true, apart := false }
def RlePacksSaid : Prop := rlePacksRow.holds Try.pinned (OpenSpec.ofChange rlePacksSpec)

/-- ITS FALSE NEIGHBOUR: 'it returns false'. Refute it at one input. -/
def rlePacksWrong : ChangeSpec := { name := "rlePacks", fn := fun _ => fun
  | [d1, d2] => { results := [.lit (.bool false)], args := [d1, d2] }
  | _ => none }
def RlePacksWrongFalsely : Prop := rlePacksRow.holds Try.pinned (OpenSpec.ofChange rlePacksWrong)

/-- 'remontoirlaw54.RleBack': WHATEVER THE INPUT: true; the input reads as it did. -/
def rleBackSpec : ChangeSpec := { name := "rleBack", fn := fun _ => fun
  | [d1, d2] => { results := [.lit (.bool true)], args := [d1, d2] }
  | _ => none }
def rleBackRow : OpenClaim := { program := "ytkbmgilceioieaa", sum := "30502fed6ddd1e8b64c1f2d20c3ea084e55f3b26e41f09270cf5318a2a15e67a", func := "remontoir/remontoirlaw54.RleBack", spec := "rleBack", unfollowed := true, recurses := true, apart := false }
def RleBackSaid : Prop := rleBackRow.holds Try.pinned (OpenSpec.ofChange rleBackSpec)

/-- ITS FALSE NEIGHBOUR: 'it returns false'. Refute it at one input. -/
def rleBackWrong : ChangeSpec := { name := "rleBack", fn := fun _ => fun
  | [d1, d2] => { results := [.lit (.bool false)], args := [d1, d2] }
  | _ => none }
def RleBackWrongFalsely : Prop := rleBackRow.holds Try.pinned (OpenSpec.ofChange rleBackWrong)

/-- 'remontoirlaw54.RleSmall': WHATEVER THE INPUT: true; the input reads as it did. -/
def rleSmallSpec : ChangeSpec := { name := "rleSmall", fn := fun _ => fun
  | [d1, d2, d3] => { results := [.lit (.bool true)], args := [d1, d2, d3] }
  | _ => none }
def rleSmallRow : OpenClaim := { program := "ytkbmgilceioieaa", sum := "30502fed6ddd1e8b64c1f2d20c3ea084e55f3b26e41f09270cf5318a2a15e67a", func := "remontoir/remontoirlaw54.RleSmall", spec := "rleSmall", unfollowed := true, recurses := true, apart := false }
def RleSmallSaid : Prop := rleSmallRow.holds Try.pinned (OpenSpec.ofChange rleSmallSpec)

/-- ITS FALSE NEIGHBOUR: 'it returns false'. Refute it at one input. -/
def rleSmallWrong : ChangeSpec := { name := "rleSmall", fn := fun _ => fun
  | [d1, d2, d3] => { results := [.lit (.bool false)], args := [d1, d2, d3] }
  | _ => none }
def RleSmallWrongFalsely : Prop := rleSmallRow.holds Try.pinned (OpenSpec.ofChange rleSmallWrong)

/- THE SECOND FORM. 'bulk': how many values and letters a reading holds, each counted each time it is reached (what is shared counts as often as it is met; a slice's spare places count too). A statement '..UptoSaid' is the law's where the arguments, and the package variables that the reading takes, are together of bulk at most 1048576: NARROWER than '..Said'. Prove '..Said' where nothing that the law and all that it calls make is longer than what came in: it says more and counts as full. Else prove '..UptoSaid'. A law counts once. -/
mutual
def uptoBulk {H : Type} : DataW H → Nat
  | .lit (.string bytes) => bytes.length + 1
  | .lit _ => 1
  | .nil => 1
  | .ptr d => uptoBulk d + 1
  | .slice elems spare => uptoBulkAll elems + uptoBulkAll spare + 1
  | .agg parts => uptoBulkAll parts + 1
  | .iface _ d => uptoBulk d + 1
  | .map entries => uptoBulkEntries entries + 1
  | .held _ => 1
def uptoBulkAll {H : Type} : List (DataW H) → Nat
  | [] => 0
  | d :: r => uptoBulk d + uptoBulkAll r
def uptoBulkEntries {H : Type} : List (Lit × DataW H) → Nat
  | [] => 0
  | x :: r => uptoBulkEntry x + uptoBulkEntries r
def uptoBulkEntry {H : Type} : Lit × DataW H → Nat
  | (.string bytes, d) => bytes.length + uptoBulk d + 1
  | (_, d) => uptoBulk d + 1
 end
def uptoSmall : (H : Type) → List (DataW H) → Bool := fun _ ds => decide (uptoBulkAll ds ≤ 1048576)
def OpenSpec.upto (s : _root_.Go.ChangeSpec) : _root_.Go.OpenSpec := { _root_.Go.OpenSpec.ofChange s with cond := some uptoSmall }

/-- 'remontoirlaw06.FlashPlays', WHERE WHAT IT READS IS OF BULK AT MOST 1048576: true; the input reads as it did. -/
def flashPlaysUptoRow : OpenClaim := { program := "ytkbmgilceioieaa", sum := "30502fed6ddd1e8b64c1f2d20c3ea084e55f3b26e41f09270cf5318a2a15e67a", func := "remontoir/remontoirlaw06.FlashPlays", spec := "flashPlays", apart := false, narrowed := true }
def FlashPlaysUptoSaid : Prop := flashPlaysUptoRow.holds Try.pinned (OpenSpec.upto flashPlaysSpec)

/-- 'remontoirlaw06.FlashBits', WHERE WHAT IT READS IS OF BULK AT MOST 1048576: true; the input reads as it did. -/
def flashBitsUptoRow : OpenClaim := { program := "ytkbmgilceioieaa", sum := "30502fed6ddd1e8b64c1f2d20c3ea084e55f3b26e41f09270cf5318a2a15e67a", func := "remontoir/remontoirlaw06.FlashBits", spec := "flashBits", apart := false, narrowed := true }
def FlashBitsUptoSaid : Prop := flashBitsUptoRow.holds Try.pinned (OpenSpec.upto flashBitsSpec)

/-- 'remontoirlaw23.DeltaPlays', WHERE WHAT IT READS IS OF BULK AT MOST 1048576: true; the input reads as it did. -/
def deltaPlaysUptoRow : OpenClaim := { program := "ytkbmgilceioieaa", sum := "30502fed6ddd1e8b64c1f2d20c3ea084e55f3b26e41f09270cf5318a2a15e67a", func := "remontoir/remontoirlaw23.DeltaPlays", spec := "deltaPlays", unfollowed := true, recurses := true, apart := false, narrowed := true }
def DeltaPlaysUptoSaid : Prop := deltaPlaysUptoRow.holds Try.pinned (OpenSpec.upto deltaPlaysSpec)

/-- 'remontoirlaw23.DeltaDue', WHERE WHAT IT READS IS OF BULK AT MOST 1048576: true; the input reads as it did. -/
def deltaDueUptoRow : OpenClaim := { program := "ytkbmgilceioieaa", sum := "30502fed6ddd1e8b64c1f2d20c3ea084e55f3b26e41f09270cf5318a2a15e67a", func := "remontoir/remontoirlaw23.DeltaDue", spec := "deltaDue", apart := false, narrowed := true }
def DeltaDueUptoSaid : Prop := deltaDueUptoRow.holds Try.pinned (OpenSpec.upto deltaDueSpec)

/-- 'remontoirlaw23.DeltaFull', WHERE WHAT IT READS IS OF BULK AT MOST 1048576: true; the input reads as it did. -/
def deltaFullUptoRow : OpenClaim := { program := "ytkbmgilceioieaa", sum := "30502fed6ddd1e8b64c1f2d20c3ea084e55f3b26e41f09270cf5318a2a15e67a", func := "remontoir/remontoirlaw23.DeltaFull", spec := "deltaFull", unfollowed := true, recurses := true, apart := false, narrowed := true }
def DeltaFullUptoSaid : Prop := deltaFullUptoRow.holds Try.pinned (OpenSpec.upto deltaFullSpec)

/-- 'remontoirlaw54.RlePacks', WHERE WHAT IT READS IS OF BULK AT MOST 1048576: true; the input reads as it did. -/
def rlePacksUptoRow : OpenClaim := { program := "ytkbmgilceioieaa", sum := "30502fed6ddd1e8b64c1f2d20c3ea084e55f3b26e41f09270cf5318a2a15e67a", func := "remontoir/remontoirlaw54.RlePacks", spec := "rlePacks", unfollowed := true, recurses := true, apart := false, narrowed := true }
def RlePacksUptoSaid : Prop := rlePacksUptoRow.holds Try.pinned (OpenSpec.upto rlePacksSpec)

/-- 'remontoirlaw54.RleBack', WHERE WHAT IT READS IS OF BULK AT MOST 1048576: true; the input reads as it did. -/
def rleBackUptoRow : OpenClaim := { program := "ytkbmgilceioieaa", sum := "30502fed6ddd1e8b64c1f2d20c3ea084e55f3b26e41f09270cf5318a2a15e67a", func := "remontoir/remontoirlaw54.RleBack", spec := "rleBack", unfollowed := true, recurses := true, apart := false, narrowed := true }
def RleBackUptoSaid : Prop := rleBackUptoRow.holds Try.pinned (OpenSpec.upto rleBackSpec)

/-- 'remontoirlaw54.RleSmall', WHERE WHAT IT READS IS OF BULK AT MOST 1048576: true; the input reads as it did. -/
def rleSmallUptoRow : OpenClaim := { program := "ytkbmgilceioieaa", sum := "30502fed6ddd1e8b64c1f2d20c3ea084e55f3b26e41f09270cf5318a2a15e67a", func := "remontoir/remontoirlaw54.RleSmall", spec := "rleSmall", unfollowed := true, recurses := true, apart := false, narrowed := true }
def RleSmallUptoSaid : Prop := rleSmallUptoRow.holds Try.pinned (OpenSpec.upto rleSmallSpec)

end Rows
end Go.Proofs.Ytkbmgilceioieaa
