/-
  No cell of these rows narrows 'for every input' (looked for: loops, veiled, ifaces, maps, wideKeys, modest, calm, conditions, laid).
  DERIVED. THE GIVEN ROWS OF THIS SEAT. 6 by the template 'for every input the law returns true; each argument reads behind the call as it read before'; 0 by the template 'total and deterministic' (their statements: YtcipkkeegbfaeaaTotals.lean).
  GIVEN WITH THE SEED: the statements are not yours to turn. If you find one false, say at which input.
  Laid BY PROGRAM, IN A SANDBOX (cutbox-rows.mjs): the forced cells as the released guide's own fill.sh prints them over the translation ddf18e7b160bcf4b… (all of the seat's roots in one cut). By AI agents, Wed Nov 11 2026. No macro, syntax, notation, axiom, sorry.
-/
import Derived.Test.YtcipkkeegbfaeaaChecked
import GoSem.Claim
import GoSem.ClaimJoined
import GoSem.ClaimMapViews
import Derived.JoinedTies
import Derived.KernelRfl
namespace Go.Proofs.Ytcipkkeegbfaeaa
/- THE CELL 'sum', in the pinned program and in every row, IS THE sha256 OF THE DUMP (.gsa) THAT YtcipkkeegbfaeaaProg.lean LOADS. Nothing in Lean hashes anything: it is a label: what it is worth is what the hold of that sum in a sandbox is worth. -/
noncomputable def Try.pinned : Pinned := { name := "ytcipkkeegbfaeaa", sum := "ddf18e7b160bcf4b5bda744d708336c0f7e2fc8f7913c28464651cebfbcc3093", checked := Try.checked }
namespace Rows
def none {H : Type} : Left H := { results := [], args := [] }

/-- 'remontoirlaw13.GraphReaches': WHATEVER THE INPUT: true; the input reads as it did. -/
def graphReachesSpec : ChangeSpec := { name := "graphReaches", fn := fun _ => fun
  | [d1, d2] => { results := [.lit (.bool true)], args := [d1, d2] }
  | _ => none }
def graphReachesRow : OpenClaim := { program := "ytcipkkeegbfaeaa", sum := "ddf18e7b160bcf4b5bda744d708336c0f7e2fc8f7913c28464651cebfbcc3093", func := "remontoir/remontoirlaw13.GraphReaches", spec := "graphReaches", unfollowed := true, recurses := true, apart := false }
def GraphReachesSaid : Prop := graphReachesRow.holds Try.pinned (OpenSpec.ofChange graphReachesSpec)

/-- ITS FALSE NEIGHBOUR: 'it returns false'. Refute it at one input. -/
def graphReachesWrong : ChangeSpec := { name := "graphReaches", fn := fun _ => fun
  | [d1, d2] => { results := [.lit (.bool false)], args := [d1, d2] }
  | _ => none }
def GraphReachesWrongFalsely : Prop := graphReachesRow.holds Try.pinned (OpenSpec.ofChange graphReachesWrong)

/-- 'remontoirlaw13.GraphPaths': WHATEVER THE INPUT: true; the input reads as it did. -/
def graphPathsSpec : ChangeSpec := { name := "graphPaths", fn := fun _ => fun
  | [d1, d2, d3] => { results := [.lit (.bool true)], args := [d1, d2, d3] }
  | _ => none }
def graphPathsRow : OpenClaim := { program := "ytcipkkeegbfaeaa", sum := "ddf18e7b160bcf4b5bda744d708336c0f7e2fc8f7913c28464651cebfbcc3093", func := "remontoir/remontoirlaw13.GraphPaths", spec := "graphPaths", unfollowed := true, recurses := true, apart := false }
def GraphPathsSaid : Prop := graphPathsRow.holds Try.pinned (OpenSpec.ofChange graphPathsSpec)

/-- ITS FALSE NEIGHBOUR: 'it returns false'. Refute it at one input. -/
def graphPathsWrong : ChangeSpec := { name := "graphPaths", fn := fun _ => fun
  | [d1, d2, d3] => { results := [.lit (.bool false)], args := [d1, d2, d3] }
  | _ => none }
def GraphPathsWrongFalsely : Prop := graphPathsRow.holds Try.pinned (OpenSpec.ofChange graphPathsWrong)

/-- 'remontoirlaw16.DemandWorks': WHATEVER THE INPUT: true; the input reads as it did. -/
def demandWorksSpec : ChangeSpec := { name := "demandWorks", fn := fun _ => fun
  | [d1, d2] => { results := [.lit (.bool true)], args := [d1, d2] }
  | _ => none }
def demandWorksRow : OpenClaim := { program := "ytcipkkeegbfaeaa", sum := "ddf18e7b160bcf4b5bda744d708336c0f7e2fc8f7913c28464651cebfbcc3093", func := "remontoir/remontoirlaw16.DemandWorks", spec := "demandWorks", unfollowed := true, recurses := true, apart := false }
def DemandWorksSaid : Prop := demandWorksRow.holds Try.pinned (OpenSpec.ofChange demandWorksSpec)

/-- ITS FALSE NEIGHBOUR: 'it returns false'. Refute it at one input. -/
def demandWorksWrong : ChangeSpec := { name := "demandWorks", fn := fun _ => fun
  | [d1, d2] => { results := [.lit (.bool false)], args := [d1, d2] }
  | _ => none }
def DemandWorksWrongFalsely : Prop := demandWorksRow.holds Try.pinned (OpenSpec.ofChange demandWorksWrong)

/-- 'remontoirlaw16.DemandComes': WHATEVER THE INPUT: true; the input reads as it did. -/
def demandComesSpec : ChangeSpec := { name := "demandComes", fn := fun _ => fun
  | [d1, d2] => { results := [.lit (.bool true)], args := [d1, d2] }
  | _ => none }
def demandComesRow : OpenClaim := { program := "ytcipkkeegbfaeaa", sum := "ddf18e7b160bcf4b5bda744d708336c0f7e2fc8f7913c28464651cebfbcc3093", func := "remontoir/remontoirlaw16.DemandComes", spec := "demandComes", apart := false }
def DemandComesSaid : Prop := demandComesRow.holds Try.pinned (OpenSpec.ofChange demandComesSpec)

/-- ITS FALSE NEIGHBOUR: 'it returns false'. Refute it at one input. -/
def demandComesWrong : ChangeSpec := { name := "demandComes", fn := fun _ => fun
  | [d1, d2] => { results := [.lit (.bool false)], args := [d1, d2] }
  | _ => none }
def DemandComesWrongFalsely : Prop := demandComesRow.holds Try.pinned (OpenSpec.ofChange demandComesWrong)

/-- 'remontoirlaw25.JobCuts': WHATEVER THE INPUT: true; the input reads as it did. -/
def jobCutsSpec : ChangeSpec := { name := "jobCuts", fn := fun _ => fun
  | [d1, d2, d3] => { results := [.lit (.bool true)], args := [d1, d2, d3] }
  | _ => none }
def jobCutsRow : OpenClaim := { program := "ytcipkkeegbfaeaa", sum := "ddf18e7b160bcf4b5bda744d708336c0f7e2fc8f7913c28464651cebfbcc3093", func := "remontoir/remontoirlaw25.JobCuts", spec := "jobCuts", unfollowed := true, recurses := true, apart := false }
def JobCutsSaid : Prop := jobCutsRow.holds Try.pinned (OpenSpec.ofChange jobCutsSpec)

/-- ITS FALSE NEIGHBOUR: 'it returns false'. Refute it at one input. -/
def jobCutsWrong : ChangeSpec := { name := "jobCuts", fn := fun _ => fun
  | [d1, d2, d3] => { results := [.lit (.bool false)], args := [d1, d2, d3] }
  | _ => none }
def JobCutsWrongFalsely : Prop := jobCutsRow.holds Try.pinned (OpenSpec.ofChange jobCutsWrong)

/-- 'remontoirlaw25.JobWorks': WHATEVER THE INPUT: true; the input reads as it did. -/
def jobWorksSpec : ChangeSpec := { name := "jobWorks", fn := fun _ => fun
  | [d1, d2] => { results := [.lit (.bool true)], args := [d1, d2] }
  | _ => none }
def jobWorksRow : OpenClaim := { program := "ytcipkkeegbfaeaa", sum := "ddf18e7b160bcf4b5bda744d708336c0f7e2fc8f7913c28464651cebfbcc3093", func := "remontoir/remontoirlaw25.JobWorks", spec := "jobWorks", unfollowed := true, recurses := true, apart := false }
def JobWorksSaid : Prop := jobWorksRow.holds Try.pinned (OpenSpec.ofChange jobWorksSpec)

/-- ITS FALSE NEIGHBOUR: 'it returns false'. Refute it at one input. -/
def jobWorksWrong : ChangeSpec := { name := "jobWorks", fn := fun _ => fun
  | [d1, d2] => { results := [.lit (.bool false)], args := [d1, d2] }
  | _ => none }
def JobWorksWrongFalsely : Prop := jobWorksRow.holds Try.pinned (OpenSpec.ofChange jobWorksWrong)

/- THE SECOND FORM. 'bulk': how many values and letters a reading holds, each counted each time it is reached (what is shared counts as often as it is met; a slice's spare places count too). A statement '..UptoSaid' is the law's where the arguments, and the package variables that the reading takes, are together of bulk at most 1048576: NARROWER than '..Said'. Prove '..Said' where nothing that the law and all that it calls make is longer than what came in: it says more and counts as full. Else prove '..UptoSaid'. A law counts once. -/
mutual
def uptoBulk {H : Type} : DataW H → Nat
  | .lit (.string bytes) => bytes.length + 1
  | .lit _ => 1
  | .nil => 1
  | .ptr d => uptoBulk d + 1
  | .slice elems spare => uptoBulkAll elems + uptoBulkAll spare + 1
  | .agg parts => uptoBulkAll parts + 1
  | .iface _ d => uptoBulk d + 1
  | .map entries => uptoBulkEntries entries + 1
  | .held _ => 1
def uptoBulkAll {H : Type} : List (DataW H) → Nat
  | [] => 0
  | d :: r => uptoBulk d + uptoBulkAll r
def uptoBulkEntries {H : Type} : List (Lit × DataW H) → Nat
  | [] => 0
  | x :: r => uptoBulkEntry x + uptoBulkEntries r
def uptoBulkEntry {H : Type} : Lit × DataW H → Nat
  | (.string bytes, d) => bytes.length + uptoBulk d + 1
  | (_, d) => uptoBulk d + 1
 end
def uptoSmall : (H : Type) → List (DataW H) → Bool := fun _ ds => decide (uptoBulkAll ds ≤ 1048576)
def OpenSpec.upto (s : _root_.Go.ChangeSpec) : _root_.Go.OpenSpec := { _root_.Go.OpenSpec.ofChange s with cond := some uptoSmall }

/-- 'remontoirlaw13.GraphReaches', WHERE WHAT IT READS IS OF BULK AT MOST 1048576: true; the input reads as it did. -/
def graphReachesUptoRow : OpenClaim := { program := "ytcipkkeegbfaeaa", sum := "ddf18e7b160bcf4b5bda744d708336c0f7e2fc8f7913c28464651cebfbcc3093", func := "remontoir/remontoirlaw13.GraphReaches", spec := "graphReaches", unfollowed := true, recurses := true, apart := false, narrowed := true }
def GraphReachesUptoSaid : Prop := graphReachesUptoRow.holds Try.pinned (OpenSpec.upto graphReachesSpec)

/-- 'remontoirlaw13.GraphPaths', WHERE WHAT IT READS IS OF BULK AT MOST 1048576: true; the input reads as it did. -/
def graphPathsUptoRow : OpenClaim := { program := "ytcipkkeegbfaeaa", sum := "ddf18e7b160bcf4b5bda744d708336c0f7e2fc8f7913c28464651cebfbcc3093", func := "remontoir/remontoirlaw13.GraphPaths", spec := "graphPaths", unfollowed := true, recurses := true, apart := false, narrowed := true }
def GraphPathsUptoSaid : Prop := graphPathsUptoRow.holds Try.pinned (OpenSpec.upto graphPathsSpec)

/-- 'remontoirlaw16.DemandWorks', WHERE WHAT IT READS IS OF BULK AT MOST 1048576: true; the input reads as it did. -/
def demandWorksUptoRow : OpenClaim := { program := "ytcipkkeegbfaeaa", sum := "ddf18e7b160bcf4b5bda744d708336c0f7e2fc8f7913c28464651cebfbcc3093", func := "remontoir/remontoirlaw16.DemandWorks", spec := "demandWorks", unfollowed := true, recurses := true, apart := false, narrowed := true }
def DemandWorksUptoSaid : Prop := demandWorksUptoRow.holds Try.pinned (OpenSpec.upto demandWorksSpec)

/-- 'remontoirlaw16.DemandComes', WHERE WHAT IT READS IS OF BULK AT MOST 1048576: true; the input reads as it did. -/
def demandComesUptoRow : OpenClaim := { program := "ytcipkkeegbfaeaa", sum := "ddf18e7b160bcf4b5bda744d708336c0f7e2fc8f7913c28464651cebfbcc3093", func := "remontoir/remontoirlaw16.DemandComes", spec := "demandComes", apart := false, narrowed := true }
def DemandComesUptoSaid : Prop := demandComesUptoRow.holds Try.pinned (OpenSpec.upto demandComesSpec)

/-- 'remontoirlaw25.JobCuts', WHERE WHAT IT READS IS OF BULK AT MOST 1048576: true; the input reads as it did. -/
def jobCutsUptoRow : OpenClaim := { program := "ytcipkkeegbfaeaa", sum := "ddf18e7b160bcf4b5bda744d708336c0f7e2fc8f7913c28464651cebfbcc3093", func := "remontoir/remontoirlaw25.JobCuts", spec := "jobCuts", unfollowed := true, recurses := true, apart := false, narrowed := true }
def JobCutsUptoSaid : Prop := jobCutsUptoRow.holds Try.pinned (OpenSpec.upto jobCutsSpec)

/-- 'remontoirlaw25.JobWorks', WHERE WHAT IT READS IS OF BULK AT MOST 1048576: true; the input reads as it did. -/
def jobWorksUptoRow : OpenClaim := { program := "ytcipkkeegbfaeaa", sum := "ddf18e7b160bcf4b5bda744d708336c0f7e2fc8f7913c28464651cebfbcc3093", func := "remontoir/remontoirlaw25.JobWorks", spec := "jobWorks", unfollowed := true, recurses := true, apart := false, narrowed := true }
def JobWorksUptoSaid : Prop := jobWorksUptoRow.holds Try.pinned (OpenSpec.upto jobWorksSpec)

end Rows
end Go.Proofs.Ytcipkkeegbfaeaa
