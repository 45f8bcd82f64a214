/- Plain facts for the law texts of this seat: what a word that a row hands in is. No statement about the program's functions. -/
import Derived.Test.YtimaihdlaaonbaaRows
import Derived.Test.YtimaihdlaaonbaaTells0
import Derived.Test.YtimaihdlaaonbaaPost
import Derived.WalkKit
import Derived.ProofKit
import Derived.OpenShut
import Derived.Lib.SmallJoins
namespace Go.Proofs.Ytimaihdlaaonbaa
open Go.ChangeShapes Go.WideShapes Go.ChangeAt Go.RowKit

theorem own : ownKnob Try.prog.godebug = none := by kernel_rfl
theorem cells24 : Try.prog.cellsOf 24 = 2 := by kernel_rfl
theorem cells26 : Try.prog.cellsOf 26 = 3 := by kernel_rfl
theorem laidOut : laidOutB Try.prog = true := by kernel_rfl

theorem wf32 {n : Int} (h : (Lit.int .u32 n).wf = true) : w32 (BitVec.ofInt 32 n) = n := by
  have h' : 0 ≤ n ∧ n < 4294967296 := by
    simp [Lit.wf, IntKind.min, IntKind.max, IntKind.signed, IntKind.bits] at h; omega
  unfold w32
  rw [BitVec.toNat_ofInt]
  omega
end Go.Proofs.Ytimaihdlaaonbaa
