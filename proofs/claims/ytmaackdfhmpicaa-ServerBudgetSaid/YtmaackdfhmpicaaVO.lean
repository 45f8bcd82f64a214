/- Plain facts for the law texts of class and image. No statement about the program's functions. -/
import Derived.Test.YtmaackdfhmpicaaRows
import Derived.Test.YtmaackdfhmpicaaPost
import Derived.Test.YtmaackdfhmpicaaMMath
import Derived.WalkKit
import Derived.ProofKit
import Derived.OpenShut
import Derived.Lib.SmallJoins
import Derived.Deep.Slices
import Derived.Deep.Strs
namespace Go.Proofs.Ytmaackdfhmpicaa
open Go.ChangeShapes Go.WideShapes Go.ChangeAt Go.RowKit Go.Deep Go.Joins

theorem own : ownKnob Try.prog.godebug = none := by kernel_rfl
theorem laidOut : laidOutB Try.prog = true := by kernel_rfl
theorem word_of {n : Int} (h : (Lit.int .u32 n).wf = true) : 0 ≤ n ∧ n < 4294967296 := by
  simp [Lit.wf, IntKind.min, IntKind.max, IntKind.signed, IntKind.bits] at h
  omega
theorem int_of {n : Int} (h : (Lit.int .i64 n).wf = true) : -9223372036854775808 ≤ n ∧ n ≤ 9223372036854775807 := by
  simp [Lit.wf, IntKind.min, IntKind.max, IntKind.signed, IntKind.bits] at h
  omega
theorem wf32 {n : Int} (h : (Lit.int .u32 n).wf = true) : w32 (BitVec.ofInt 32 n) = n := by
  have h' := word_of h
  unfold w32
  rw [BitVec.toNat_ofInt]
  omega
end Go.Proofs.Ytmaackdfhmpicaa
