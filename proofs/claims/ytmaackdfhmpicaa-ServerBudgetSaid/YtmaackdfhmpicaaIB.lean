/- The contracts of image's hasMode and Tasks. -/
import Derived.Test.YtmaackdfhmpicaaIA
import Derived.Test.YtmaackdfhmpicaaIG
namespace Go.Proofs.Ytmaackdfhmpicaa
open Go.RowKit

/-- The tasks of a mode; none, if there is no such. -/
def tasksM (x : Img) (m : Int) : BitVec 32 := if 0 ≤ m ∧ m < (x.modes.length : Int) then (x.m m.toNat).tasks else 0#32
end Go.Proofs.Ytmaackdfhmpicaa
