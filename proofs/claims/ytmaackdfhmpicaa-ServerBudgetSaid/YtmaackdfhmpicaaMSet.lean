/- The contracts of mask's only, Has, With, Without, Below and Above. -/
import Derived.Test.YtmaackdfhmpicaaProg
import Derived.Test.YtmaackdfhmpicaaMMath
import Derived.WalkKit
import Derived.ProofKit
import Derived.LoopTactic
import Derived.RegionTactic
import Derived.Deep.LoopGhost
import Derived.Below
import Derived.Outline
import Derived.Lib.Hide
namespace Go.Proofs.Ytmaackdfhmpicaa
open Go.RowKit

theorem low_int' (m : Nat) (hm : m ≤ 32) : ((2 : Int) ^ m - 1) % (4294967296 : Int) = w32 (low m) := by
  rw [← low_int m hm]; omega
end Go.Proofs.Ytmaackdfhmpicaa
