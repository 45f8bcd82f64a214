/- The contracts of the reference's Read and Copy. -/
import Derived.Test.YthpagbfabpfngaaFQ
namespace Go.Proofs.Ythpagbfabpfngaa
open Go.RowKit

variable {n0 n1 n2 : Int} {bL nL cL bW nW cW : Nat} {off ar : Bool} {af sd op : Int}
end Go.Proofs.Ythpagbfabpfngaa
