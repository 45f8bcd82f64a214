/- The contracts of slices' Equal on tasks and on edges. -/
import Derived.Test.YtknkhigmokooaaaDoorJK
import Derived.Test.YtknkhigmokooaaaDoorJX
namespace Go.Proofs.YtknkhigmokooaaaDoor
open Go.RowKit

/-- Are two images' tasks the same? -/
def tasksEq (x y : Img) : Bool := decide (x.tasks.length = y.tasks.length) && (List.range x.tasks.length).all fun k => tEq (x.t k) (y.t k)
/-- Are two images' edges the same? -/
def edgesEq (x y : Img) : Bool := decide (x.edges.length = y.edges.length) && (List.range x.edges.length).all fun k => eEq (x.e k) (y.e k)
end Go.Proofs.YtknkhigmokooaaaDoor
