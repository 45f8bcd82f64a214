/- The contract of image's checkEdges. -/
import Derived.Test.YtknkhigmokooaaaDoorJH
namespace Go.Proofs.YtknkhigmokooaaaDoor
open Go.RowKit

/-- What is said of an image's edges. -/
def codeE (x : Img) : Int × Int := if 24 < x.edges.length then ((x.edges.length : Int), 102) else codeOf (firstNo x.edges.length (edgeOK x)) 102
end Go.Proofs.YtknkhigmokooaaaDoor
