/- The contract of image's Check. -/
import Derived.Test.YtknkhigmokooaaaDoorJI
namespace Go.Proofs.YtknkhigmokooaaaDoor
open Go.RowKit

/-- What is said of an image. -/
def codeAll (x : Img) : Int × Int := if inB x.res 0 8 = true then (if (codeT x).2 = 0 then (if (codeM x).2 = 0 then codeE x else codeM x) else codeT x) else (0, 103)
end Go.Proofs.YtknkhigmokooaaaDoor
