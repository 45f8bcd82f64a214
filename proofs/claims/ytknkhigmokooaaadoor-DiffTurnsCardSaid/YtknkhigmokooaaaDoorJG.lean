/- The contract of image's mapMayBe. -/
import Derived.Test.YtknkhigmokooaaaDoorJF
namespace Go.Proofs.YtknkhigmokooaaaDoor
open Go.RowKit

/-- Which queues the first ones become. -/
def takenB (l : List Int) : Nat → BitVec 32
  | 0 => 0#32
  | k + 1 => if l.getD k 0 = 0 then takenB l k else takenB l k ||| onl (l.getD k 0)
def mapK (l : List Int) (f t : Int) (k : Nat) : Bool := inB (l.getD k 0) 0 t && (decide (l.getD k 0 = 0) || (decide ((k : Int) < f) && !hasB (takenB l k) (l.getD k 0)))
def mapOK (l : List Int) (f t : Int) : Bool := (List.range 4).all (mapK l f t)
end Go.Proofs.YtknkhigmokooaaaDoor
