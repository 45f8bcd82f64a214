/- The contract of image's Same. -/
import Derived.Test.YtknkhigmokooaaaDoorJY
import Derived.WalkMore
namespace Go.Proofs.YtknkhigmokooaaaDoor
open Go.RowKit

/-- Are two lists of queues the same? -/
def qsEq (a b : List (Int × Int)) : Bool := decide (a.length = b.length) && (List.range a.length).all fun j => decide ((qth a j).1 = (qth b j).1 ∧ (qth a j).2 = (qth b j).2)
def modeEq (x y : Img) (k : Nat) : Bool := decide (w32 (x.m k).tasks = w32 (y.m k).tasks) && qsEq (x.m k).qs (y.m k).qs
/-- Are two images the same? -/
def imgEq (x y : Img) : Bool := decide (x.res = y.res) && (decide (x.modes.length = y.modes.length) && (tasksEq x y && (edgesEq x y && (List.range x.modes.length).all (modeEq x y))))
theorem queueAt {w : World} {V : Nat → Prop} {x : Img} {S : ImgS} (h : ImgAt w V x S) (k : Nat) (hk : k < x.modes.length) (j : Nat) (hj : j < (x.m k).qs.length) : At w (S.q k).b ((S.q k).o + j * 2) [.int .i64 (qth (x.m k).qs j).1, .int .i64 (qth (x.m k).qs j).2] := fun i u hu => by
  rcases i with _ | _ | i
  · obtain rfl : _ = u := by simpa using hu
    exact (h.qu k hk j hj).1
  · obtain rfl : _ = u := by simpa using hu
    exact (h.qu k hk j hj).2
  · simp at hu
end Go.Proofs.YtknkhigmokooaaaDoor
