/- The contract of image's checkModes. -/
import Derived.Test.YtknkhigmokooaaaDoorJD
namespace Go.Proofs.YtknkhigmokooaaaDoor
open Go.RowKit

/-- Are a mode's tasks there? -/
def mdT (x : Img) (k : Nat) : Bool := (tasksM x (k : Int) &&& ~~~allI x) == 0#32
def mdOK (x : Img) (k : Nat) : Bool := mdT x k && queuesOK (x.m k).qs
def codeMo (x : Img) (o : Option Nat) : Int × Int := match o with | some k => ((k : Int), if mdT x k = true then (104 : Int) else 101) | none => (0, 0)
/-- What is said of an image's modes. -/
def codeM (x : Img) : Int × Int := if inB (x.modes.length : Int) 1 8 = true then codeMo x (firstNo x.modes.length (mdOK x)) else ((x.modes.length : Int), 101)
theorem mdT_iff (x : Img) (k : Nat) : mdT x k = decide (w32 (tasksM x (k : Int) &&& ~~~allI x) = 0) := by
  unfold mdT
  rw [Bool.eq_iff_iff, beq_iff_eq, decide_eq_true_iff]
  constructor
  · intro h; rw [h]; rfl
  · intro h
    have : w32 (tasksM x (k : Int) &&& ~~~allI x) = w32 0#32 := by rw [h]; rfl
    exact w32_inj.1 this
theorem rrKeep {w wa wb : World} {Z E : Nat} {a b : Array Value} {ta tb : TypeId} (h : Below w.heap.size w wa ∧ RowAt wa Z ta a ∧ RowAt wa E tb b) (hb : Below wa.heap.size wa wb) :
    Below w.heap.size w wb ∧ RowAt wb Z ta a ∧ RowAt wb E tb b := ⟨h.1.trans (hb.mono h.1.size), h.2.1.new hb, h.2.2.new hb⟩
theorem rrD {w wa : World} {Z E : Nat} {a b : Array Value} {ta tb : TypeId} (h : Below w.heap.size w wa ∧ RowAt wa Z ta a ∧ RowAt wa E tb b) :
    Below w.heap.size w wa.drew ∧ RowAt wa.drew Z ta a ∧ RowAt wa.drew E tb b := ⟨below_dn h.1 1, h.2⟩
end Go.Proofs.YtknkhigmokooaaaDoor
