/- The contract of image's offsetsMayBe. -/
import Derived.Test.YtknkhigmokooaaaDoorJE
import Derived.Test.YtknkhigmokooaaaDoorVH
namespace Go.Proofs.YtknkhigmokooaaaDoor
open Go.RowKit

/-- How long a task may be offset at most. -/
def mostO (prot : Int) (b : BitVec 32) (k : Nat) : Int := if (prot == 3 && hasB b (k : Int)) = true then 16384 else 0
def offK (l : List Int) (prot : Int) (b : BitVec 32) (k : Nat) : Bool := inB (l.getD k 0) 0 (mostO prot b k)
def offOK (l : List Int) (prot : Int) (b : BitVec 32) : Bool := (List.range 16).all (offK l prot b)
theorem rangeAll_yes {n : Nat} {p : Nat → Bool} (h : ∀ j, j < n → p j = true) : (List.range n).all p = true := by
  rw [List.all_eq_true]; intro j hj; exact h j (List.mem_range.1 hj)
theorem rangeAll_no {n : Nat} {p : Nat → Bool} {k : Nat} (hk : k < n) (h : p k = false) : (List.range n).all p = false := by
  rw [List.all_eq_false]; exact ⟨k, List.mem_range.2 hk, by rw [h]; decide⟩
end Go.Proofs.YtknkhigmokooaaaDoor
