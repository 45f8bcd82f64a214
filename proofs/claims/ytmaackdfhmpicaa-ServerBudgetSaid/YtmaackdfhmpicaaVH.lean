/- The contract of ref10's Has. -/
import Derived.Test.YtmaackdfhmpicaaMSet
import Derived.Test.YtmaackdfhmpicaaVR
import Derived.Handy
import Derived.IntWalk
import Derived.Deep.MidRow
import Derived.Laws.ResultCell
import Derived.Deep.RegionWith
import Derived.Deep.RegionHeld3
import Derived.BigQuiet
import Derived.Deep.QuietTactic
namespace Go.Proofs.Ytmaackdfhmpicaa
open Go.RowKit

theorem odd_test (x : BitVec 32) (k : Nat) : ((w32 x / 2 ^ k).tmod 2 == 1) = x.getLsbD k := by
  have e1 : w32 x / 2 ^ k = ((x.toNat / 2 ^ k : Nat) : Int) := by unfold w32; simp
  have e2 : ((x.toNat / 2 ^ k : Nat) : Int).tmod 2 = ((x.toNat / 2 ^ k % 2 : Nat) : Int) := rfl
  rw [e1, e2, BitVec.getLsbD, Nat.testBit_eq_decide_div_mod_eq]
  have : x.toNat / 2 ^ k % 2 < 2 := Nat.mod_lt _ (by omega)
  rw [Bool.eq_iff_iff, beq_iff_eq, decide_eq_true_iff]
  omega
/-- Is a number in a set? -/
def hasB (x : BitVec 32) (i : Int) : Bool := decide (i ∈ ints (lst x 32))
theorem hasB_nat (x : BitVec 32) (k : Nat) (hk : k < 32) : hasB x (k : Int) = x.getLsbD k := by
  unfold hasB
  rw [Bool.eq_iff_iff, decide_eq_true_iff, mem_ints, Int.toNat_natCast, mem_lst]
  simp [hk]
theorem hasB_none (x : BitVec 32) (i : Int) (h : ¬ (0 ≤ i ∧ i < 32)) : hasB x i = false := by
  unfold hasB
  rw [decide_eq_false_iff_not, mem_ints, mem_lst]
  rintro ⟨h1, h2, -⟩
  exact h ⟨h1, by omega⟩
end Go.Proofs.Ytmaackdfhmpicaa
