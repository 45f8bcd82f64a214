/- Plain facts for the law texts of this seat: what slices of numbers, of words and of calls that a row hands in are. No statement about the program's functions. -/
import Derived.Test.YtdfknobohgncaaaRows
import Derived.Test.YtdfknobohgncaaaPost
import Derived.Test.YtdfknobohgncaaaOwn
import Derived.WalkKit
import Derived.ProofKit
import Derived.OpenShut
import Derived.Lib.SmallJoins
import Derived.Deep.Slices
import Derived.Deep.Strs
namespace Go.Proofs.Ytdfknobohgncaaa
open Go.ChangeShapes Go.WideShapes Go.ChangeAt Go.RowKit Go.Deep Go.Joins

theorem own : ownKnob Try.prog.godebug = none := by kernel_rfl
theorem laidOut : laidOutB Try.prog = true := by kernel_rfl
theorem cells3 : Try.prog.cellsOf 3 = 1 := by kernel_rfl

section
variable {H : Type} {enc : TypeId × Value → H} {w : World} {base : Nat} {spare : Nat → Bool} {held : Bool}

/-- A slice of numbers: its cells. -/
theorem open_nums {fuel : Nat} {sp : Option Addr} {len cap : Nat} {x : DataW H × List MemPlace} (h : DataW.trod enc Try.prog w base spare held fuel 49 [.slice sp len cap] = some x) :
    len ≤ maxLen ∧ ∃ (l : List Int) (b off : Nat), l.length = len ∧ (0 < len → sp = some ⟨b, off, none⟩ ∧ b < w.heap.size) ∧ ∀ k, k < len → w.cell? ⟨b, off + k, none⟩ = some (.int .i64 (nth l k)) := by
  rcases open_slice Try.underlying49 h with ⟨hcs, _⟩ | ⟨a, len', cap', m, n, D, Pl, hcs, _, hl, hm, hmm, _, hi⟩
  · simp at hcs
    obtain ⟨rfl, rfl, rfl⟩ := hcs
    exact ⟨by unfold maxLen; omega, [], 0, 0, rfl, fun h => by omega, fun k hk => by omega⟩
  · simp at hcs
    obtain ⟨rfl, rfl, rfl⟩ := hcs
    have hlm : len ≤ m := by split at hmm <;> omega
    have hone : ∀ k, k < len → ∃ y : Int, w.cell? (a.add k) = some (.int .i64 y) := by
      intro k hk
      obtain ⟨cs, hc, ht⟩ := hi k (by omega)
      rw [cells3, Nat.mul_one] at hc
      obtain ⟨_, hcl, hat⟩ := World.cells?_some hc
      obtain ⟨n0, e0, _, hw⟩ := DataW.trod_int Try.underlying3 ht
      have a0 := hat 0 (by omega)
      rw [Go.Deep.add_add] at a0
      subst e0
      exact ⟨n0, by simpa using a0⟩
    obtain ⟨f, hf⟩ := choose_lt hone
    have hg : ∀ k, k < len → nth ((List.range len).map f) k = f k := fun k hk => by simp [nth, hk]
    obtain ⟨b, off, spot⟩ := a
    refine ⟨by omega, (List.range len).map f, b, off, by simp, fun h0 => ?_, fun k hk => ?_⟩
    · obtain rfl : spot = none := by simpa [Addr.add] using World.cell?_spot (hf 0 h0)
      exact ⟨rfl, by simpa [Addr.add] using World.block_lt_of_cell? w _ (hf 0 h0)⟩
    · obtain rfl : spot = none := by simpa [Addr.add] using World.cell?_spot (hf 0 (by omega))
      have := hf k hk
      rw [hg k hk]
      rwa [Addr.add_lit] at this
end
end Go.Proofs.Ytdfknobohgncaaa
