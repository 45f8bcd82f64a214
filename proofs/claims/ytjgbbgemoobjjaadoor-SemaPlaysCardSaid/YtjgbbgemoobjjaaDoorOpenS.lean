/- Plain facts for the law text of SemaPlays: what a slice of calls that a row hands in is. No statement about the program's functions. -/
import Derived.Test.YtjgbbgemoobjjaaDoorSJ
import Derived.Carry
import Derived.OpenVars
import Derived.ProofKit
import Derived.OpenShut
import Derived.ChangeMaps5
import Derived.LaidMore
import Derived.Lib.SmallJoins
namespace Go.Proofs.YtjgbbgemoobjjaaDoor
open Go.ChangeShapes Go.WideShapes Go.ChangeAt Go.RowKit Go.Deep Go.Joins

theorem cellsOp : Tryd.prog.cellsOf 50 = 2 := by kernel_rfl
theorem cellsInt : Tryd.prog.cellsOf 3 = 1 := by kernel_rfl
theorem two_of_len {α : Type} (l : List α) (h : l.length = 2) : ∃ a b, l = [a, b] := by
  rcases l with _ | ⟨a, _ | ⟨b, _ | ⟨c, l⟩⟩⟩
  · simp at h
  · simp at h
  · exact ⟨a, b, rfl⟩
  · simp at h
section
variable {H : Type} {enc : TypeId × Value → H} {w : World} {base : Nat} {spare : Nat → Bool} {held : Bool}
theorem open_sops {fuel : Nat} {sp : Option Addr} {len cap : Nat} {x : DataW H × List MemPlace} (h : DataW.trod enc Tryd.prog w base spare held fuel 41 [.slice sp len cap] = some x) :
    len ≤ maxLen ∧ ∃ (O : List (Int × Int)) (b off : Nat), O.length = len ∧ OpsS w sp b off O := by
  rcases open_slice Tryd.underlying41 h with ⟨hcs, _⟩ | ⟨a, len', cap', m, n, D, Pl, hcs, _, hl, hm, hmm, _, hi⟩
  · simp at hcs
    obtain ⟨rfl, rfl, rfl⟩ := hcs
    exact ⟨by unfold maxLen; omega, [], 0, 0, rfl, fun h => by simp at h, fun k hk => by simp at hk⟩
  · simp at hcs
    obtain ⟨rfl, rfl, rfl⟩ := hcs
    have hlm : len ≤ m := by split at hmm <;> omega
    have hone : ∀ k, k < len → ∃ y : Int × Int, w.cell? (a.add (k * 2)) = some (.int .i64 y.1) ∧ w.cell? (a.add (k * 2 + 1)) = some (.int .i64 y.2) := by
      intro k hk
      obtain ⟨cs, hc, ht⟩ := hi k (by omega)
      rw [cellsOp] at hc
      obtain ⟨_, hcl, hat⟩ := World.cells?_some hc
      obtain ⟨y0, y1, n', _, _, t0, t1⟩ := trod_struct2 Tryd.underlying50 ht
      obtain ⟨u0, u1, rfl⟩ := two_of_len cs hcl
      rw [cellsInt] at t0 t1
      obtain ⟨n0, e0, _⟩ := DataW.trod_int Tryd.underlying3 t0
      obtain ⟨n1, e1, _⟩ := DataW.trod_int Tryd.underlying3 t1
      have a0 := hat 0 (by omega)
      have a1 := hat 1 (by omega)
      rw [Go.Deep.add_add] at a0 a1
      simp at e0 e1
      subst e0 e1
      exact ⟨(n0, n1), a0, a1⟩
    obtain ⟨f, hf⟩ := choose_lt hone
    have hg : ∀ k, k < len → opS ((List.range len).map f) k = f k := fun k hk => by simp [opS, hk]
    obtain ⟨b, off, spot⟩ := a
    refine ⟨by omega, (List.range len).map f, b, off, by simp, fun h0 => ?_, fun k hk => ?_⟩
    · have h0' : 0 < len := by simpa using h0
      obtain rfl : spot = none := by simpa [Addr.add] using World.cell?_spot (hf 0 h0').1
      exact ⟨rfl, by simpa [Addr.add] using World.block_lt_of_cell? w _ (hf 0 h0').1⟩
    · have hk' : k < len := by simpa using hk
      obtain rfl : spot = none := by simpa [Addr.add] using World.cell?_spot (hf 0 (by omega)).1
      have := hf k hk'
      rw [hg k hk']
      rwa [Addr.add_lit, Addr.add_lit] at this
end
end Go.Proofs.YtjgbbgemoobjjaaDoor
