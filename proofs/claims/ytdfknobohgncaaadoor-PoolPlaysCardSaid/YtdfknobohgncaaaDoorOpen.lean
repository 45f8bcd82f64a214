/- Plain facts for the law texts of this seat: what a slice of calls that a row hands in is. No statement about the program's functions. -/
import Derived.Test.YtdfknobohgncaaaDoorRows
import Derived.Test.YtdfknobohgncaaaDoorPost
import Derived.Test.YtdfknobohgncaaaDoorFoot
import Derived.WalkKit
import Derived.ProofKit
import Derived.OpenShut
import Derived.Lib.SmallJoins
import Derived.Deep.Slices
import Derived.Deep.Strs
namespace Go.Proofs.YtdfknobohgncaaaDoor
open Go.ChangeShapes Go.WideShapes Go.ChangeAt Go.RowKit Go.Deep

theorem cells30 : Tryd.prog.cellsOf 30 = 3 := by kernel_rfl
theorem cells3 : Tryd.prog.cellsOf 3 = 1 := by kernel_rfl

theorem three_of_len {α : Type} (l : List α) (h : l.length = 3) : ∃ a b c, l = [a, b, c] := by
  rcases l with _ | ⟨a, _ | ⟨b, _ | ⟨c, _ | ⟨d, l⟩⟩⟩⟩
  · simp at h
  · simp at h
  · simp at h
  · exact ⟨a, b, c, rfl⟩
  · simp at h

section
variable {H : Type} {enc : TypeId × Value → H} {w : World} {base : Nat} {spare : Nat → Bool} {held : Bool}

/-- A slice of calls, each of three numbers: its cells. -/
theorem open_ops {fuel : Nat} {sp : Option Addr} {len cap : Nat} {x : DataW H × List MemPlace} (h : DataW.trod enc Tryd.prog w base spare held fuel 22 [.slice sp len cap] = some x) :
    len ≤ maxLen ∧ ∃ (O : List (Int × Int × Int)) (b off : Nat), O.length = len ∧ (0 < len → sp = some ⟨b, off, none⟩ ∧ b < w.heap.size) ∧
      ∀ k, k < len → w.cell? ⟨b, off + k * 3, none⟩ = some (.int .i64 (O.getD k (0, 0, 0)).1) ∧ w.cell? ⟨b, off + k * 3 + 1, none⟩ = some (.int .i64 (O.getD k (0, 0, 0)).2.1) ∧ w.cell? ⟨b, off + k * 3 + 2, none⟩ = some (.int .i64 (O.getD k (0, 0, 0)).2.2) := by
  rcases open_slice Tryd.underlying22 h with ⟨hcs, _⟩ | ⟨a, len', cap', m, n, D, Pl, hcs, _, hl, hm, hmm, _, hi⟩
  · simp at hcs
    obtain ⟨rfl, rfl, rfl⟩ := hcs
    exact ⟨by unfold maxLen; omega, [], 0, 0, rfl, fun h => by omega, fun k hk => by omega⟩
  · simp at hcs
    obtain ⟨rfl, rfl, rfl⟩ := hcs
    have hlm : len ≤ m := by split at hmm <;> omega
    have hone : ∀ k, k < len → ∃ y : Int × Int × Int, w.cell? (a.add (k * 3)) = some (.int .i64 y.1) ∧ w.cell? (a.add (k * 3 + 1)) = some (.int .i64 y.2.1) ∧ w.cell? (a.add (k * 3 + 2)) = some (.int .i64 y.2.2) := by
      intro k hk
      obtain ⟨cs, hc, ht⟩ := hi k (by omega)
      rw [cells30] at hc
      obtain ⟨_, hcl, hat⟩ := World.cells?_some hc
      obtain ⟨y0, y1, y2, n', _, _, t0, t1, t2⟩ := trod_struct3 Tryd.underlying30 ht
      obtain ⟨u0, u1, u2, rfl⟩ := three_of_len cs hcl
      rw [cells3] at t0 t1 t2
      obtain ⟨n0, e0, _⟩ := DataW.trod_int Tryd.underlying3 t0
      obtain ⟨n1, e1, _⟩ := DataW.trod_int Tryd.underlying3 t1
      obtain ⟨n2, e2, _⟩ := DataW.trod_int Tryd.underlying3 t2
      have a0 := hat 0 (by omega)
      have a1 := hat 1 (by omega)
      have a2 := hat 2 (by omega)
      rw [Go.Deep.add_add] at a0 a1 a2
      simp at e0 e1 e2
      subst e0 e1 e2
      exact ⟨(n0, n1, n2), a0, a1, a2⟩
    obtain ⟨f, hf⟩ := choose_lt hone
    refine ⟨by omega, (List.range len).map f, ?_⟩
    have hg : ∀ k, k < len → ((List.range len).map f).getD k (0, 0, 0) = f k := fun k hk => by simp [hk]
    obtain ⟨b, off, spot⟩ := a
    refine ⟨b, off, by simp, fun h0 => ?_, fun k hk => ?_⟩
    · obtain rfl : spot = none := by simpa [Addr.add] using World.cell?_spot (hf 0 h0).1
      exact ⟨rfl, by simpa [Addr.add] using World.block_lt_of_cell? w _ (hf 0 h0).1⟩
    · obtain rfl : spot = none := by simpa [Addr.add] using World.cell?_spot (hf 0 (by omega)).1
      have := hf k hk
      rw [hg k hk]
      rwa [Addr.add_lit, Addr.add_lit, Addr.add_lit] at this
end
end Go.Proofs.YtdfknobohgncaaaDoor
