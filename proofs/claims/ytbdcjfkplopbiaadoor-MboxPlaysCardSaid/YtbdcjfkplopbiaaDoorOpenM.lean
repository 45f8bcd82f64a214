/- Plain facts for the law text of MboxPlays: what a slice of calls that a row hands in is. No statement about the program's functions. -/
import Derived.Test.YtbdcjfkplopbiaaDoorUT
import Derived.Carry
import Derived.OpenVars
import Derived.ProofKit
import Derived.OpenShut
import Derived.ChangeMaps5
import Derived.LaidMore
import Derived.Lib.SmallJoins
namespace Go.Proofs.YtbdcjfkplopbiaaDoor
open Go.ChangeShapes Go.WideShapes Go.ChangeAt Go.RowKit Go.Deep Go.Joins

theorem cellsOp : Tryd.prog.cellsOf 32 = 3 := by kernel_rfl
theorem cellsNote : Tryd.prog.cellsOf 30 = 2 := by kernel_rfl
theorem cellsBool : Tryd.prog.cellsOf 4 = 1 := by kernel_rfl
theorem cellsInt : Tryd.prog.cellsOf 3 = 1 := by kernel_rfl
theorem three_of_len {α : Type} (l : List α) (h : l.length = 3) : ∃ a b c, l = [a, b, c] := by
  rcases l with _ | ⟨a, _ | ⟨b, _ | ⟨c, _ | ⟨d, l⟩⟩⟩⟩
  · simp at h
  · simp at h
  · simp at h
  · exact ⟨a, b, c, rfl⟩
  · simp at h
section
variable {H : Type} {enc : TypeId × Value → H} {w : World} {base : Nat} {spare : Nat → Bool} {held : Bool}
theorem open_mops {fuel : Nat} {sp : Option Addr} {len cap : Nat} {x : DataW H × List MemPlace} (h : DataW.trod enc Tryd.prog w base spare held fuel 22 [.slice sp len cap] = some x) :
    len ≤ maxLen ∧ ∃ (O : List (Bool × Int × Int)) (b off : Nat), O.length = len ∧ OpsM w sp b off O := by
  rcases open_slice Tryd.underlying22 h with ⟨hcs, _⟩ | ⟨a, len', cap', m, n, D, Pl, hcs, _, hl, hm, hmm, _, hi⟩
  · simp at hcs
    obtain ⟨rfl, rfl, rfl⟩ := hcs
    exact ⟨by unfold maxLen; omega, [], 0, 0, rfl, fun h => by simp at h, fun k hk => by simp at hk⟩
  · simp at hcs
    obtain ⟨rfl, rfl, rfl⟩ := hcs
    have hlm : len ≤ m := by split at hmm <;> omega
    have hone : ∀ k, k < len → ∃ y : Bool × Int × Int, w.cell? (a.add (k * 3)) = some (.bool y.1) ∧ w.cell? (a.add (k * 3 + 1)) = some (.int .i64 y.2.1) ∧ w.cell? (a.add (k * 3 + 2)) = some (.int .i64 y.2.2) := by
      intro k hk
      obtain ⟨cs, hc, ht⟩ := hi k (by omega)
      rw [cellsOp] at hc
      obtain ⟨_, hcl, hat⟩ := World.cells?_some hc
      obtain ⟨y0, y1, n', _, _, t0, t1⟩ := trod_struct2 Tryd.underlying32 ht
      obtain ⟨u0, u1, u2, rfl⟩ := three_of_len cs hcl
      obtain ⟨z0, z1, n2, _, _, s0, s1⟩ := trod_struct2 Tryd.underlying30 t1
      rw [cellsBool] at t0
      rw [cellsNote] at s0 s1
      rw [cellsInt] at s0 s1
      obtain ⟨b0, e0, _⟩ := DataW.trod_bool Tryd.underlying4 t0
      obtain ⟨n0, e1, _⟩ := DataW.trod_int Tryd.underlying3 s0
      obtain ⟨n1, e2, _⟩ := DataW.trod_int Tryd.underlying3 s1
      have a0 := hat 0 (by omega)
      have a1 := hat 1 (by omega)
      have a2 := hat 2 (by omega)
      rw [Go.Deep.add_add] at a0 a1 a2
      simp at e0 e1 e2
      subst e0 e1 e2
      exact ⟨(b0, n0, n1), a0, a1, a2⟩
    obtain ⟨f, hf⟩ := choose_lt hone
    have hg : ∀ k, k < len → opM ((List.range len).map f) k = f k := fun k hk => by simp [opM, hk]
    obtain ⟨b, off, spot⟩ := a
    refine ⟨by omega, (List.range len).map f, b, off, by simp, fun h0 => ?_, fun k hk => ?_⟩
    · have h0' : 0 < len := by simpa using h0
      obtain rfl : spot = none := by simpa [Addr.add] using World.cell?_spot (hf 0 h0').1
      exact ⟨rfl, by simpa [Addr.add] using World.block_lt_of_cell? w _ (hf 0 h0').1⟩
    · have hk' : k < len := by simpa using hk
      obtain rfl : spot = none := by simpa [Addr.add] using World.cell?_spot (hf 0 (by omega)).1
      have := hf k hk'
      rw [hg k hk']
      rwa [Addr.add_lit, Addr.add_lit, Addr.add_lit] at this
end
end Go.Proofs.YtbdcjfkplopbiaaDoor
