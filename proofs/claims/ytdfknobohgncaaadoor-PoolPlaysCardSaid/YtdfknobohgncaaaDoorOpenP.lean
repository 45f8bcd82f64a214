/- Plain facts for the law text of PoolPlays: what a slice of calls that a row hands in is. No statement about the program's functions. -/
import Derived.Test.YtdfknobohgncaaaDoorOpen
import Derived.Test.YtdfknobohgncaaaDoorPI
import Derived.Lib.SmallJoins
namespace Go.Proofs.YtdfknobohgncaaaDoor
open Go.ChangeShapes Go.WideShapes Go.ChangeAt Go.RowKit Go.Deep Go.Joins

theorem cells52 : Tryd.prog.cellsOf 52 = 5 := by kernel_rfl
theorem cells50 : Tryd.prog.cellsOf 50 = 2 := by kernel_rfl
theorem cells4 : Tryd.prog.cellsOf 4 = 1 := by kernel_rfl
theorem five_of_len {α : Type} (l : List α) (h : l.length = 5) : ∃ a b c d e, l = [a, b, c, d, e] := by
  rcases l with _ | ⟨a, _ | ⟨b, _ | ⟨c, _ | ⟨d, _ | ⟨e, _ | ⟨f, l⟩⟩⟩⟩⟩⟩
  · simp at h
  · simp at h
  · simp at h
  · simp at h
  · simp at h
  · exact ⟨a, b, c, d, e, rfl⟩
  · simp at h
section
variable {H : Type} {enc : TypeId × Value → H} {w : World} {base : Nat} {spare : Nat → Bool} {held : Bool}
theorem open_pops {fuel : Nat} {sp : Option Addr} {len cap : Nat} {x : DataW H × List MemPlace} (h : DataW.trod enc Tryd.prog w base spare held fuel 41 [.slice sp len cap] = some x) :
    len ≤ maxLen ∧ ∃ (O : List (Bool × Bool × Int × Int × Int)) (b off : Nat), O.length = len ∧ OpsP w sp b off O := by
  rcases open_slice Tryd.underlying41 h with ⟨hcs, _⟩ | ⟨a, len', cap', m, n, D, Pl, hcs, _, hl, hm, hmm, _, hi⟩
  · simp at hcs
    obtain ⟨rfl, rfl, rfl⟩ := hcs
    exact ⟨by unfold maxLen; omega, [], 0, 0, rfl, fun h => by simp at h, fun k hk => by simp at hk⟩
  · simp at hcs
    obtain ⟨rfl, rfl, rfl⟩ := hcs
    have hlm : len ≤ m := by split at hmm <;> omega
    have hone : ∀ k, k < len → ∃ y : Bool × Bool × Int × Int × Int, w.cell? (a.add (k * 5)) = some (.bool y.1) ∧ w.cell? (a.add (k * 5 + 1)) = some (.bool y.2.1) ∧ w.cell? (a.add (k * 5 + 2)) = some (.int .i64 y.2.2.1) ∧ w.cell? (a.add (k * 5 + 3)) = some (.int .i64 y.2.2.2.1) ∧ w.cell? (a.add (k * 5 + 4)) = some (.int .i64 y.2.2.2.2) := by
      intro k hk
      obtain ⟨cs, hc, ht⟩ := hi k (by omega)
      rw [cells52] at hc
      obtain ⟨_, hcl, hat⟩ := World.cells?_some hc
      obtain ⟨y0, y1, y2, y3, n', _, _, t0, t1, t2, t3⟩ := trod_struct4 Tryd.underlying52 ht
      obtain ⟨u0, u1, u2, u3, u4, rfl⟩ := five_of_len cs hcl
      rw [cells4] at t0 t1
      rw [cells3] at t2
      rw [cells50] at t3
      obtain ⟨b0, e0, _⟩ := DataW.trod_bool Tryd.underlying4 t0
      obtain ⟨b1, e1, _⟩ := DataW.trod_bool Tryd.underlying4 t1
      obtain ⟨n2, e2, _⟩ := DataW.trod_int Tryd.underlying3 t2
      obtain ⟨z0, z1, n'', _, _, s0, s1⟩ := trod_struct2 Tryd.underlying50 t3
      rw [cells3] at s0 s1
      obtain ⟨n3, e3, _⟩ := DataW.trod_int Tryd.underlying3 s0
      obtain ⟨n4, e4, _⟩ := DataW.trod_int Tryd.underlying3 s1
      have a0 := hat 0 (by omega)
      have a1 := hat 1 (by omega)
      have a2 := hat 2 (by omega)
      have a3 := hat 3 (by omega)
      have a4 := hat 4 (by omega)
      rw [Go.Deep.add_add] at a0 a1 a2 a3 a4
      simp at e0 e1 e2 e3 e4
      subst e0 e1 e2 e3 e4
      exact ⟨(b0, b1, n2, n3, n4), a0, a1, a2, a3, a4⟩
    obtain ⟨f, hf⟩ := choose_lt hone
    have hg : ∀ k, k < len → opP ((List.range len).map f) k = f k := fun k hk => by simp [opP, hk]
    obtain ⟨b, off, spot⟩ := a
    refine ⟨by omega, (List.range len).map f, b, off, by simp, fun h0 => ?_, fun k hk => ?_⟩
    · have h0' : 0 < len := by simpa using h0
      obtain rfl : spot = none := by simpa [Addr.add] using World.cell?_spot (hf 0 h0').1
      exact ⟨rfl, by simpa [Addr.add] using World.block_lt_of_cell? w _ (hf 0 h0').1⟩
    · have hk' : k < len := by simpa using hk
      obtain rfl : spot = none := by simpa [Addr.add] using World.cell?_spot (hf 0 (by omega)).1
      have := hf k hk'
      rw [hg k hk']
      rwa [Addr.add_lit, Addr.add_lit, Addr.add_lit, Addr.add_lit, Addr.add_lit] at this
end
end Go.Proofs.YtdfknobohgncaaaDoor
