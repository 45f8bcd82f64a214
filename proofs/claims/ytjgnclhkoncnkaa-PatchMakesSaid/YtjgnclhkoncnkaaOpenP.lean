/- What words, and pieces, are that a row hands in. No statement about the program's functions. -/
import Derived.Test.YtjgnclhkoncnkaaVO
import Derived.Test.YtjgnclhkoncnkaaWE
namespace Go.Proofs.Ytjgnclhkoncnkaa
open Go.ChangeShapes Go.WideShapes Go.ChangeAt Go.RowKit Go.Deep Go.Joins

theorem cellsU32 : Try.prog.cellsOf 73 = 1 := by kernel_rfl
theorem cellsI64 : Try.prog.cellsOf 3 = 1 := by kernel_rfl
theorem cellsUs : Try.prog.cellsOf 63 = 1 := by kernel_rfl
theorem cellsOp : Try.prog.cellsOf 70 = 3 := by kernel_rfl
theorem three_of_len {α : Type} (l : List α) (h : l.length = 3) : ∃ a b c, l = [a, b, c] := by
  rcases l with _ | ⟨a, _ | ⟨b, _ | ⟨c, _ | ⟨d, l⟩⟩⟩⟩
  · simp at h
  · simp at h
  · simp at h
  · exact ⟨a, b, c, rfl⟩
  · simp at h
section
variable {H : Type} {enc : TypeId × Value → H} {w : World} {base : Nat} {spare : Nat → Bool} {held : Bool}
/-- A slice of words. -/
theorem open_wordsP {fuel : Nat} {cs : List Value} {x : DataW H × List MemPlace} (h : DataW.trod enc Try.prog w base spare held fuel 63 cs = some x) :
    ∃ (S : Src) (l : List Int), cs = [.slice S.sp l.length S.c] ∧ WAt w S l := by
  rcases open_slice Try.underlying63 h with ⟨hcs, _⟩ | ⟨a, len, cap, m, n, D, Pl, hcs, _, hl, hm, hmm, _, hi⟩
  · exact ⟨⟨none, 0, 0, 0⟩, [], hcs, ⟨⟨fun h => absurd h (Nat.lt_irrefl 0), by simp⟩, fun k hk => absurd hk (Nat.not_lt_zero k), Nat.le_refl _⟩⟩
  · have hlm : len ≤ m := by split at hmm <;> omega
    have hone : ∀ k, k < len → ∃ y : Int, w.cell? (a.add k) = some (.int .u32 y) := by
      intro k hk
      obtain ⟨cs, hc, ht⟩ := hi k (by omega)
      rw [cellsU32, Nat.mul_one] at hc
      obtain ⟨_, hcl, hat⟩ := World.cells?_some hc
      obtain ⟨n0, e0, _⟩ := DataW.trod_int Try.underlying73 ht
      have a0 := hat 0 (by omega)
      rw [Go.Deep.add_add] at a0
      subst e0
      exact ⟨n0, by simpa using a0⟩
    obtain ⟨f, hf⟩ := choose_lt hone
    obtain ⟨b, off, spot⟩ := a
    have hll : ((List.range len).map f).length = len := by rw [List.length_map, List.length_range]
    refine ⟨⟨some ⟨b, off, spot⟩, b, off, cap⟩, (List.range len).map f, by rw [hll]; exact hcs, ⟨⟨fun h0 => ?_, by rw [hll]; unfold maxLen at hm; omega⟩, fun k hk => ?_, by rw [hll]; exact hl⟩⟩
    · rw [hll] at h0
      obtain rfl : spot = none := by simpa [Addr.add] using World.cell?_spot (hf 0 h0)
      exact ⟨rfl, by simpa [Addr.add] using World.block_lt_of_cell? w _ (hf 0 h0), fun h => h⟩
    · rw [hll] at hk
      obtain rfl : spot = none := by simpa [Addr.add] using World.cell?_spot (hf 0 (by omega))
      have := hf k hk
      rw [Addr.add_lit] at this
      rw [this]
      simp [nth, List.getD, hk]
/-- A slice of pieces. -/
theorem open_ops {fuel : Nat} {sp : Option Addr} {len cap : Nat} {x : DataW H × List MemPlace} (h : DataW.trod enc Try.prog w base spare held fuel 64 [.slice sp len cap] = some x) :
    ∃ (l : List OpI) (b off : Nat) (Sn : Nat → Src), l.length = len ∧ PAt w ⟨sp, b, off, cap⟩ l Sn ∧ ∀ o ∈ l, o.fr ≤ 9223372036854775807 := by
  rcases open_slice Try.underlying64 h with ⟨hcs, _⟩ | ⟨a, len', cap', m, n, D, Pl, hcs, _, hl, hm, hmm, _, hi⟩
  · simp at hcs
    obtain ⟨rfl, rfl, rfl⟩ := hcs
    exact ⟨[], 0, 0, fun _ => default, rfl, ⟨⟨fun h => by simp at h, by simp⟩, fun k hk => by simp at hk, fun k hk => by simp at hk, fun k hk => by simp at hk, fun k hk => by simp at hk⟩, fun o ho => by simp at ho⟩
  · simp at hcs
    obtain ⟨rfl, rfl, rfl⟩ := hcs
    have hlm : len ≤ m := by split at hmm <;> omega
    have hone : ∀ k, k < len → ∃ y : OpI × Src, w.cell? (a.add (k * 3)) = some (.int .i64 y.1.fr) ∧ w.cell? (a.add (k * 3 + 1)) = some (.int .i64 y.1.many) ∧ w.cell? (a.add (k * 3 + 2)) = some (.slice y.2.sp y.1.new.length y.2.c) ∧ WAt w y.2 y.1.new ∧ y.1.fr ≤ 9223372036854775807 := by
      intro k hk
      obtain ⟨cs, hc, ht⟩ := hi k (by omega)
      rw [cellsOp] at hc
      obtain ⟨_, hcl, hat⟩ := World.cells?_some hc
      obtain ⟨y0, y1, y2, n', _, _, t0, t1, t2⟩ := trod_struct3 Try.underlying70 ht
      obtain ⟨u0, u1, u2, rfl⟩ := three_of_len cs hcl
      rw [cellsI64] at t0 t1
      rw [cellsUs] at t2
      obtain ⟨n0, e0, _, g0⟩ := DataW.trod_int Try.underlying3 t0
      obtain ⟨n1, e1, _⟩ := DataW.trod_int Try.underlying3 t1
      obtain ⟨S, l, e2, hw⟩ := open_wordsP t2
      have a0 := hat 0 (by omega)
      have a1 := hat 1 (by omega)
      have a2 := hat 2 (by omega)
      rw [Go.Deep.add_add] at a0 a1 a2
      simp at e0 e1 e2
      subst e0 e1 e2
      exact ⟨(⟨n0, n1, l⟩, S), a0, a1, a2, hw, (int_of g0).2⟩
    obtain ⟨f, hf⟩ := choose_lt hone
    obtain ⟨b, off, spot⟩ := a
    have spn : ∀ k, k < len → spot = none := fun k hk => by simpa [Addr.add] using World.cell?_spot (hf 0 (by omega)).1
    have hll : ((List.range len).map fun k => (f k).1).length = len := by rw [List.length_map, List.length_range]
    have hg : ∀ k, k < len → ((List.range len).map fun k => (f k).1).getD k default = (f k).1 := fun k hk => by simp [List.getD, hk]
    refine ⟨(List.range len).map fun k => (f k).1, b, off, fun k => (f k).2, hll, ⟨⟨fun h0 => ?_, ?_⟩, ?_, ?_, ?_, ?_⟩, fun o ho => ?_⟩
    · rw [hll] at h0
      obtain rfl := spn 0 h0
      exact ⟨rfl, by simpa [Addr.add] using World.block_lt_of_cell? w _ (hf 0 h0).1, fun h => h⟩
    · rw [hll]
      unfold maxLen at hm
      omega
    · intro k hk
      rw [hll] at hk
      obtain rfl := spn k hk
      have := (hf k hk).1
      rw [Addr.add_lit] at this
      rw [hg k hk]; exact this
    · intro k hk
      rw [hll] at hk
      obtain rfl := spn k hk
      have := (hf k hk).2.1
      rw [Addr.add_lit] at this
      rw [hg k hk]; exact this
    · intro k hk
      rw [hll] at hk
      obtain rfl := spn k hk
      have := (hf k hk).2.2.1
      rw [Addr.add_lit] at this
      rw [hg k hk]; exact this
    · intro k hk
      rw [hll] at hk
      rw [hg k hk]; exact (hf k hk).2.2.2.1
    · obtain ⟨k, hk, rfl⟩ := List.mem_map.1 ho
      exact (hf k (List.mem_range.1 hk)).2.2.2.2
end
end Go.Proofs.Ytjgnclhkoncnkaa
