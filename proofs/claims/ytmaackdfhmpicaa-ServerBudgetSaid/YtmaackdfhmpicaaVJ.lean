/- What an image that a row hands in is. No statement about the program's functions. -/
import Derived.Test.YtmaackdfhmpicaaVO
import Derived.Test.YtmaackdfhmpicaaIA
namespace Go.Proofs.Ytmaackdfhmpicaa
open Go.ChangeShapes Go.WideShapes Go.ChangeAt Go.RowKit Go.Deep Go.Joins

theorem cellsTask : Try.prog.cellsOf 44 = 11 := by kernel_rfl
theorem cellsI : Try.prog.cellsOf 3 = 1 := by kernel_rfl
theorem cellsW32 : Try.prog.cellsOf 99 = 1 := by kernel_rfl
theorem cellsA8 : Try.prog.cellsOf 42 = 8 := by kernel_rfl
theorem at_add {w : World} {b off k n : Nat} {l : List Value} (h : ∀ j, j < n → w.cell? (((⟨b, off, none⟩ : Addr).add k).add j) = l[j]?) (hl : l.length = n) : At w b (off + k) l := by
  intro j u hu
  have hj := (List.getElem?_eq_some_iff.1 hu).1
  have := h j (by omega)
  rw [Addr.add_lit, Addr.add_lit] at this
  rw [this, hu]
section
variable {H : Type} {enc : TypeId × Value → H} {w : World} {base : Nat} {spare : Nat → Bool} {held : Bool}
/-- An array of numbers. -/
theorem open_arr {t : TypeId} {n fuel : Nat} {cs : List Value} {x : DataW H × List MemPlace} (hu : Try.prog.underlying t = some (.array n 3)) (hc : Try.prog.cellsOf t = n) (h : DataW.trod enc Try.prog w base spare held fuel t cs = some x) :
    ∃ zs : List Int, cs = rowZ zs ∧ zs.length = n := by
  obtain ⟨xs, m, _, _, hl, hxl, hf⟩ := DataW.trod_array hu h
  rw [hc] at hl
  have hone : ∀ i, i < n → ∃ z : Int, cs[i]? = some (.int .i64 z) := fun i hi => by
    have h1 := hf i hi
    rw [cellsI, Nat.mul_one, List.getElem?_eq_getElem (by omega : i < xs.length)] at h1
    obtain ⟨z, e, _⟩ := DataW.trod_int Try.underlying3 h1
    refine ⟨z, ?_⟩
    have := congrArg (·[0]?) e
    simpa [List.getElem?_take, List.getElem?_drop] using this
  obtain ⟨f, hfz⟩ := choose_lt hone
  refine ⟨(List.range n).map f, ?_, by simp⟩
  apply List.ext_getElem?
  intro i
  by_cases hi : i < n
  · rw [hfz i hi]; simp [rowZ, hi]
  · rw [List.getElem?_eq_none (by omega), List.getElem?_eq_none (by simp [rowZ]; omega)]
theorem open_task {fuel : Nat} {cs : List Value} {x : DataW H × List MemPlace} (h : DataW.trod enc Try.prog w base spare held fuel 44 cs = some x) : ∃ t : TaskM, cs = taskC t ∧ t.lon.length = 8 := by
  obtain ⟨y0, y1, y2, y3, n, _, hl, t0, t1, t2, t3⟩ := trod_struct4 Try.underlying44 h
  rw [cellsTask] at hl
  rw [cellsI] at t0 t1 t2
  rw [cellsA8] at t3
  obtain ⟨z3, e3, l3⟩ := open_arr Try.underlying42 cellsA8 t3
  obtain ⟨z0, e0, _⟩ := DataW.trod_int Try.underlying3 t0
  obtain ⟨z1, e1, _⟩ := DataW.trod_int Try.underlying3 t1
  obtain ⟨z2, e2, _⟩ := DataW.trod_int Try.underlying3 t2
  rcases cs with _ | ⟨c0, _ | ⟨c1, _ | ⟨c2, r⟩⟩⟩
  · simp at hl
  · simp at hl
  · simp at hl
  · simp at e0 e1 e2
    subst e0 e1 e2
    have hr : r.length = 8 := by simpa using hl
    rw [show List.take 8 (List.drop 3 (Value.int .i64 z0 :: Value.int .i64 z1 :: Value.int .i64 z2 :: r)) = r from by
      rw [List.drop_succ_cons, List.drop_succ_cons, List.drop_succ_cons, List.drop_zero, List.take_of_length_le (by omega)]] at e3
    exact ⟨⟨z0, z1, z2, z3⟩, by rw [e3]; rfl, l3⟩
set_option maxRecDepth 100000 in
theorem open_tasks {fuel : Nat} {cs : List Value} {x : DataW H × List MemPlace} (h : DataW.trod enc Try.prog w base spare held fuel 22 cs = some x) :
    ∃ (S : Src) (L : List TaskM), cs = [.slice S.sp L.length S.c] ∧ SlAt w (fun _ => False) S L.length ∧ ∀ k, k < L.length → At w S.b (S.o + k * 11) (taskC (L.getD k default)) ∧ (L.getD k default).lon.length = 8 := by
  rcases open_slice Try.underlying22 h with ⟨hcs, _⟩ | ⟨a, len, cap, m, n, D, Pl, hcs, _, hl, hm, hmm, _, hi⟩
  · exact ⟨⟨none, 0, 0, 0⟩, [], hcs, ⟨fun h0 => absurd h0 (Nat.lt_irrefl 0), Nat.zero_le _⟩, fun k hk => absurd hk (Nat.not_lt_zero k)⟩
  · have hlm : len ≤ m := by split at hmm <;> omega
    have hone : ∀ k, k < len → ∃ t : TaskM, (∀ j, j < 11 → w.cell? ((a.add (k * 11)).add j) = (taskC t)[j]?) ∧ t.lon.length = 8 := fun k hk => by
      obtain ⟨cs, hc, ht⟩ := hi k (by omega)
      rw [cellsTask] at hc
      obtain ⟨_, hcl, hat⟩ := World.cells?_some hc
      obtain ⟨t, rfl, h8⟩ := open_task ht
      exact ⟨t, fun j hj => hat j hj, h8⟩
    obtain ⟨f, hf⟩ := choose_lt hone
    obtain ⟨b, off, spot⟩ := a
    have hsp : 0 < len → spot = none := fun h0 => by
      have := (hf 0 h0).1 0 (by omega)
      simpa [Addr.add] using World.cell?_spot (this.trans rfl)
    have hlt : 0 < len → b < w.heap.size := fun h0 => by
      have := (hf 0 h0).1 0 (by omega)
      simpa [Addr.add] using World.block_lt_of_cell? w _ (this.trans rfl)
    have hg : ∀ k, k < len → ((List.range len).map f).getD k default = f k := fun k hk => by simp [hk]
    refine ⟨⟨some ⟨b, off, spot⟩, b, off, cap⟩, (List.range len).map f, by simpa using hcs, ⟨fun h0 => ?_, by unfold maxLen at hm; simp; omega⟩, fun k hk => ?_⟩
    · have h0' : 0 < len := by simpa using h0
      exact ⟨by rw [hsp h0'], hlt h0', fun h => h⟩
    · have hk' : k < len := by simpa using hk
      obtain rfl := hsp (by omega)
      rw [hg k hk']
      refine ⟨at_add (hf k hk').1 ?_, (hf k hk').2⟩
      simp [taskC, rowZ, (hf k hk').2]
end
end Go.Proofs.Ytmaackdfhmpicaa
