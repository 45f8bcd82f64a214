/- What a task, and a slice of sections, is that a row hands in. No statement about the program's functions. -/
import Derived.Test.YtcipkkeegbfaeaaVO
import Derived.Test.YtcipkkeegbfaeaaXO
namespace Go.Proofs.Ytcipkkeegbfaeaa
open Go.ChangeShapes Go.WideShapes Go.ChangeAt Go.RowKit Go.Deep Go.Joins

/-- Numbers, as cells. -/
def rowZ (l : List Int) : List Value := l.map (.int .i64)
theorem cellsTask : Try.prog.cellsOf 62 = 11 := by kernel_rfl
theorem cellsSec : Try.prog.cellsOf 99 = 3 := by kernel_rfl
theorem cellsI : Try.prog.cellsOf 3 = 1 := by kernel_rfl
theorem cellsA8 : Try.prog.cellsOf 60 = 8 := by kernel_rfl
theorem three_of_len {α : Type} (l : List α) (h : l.length = 3) : ∃ a b c, l = [a, b, c] := by
  rcases l with _ | ⟨a, _ | ⟨b, _ | ⟨c, _ | ⟨d, l⟩⟩⟩⟩
  · simp at h
  · simp at h
  · simp at h
  · exact ⟨a, b, c, rfl⟩
  · simp at h
section
variable {H : Type} {enc : TypeId × Value → H} {w : World} {base : Nat} {spare : Nat → Bool} {held : Bool}
/-- An array of numbers. -/
theorem open_arr {t : TypeId} {n fuel : Nat} {cs : List Value} {x : DataW H × List MemPlace} (hu : Try.prog.underlying t = some (.array n 3)) (hc : Try.prog.cellsOf t = n) (h : DataW.trod enc Try.prog w base spare held fuel t cs = some x) :
    ∃ zs : List Int, cs = rowZ zs ∧ zs.length = n := by
  obtain ⟨xs, m, _, _, hl, hxl, hf⟩ := DataW.trod_array hu h
  rw [hc] at hl
  have hone : ∀ i, i < n → ∃ z : Int, cs[i]? = some (.int .i64 z) := fun i hi => by
    have h1 := hf i hi
    rw [cellsI, Nat.mul_one, List.getElem?_eq_getElem (by omega : i < xs.length)] at h1
    obtain ⟨z, e, _⟩ := DataW.trod_int Try.underlying3 h1
    refine ⟨z, ?_⟩
    have := congrArg (·[0]?) e
    simpa [List.getElem?_take, List.getElem?_drop] using this
  obtain ⟨f, hfz⟩ := choose_lt hone
  refine ⟨(List.range n).map f, ?_, by simp⟩
  apply List.ext_getElem?
  intro i
  by_cases hi : i < n
  · rw [hfz i hi]; simp [rowZ, hi]
  · rw [List.getElem?_eq_none (by omega), List.getElem?_eq_none (by simp [rowZ]; omega)]
theorem open_taskJ {fuel : Nat} {cs : List Value} {x : DataW H × List MemPlace} (h : DataW.trod enc Try.prog w base spare held fuel 62 cs = some x) :
    ∃ (a0 a1 a2 : Int) (f : Nat → Int), cs = [.int .i64 a0, .int .i64 a1, .int .i64 a2, .int .i64 (f 0), .int .i64 (f 1), .int .i64 (f 2), .int .i64 (f 3), .int .i64 (f 4), .int .i64 (f 5), .int .i64 (f 6), .int .i64 (f 7)] ∧ (Lit.int .i64 a1).wf = true ∧ (Lit.int .i64 a2).wf = true := by
  obtain ⟨y0, y1, y2, y3, n, _, hl, t0, t1, t2, t3⟩ := trod_struct4 Try.underlying62 h
  rw [cellsTask] at hl
  rw [cellsI] at t0 t1 t2
  rw [cellsA8] at t3
  obtain ⟨z3, e3, l3⟩ := open_arr Try.underlying60 cellsA8 t3
  obtain ⟨z0, e0, _⟩ := DataW.trod_int Try.underlying3 t0
  obtain ⟨z1, e1, _, g1⟩ := DataW.trod_int Try.underlying3 t1
  obtain ⟨z2, e2, _, g2⟩ := DataW.trod_int Try.underlying3 t2
  rcases cs with _ | ⟨c0, _ | ⟨c1, _ | ⟨c2, r⟩⟩⟩
  · simp at hl
  · simp at hl
  · simp at hl
  · simp at e0 e1 e2
    subst e0 e1 e2
    have hr : r.length = 8 := by simpa using hl
    rw [show List.take 8 (List.drop 3 (Value.int .i64 z0 :: Value.int .i64 z1 :: Value.int .i64 z2 :: r)) = r from by
      rw [List.drop_succ_cons, List.drop_succ_cons, List.drop_succ_cons, List.drop_zero, List.take_of_length_le (by omega)]] at e3
    refine ⟨z0, z1, z2, fun k => z3.getD k 0, ?_, g1, g2⟩
    rw [e3]
    rcases z3 with _ | ⟨b0, _ | ⟨b1, _ | ⟨b2, _ | ⟨b3, _ | ⟨b4, _ | ⟨b5, _ | ⟨b6, _ | ⟨b7, _ | ⟨b8, l⟩⟩⟩⟩⟩⟩⟩⟩⟩
    all_goals first | rfl | (simp at l3)
set_option maxRecDepth 100000 in
theorem open_taskV {r : Reach} {b0 : Nat} {v : Value} {d : DataW H} {p : List MemPlace} (hv : Value.okWide Try.prog w r b0 62 v) (h : DataW.Trod enc Try.prog w base spare held 62 v d p) :
    ∃ (a0 a1 a2 : Int) (f : Nat → Int), v = .agg #[.int .i64 a0, .int .i64 a1, .int .i64 a2, .int .i64 (f 0), .int .i64 (f 1), .int .i64 (f 2), .int .i64 (f 3), .int .i64 (f 4), .int .i64 (f 5), .int .i64 (f 6), .int .i64 (f 7)] ∧ (Lit.int .i64 a1).wf = true ∧ (Lit.int .i64 a2).wf = true := by
  obtain ⟨cs, rfl, hsz⟩ := okWide_struct Try.underlying62 hv
  obtain ⟨fuel, hf⟩ := h
  obtain ⟨a0, a1, a2, f, e, g1, g2⟩ := open_taskJ hf
  refine ⟨a0, a1, a2, f, ?_, g1, g2⟩
  congr 1
  apply Array.toList_inj.1
  simpa [Value.cells] using e
theorem open_secs {fuel : Nat} {sp : Option Addr} {len cap : Nat} {x : DataW H × List MemPlace} (h : DataW.trod enc Try.prog w base spare held fuel 63 [.slice sp len cap] = some x) :
    ∃ (L : Nat → Sec) (b off : Nat), SecsOf w ⟨sp, b, off, cap⟩ len L ∧ ∀ k, k < len → (-9223372036854775808 ≤ (L k).t ∧ (L k).t ≤ 9223372036854775807) := by
  rcases open_slice Try.underlying63 h with ⟨hcs, _⟩ | ⟨a, len', cap', m, n, D, Pl, hcs, _, hl, hm, hmm, _, hi⟩
  · simp at hcs
    obtain ⟨rfl, rfl, rfl⟩ := hcs
    exact ⟨fun _ => default, 0, 0, ⟨⟨fun h => by omega, by omega⟩, fun k hk => by omega⟩, fun k hk => by omega⟩
  · simp at hcs
    obtain ⟨rfl, rfl, rfl⟩ := hcs
    have hlm : len ≤ m := by split at hmm <;> omega
    have hone : ∀ k, k < len → ∃ y : Sec, w.cell? (a.add (k * 3)) = some (.int .i64 y.r) ∧ w.cell? (a.add (k * 3 + 1)) = some (.int .i64 y.f) ∧ w.cell? (a.add (k * 3 + 2)) = some (.int .i64 y.t) ∧ (-9223372036854775808 ≤ y.t ∧ y.t ≤ 9223372036854775807) := by
      intro k hk
      obtain ⟨cs, hc, ht⟩ := hi k (by omega)
      rw [cellsSec] at hc
      obtain ⟨_, hcl, hat⟩ := World.cells?_some hc
      obtain ⟨y0, y1, y2, n', _, _, t0, t1, t2⟩ := trod_struct3 Try.underlying99 ht
      obtain ⟨u0, u1, u2, rfl⟩ := three_of_len cs hcl
      rw [cellsI] at t0 t1 t2
      obtain ⟨n0, e0, _⟩ := DataW.trod_int Try.underlying3 t0
      obtain ⟨n1, e1, _⟩ := DataW.trod_int Try.underlying3 t1
      obtain ⟨n2, e2, _, g2⟩ := DataW.trod_int Try.underlying3 t2
      have a0 := hat 0 (by omega)
      have a1 := hat 1 (by omega)
      have a2 := hat 2 (by omega)
      rw [Go.Deep.add_add] at a0 a1 a2
      simp at e0 e1 e2
      subst e0 e1 e2
      exact ⟨⟨n0, n1, n2⟩, a0, a1, a2, int_of g2⟩
    obtain ⟨f, hf⟩ := choose_lt hone
    obtain ⟨b, off, spot⟩ := a
    have spn : ∀ k, k < len → spot = none := fun k hk => by simpa [Addr.add] using World.cell?_spot (hf 0 (by omega)).1
    refine ⟨f, b, off, ⟨⟨fun h0 => ?_, ?_⟩, fun k hk j u hu => ?_⟩, fun k hk => (hf k hk).2.2.2⟩
    · obtain rfl := spn 0 h0
      exact ⟨rfl, by simpa [Addr.add] using World.block_lt_of_cell? w _ (hf 0 h0).1, fun h => h⟩
    · have : len ≤ maxLen := by omega
      unfold maxLen at this
      omega
    · obtain rfl := spn k hk
      obtain ⟨h0, h1, h2, _⟩ := hf k hk
      rw [Addr.add_lit] at h0 h1 h2
      rcases j with _ | _ | _ | j
      · obtain rfl : _ = u := by simpa [secC] using hu
        exact h0
      · obtain rfl : _ = u := by simpa [secC] using hu
        exact h1
      · obtain rfl : _ = u := by simpa [secC] using hu
        exact h2
      · simp [secC] at hu
end
end Go.Proofs.Ytcipkkeegbfaeaa
