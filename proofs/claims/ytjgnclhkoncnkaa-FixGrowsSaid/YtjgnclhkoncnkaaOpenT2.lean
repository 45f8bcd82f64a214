/- What a term, and a slice of terms, is that a row hands in. No statement about the program's functions. -/
import Derived.Test.YtjgnclhkoncnkaaVO
import Derived.Test.YtjgnclhkoncnkaaXD
namespace Go.Proofs.Ytjgnclhkoncnkaa
open Go.ChangeShapes Go.WideShapes Go.ChangeAt Go.RowKit Go.Deep Go.Joins

theorem cellsTerm : Try.prog.cellsOf 32 = 4 := by kernel_rfl
theorem cellsI1 : Try.prog.cellsOf 3 = 1 := by kernel_rfl
theorem four_of_len {α : Type} (l : List α) (h : l.length = 4) : ∃ a b c d, l = [a, b, c, d] := by
  rcases l with _ | ⟨a, _ | ⟨b, _ | ⟨c, _ | ⟨d, _ | ⟨e, l⟩⟩⟩⟩⟩
  · simp at h
  · simp at h
  · simp at h
  · simp at h
  · exact ⟨a, b, c, d, rfl⟩
  · simp at h
section
variable {H : Type} {enc : TypeId × Value → H} {w : World} {base : Nat} {spare : Nat → Bool} {held : Bool}
theorem open_terms {fuel : Nat} {sp : Option Addr} {len cap : Nat} {x : DataW H × List MemPlace} (h : DataW.trod enc Try.prog w base spare held fuel 22 [.slice sp len cap] = some x) :
    ∃ (L : List Tm) (b off : Nat), L.length = len ∧ TermsAt w (fun _ => False) ⟨sp, b, off, cap⟩ L := by
  rcases open_slice Try.underlying22 h with ⟨hcs, _⟩ | ⟨a, len', cap', m, n, D, Pl, hcs, _, hl, hm, hmm, _, hi⟩
  · simp at hcs
    obtain ⟨rfl, rfl, rfl⟩ := hcs
    exact ⟨[], 0, 0, rfl, ⟨⟨fun h => by simp at h, by simp⟩, fun k hk => by simp at hk⟩⟩
  · simp at hcs
    obtain ⟨rfl, rfl, rfl⟩ := hcs
    have hlm : len ≤ m := by split at hmm <;> omega
    have hone : ∀ k, k < len → ∃ y : Tm, w.cell? (a.add (k * 4)) = some (.int .i64 y.per) ∧ w.cell? (a.add (k * 4 + 1)) = some (.int .i64 y.cost) ∧ w.cell? (a.add (k * 4 + 2)) = some (.int .i64 y.off) ∧ w.cell? (a.add (k * 4 + 3)) = some (.int .i64 y.car) := by
      intro k hk
      obtain ⟨cs, hc, ht⟩ := hi k (by omega)
      rw [cellsTerm] at hc
      obtain ⟨_, hcl, hat⟩ := World.cells?_some hc
      obtain ⟨y0, y1, y2, y3, n', _, _, t0, t1, t2, t3⟩ := trod_struct4 Try.underlying32 ht
      obtain ⟨u0, u1, u2, u3, rfl⟩ := four_of_len cs hcl
      rw [cellsI1] at t0 t1 t2 t3
      obtain ⟨n0, e0, _⟩ := DataW.trod_int Try.underlying3 t0
      obtain ⟨n1, e1, _⟩ := DataW.trod_int Try.underlying3 t1
      obtain ⟨n2, e2, _⟩ := DataW.trod_int Try.underlying3 t2
      obtain ⟨n3, e3, _⟩ := DataW.trod_int Try.underlying3 t3
      have a0 := hat 0 (by omega)
      have a1 := hat 1 (by omega)
      have a2 := hat 2 (by omega)
      have a3 := hat 3 (by omega)
      rw [Go.Deep.add_add] at a0 a1 a2 a3
      simp at e0 e1 e2 e3
      subst e0 e1 e2 e3
      exact ⟨⟨n0, n1, n2, n3⟩, a0, a1, a2, a3⟩
    obtain ⟨f, hf⟩ := choose_lt hone
    have hg : ∀ k, k < len → ((List.range len).map f).getD k default = f k := fun k hk => by simp [hk]
    obtain ⟨b, off, spot⟩ := a
    have spn : ∀ k, k < len → spot = none := fun k hk => by simpa [Addr.add] using World.cell?_spot (hf 0 (by omega)).1
    refine ⟨(List.range len).map f, b, off, by simp, ⟨⟨fun h0 => ?_, ?_⟩, fun k hk j u hu => ?_⟩⟩
    · have h0' : 0 < len := by simpa using h0
      obtain rfl := spn 0 h0'
      exact ⟨rfl, by simpa [Addr.add] using World.block_lt_of_cell? w _ (hf 0 h0').1, fun h => h⟩
    · have : len ≤ maxLen := by omega
      unfold maxLen at this
      simp; omega
    · have hk' : k < len := by simpa using hk
      obtain rfl := spn k hk'
      rw [hg k hk'] at hu
      obtain ⟨h0, h1, h2, h3⟩ := hf k hk'
      rw [Addr.add_lit] at h0 h1 h2 h3
      rcases j with _ | _ | _ | _ | j
      · obtain rfl : _ = u := by simpa [tmC] using hu
        exact h0
      · obtain rfl : _ = u := by simpa [tmC] using hu
        exact h1
      · obtain rfl : _ = u := by simpa [tmC] using hu
        exact h2
      · obtain rfl : _ = u := by simpa [tmC] using hu
        exact h3
      · simp [tmC] at hu
theorem open_cap {fuel : Nat} {sp : Option Addr} {len cap : Nat} {x : DataW H × List MemPlace} (h : DataW.trod enc Try.prog w base spare held fuel 22 [.slice sp len cap] = some x) : len ≤ cap := by
  rcases open_slice Try.underlying22 h with ⟨hcs, _⟩ | ⟨a, len', cap', _, _, _, _, hcs, _, hl, _⟩
  · simp at hcs; omega
  · simp at hcs; omega
set_option maxRecDepth 100000 in
theorem open_term {r : Reach} {b0 : Nat} {v : Value} {d : DataW H} {p : List MemPlace} (hv : Value.okWide Try.prog w r b0 32 v) (h : DataW.Trod enc Try.prog w base spare held 32 v d p) :
    ∃ x1 x2 x3 x4 : Int, v = .agg #[.int .i64 x1, .int .i64 x2, .int .i64 x3, .int .i64 x4] := by
  obtain ⟨v0, v1, v2, v3, y0, y1, y2, y3, n, rfl, -, -, t0, t1, t2, t3⟩ := open_agg4 Try.underlying32 (by kernel_rfl) cellsTerm hv h
  obtain ⟨n0, e0, _⟩ := DataW.trod_int Try.underlying3 t0
  obtain ⟨n1, e1, _⟩ := DataW.trod_int Try.underlying3 t1
  obtain ⟨n2, e2, _⟩ := DataW.trod_int Try.underlying3 t2
  obtain ⟨n3, e3, _⟩ := DataW.trod_int Try.underlying3 t3
  simp at e0 e1 e2 e3
  subst e0 e1 e2 e3
  exact ⟨n0, n1, n2, n3, rfl⟩
end
end Go.Proofs.Ytjgnclhkoncnkaa
