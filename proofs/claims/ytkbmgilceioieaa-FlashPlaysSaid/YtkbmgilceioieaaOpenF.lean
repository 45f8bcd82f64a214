/- Plain facts for the law texts of flash: what a slice of calls that a row hands in is, a struct of three numbers. No statement about the program's functions. -/
import Derived.Test.YtkbmgilceioieaaOpen
import Derived.Test.YtkbmgilceioieaaGG
namespace Go.Proofs.Ytkbmgilceioieaa
open Go.ChangeShapes Go.WideShapes Go.ChangeAt Go.RowKit Go.Deep Go.Joins

theorem cells40 : Try.prog.cellsOf 40 = 4 := by kernel_rfl
theorem cells27 : Try.prog.cellsOf 27 = 1 := by kernel_rfl
theorem cells23 : Try.prog.cellsOf 23 = 3 := by kernel_rfl
theorem four_of_len {α : Type} (l : List α) (h : l.length = 4) : ∃ a b c d, l = [a, b, c, d] := by
  rcases l with _ | ⟨a, _ | ⟨b, _ | ⟨c, _ | ⟨d, _ | ⟨e, l⟩⟩⟩⟩⟩
  · simp at h
  · simp at h
  · simp at h
  · simp at h
  · exact ⟨a, b, c, d, rfl⟩
  · simp at h
section
variable {H : Type} {enc : TypeId × Value → H} {w : World} {base : Nat} {spare : Nat → Bool} {held : Bool}
theorem word_of {n : Int} (h : (Lit.int .u32 n).wf = true) : ∃ x : BitVec 32, n = w32 x := by
  simp [Lit.wf, IntKind.min, IntKind.max, IntKind.signed, IntKind.bits] at h
  refine ⟨BitVec.ofNat 32 n.toNat, ?_⟩
  unfold w32
  rw [BitVec.toNat_ofNat]
  omega
theorem int_of {n : Int} (h : (Lit.int .i64 n).wf = true) : -9223372036854775808 ≤ n ∧ n ≤ 9223372036854775807 := by
  simp [Lit.wf, IntKind.min, IntKind.max, IntKind.signed, IntKind.bits] at h
  omega
instance : Inhabited FOp := ⟨⟨0, 0, 0, 0#32⟩⟩
theorem open_fops {fuel : Nat} {sp : Option Addr} {len cap : Nat} {x : DataW H × List MemPlace} (h : DataW.trod enc Try.prog w base spare held fuel 24 [.slice sp len cap] = some x) :
    len ≤ maxLen ∧ ∃ (O : List FOp) (b off : Nat), O.length = len ∧ (0 < O.length → sp = some ⟨b, off, none⟩) ∧ OpsAt w b off O := by
  rcases open_slice Try.underlying24 h with ⟨hcs, _⟩ | ⟨a, len', cap', m, n, D, Pl, hcs, _, hl, hm, hmm, _, hi⟩
  · simp at hcs
    obtain ⟨rfl, rfl, rfl⟩ := hcs
    exact ⟨by unfold maxLen; omega, [], 0, 0, rfl, fun h => by simp at h, ⟨fun k hk => by simp at hk, fun k hk => by simp at hk, fun h => by simp at h⟩⟩
  · simp at hcs
    obtain ⟨rfl, rfl, rfl⟩ := hcs
    have hlm : len ≤ m := by split at hmm <;> omega
    have hone : ∀ k, k < len → ∃ y : FOp, (w.cell? (a.add (k * 4)) = some (.int .i64 y.kind) ∧ w.cell? (a.add (k * 4 + 1)) = some (.int .i64 y.sec) ∧ w.cell? (a.add (k * 4 + 2)) = some (.int .i64 y.wrd) ∧ w.cell? (a.add (k * 4 + 3)) = some (.int .u32 (w32 y.w))) ∧ -9223372036854775808 ≤ y.wrd ∧ y.wrd ≤ 9223372036854775807 := by
      intro k hk
      obtain ⟨cs, hc, ht⟩ := hi k (by omega)
      rw [cells40] at hc
      obtain ⟨_, hcl, hat⟩ := World.cells?_some hc
      obtain ⟨y0, y1, y2, y3, n', _, _, t0, t1, t2, t3⟩ := trod_struct4 Try.underlying40 ht
      obtain ⟨u0, u1, u2, u3, rfl⟩ := four_of_len cs hcl
      rw [cells3] at t0 t1 t2
      rw [cells27] at t3
      obtain ⟨n0, e0, _⟩ := DataW.trod_int Try.underlying3 t0
      obtain ⟨n1, e1, _⟩ := DataW.trod_int Try.underlying3 t1
      obtain ⟨n2, e2, f2⟩ := DataW.trod_int Try.underlying3 t2
      obtain ⟨n3, e3, f3⟩ := DataW.trod_int Try.underlying27 t3
      have a0 := hat 0 (by omega)
      have a1 := hat 1 (by omega)
      have a2 := hat 2 (by omega)
      have a3 := hat 3 (by omega)
      rw [Go.Deep.add_add] at a0 a1 a2 a3
      simp at e0 e1 e2 e3
      subst e0 e1 e2 e3
      obtain ⟨x, rfl⟩ := word_of f3.2
      exact ⟨⟨n0, n1, n2, x⟩, ⟨a0, a1, a2, a3⟩, int_of f2.2⟩
    obtain ⟨f, hf⟩ := choose_lt hone
    have hg : ∀ k, k < len → opF ((List.range len).map f) k = f k := fun k hk => by simp [opF, hk]
    obtain ⟨b, off, spot⟩ := a
    have spn : ∀ k, k < len → spot = none := fun k hk => by simpa [Addr.add] using World.cell?_spot (hf 0 (by omega)).1.1
    refine ⟨by omega, (List.range len).map f, b, off, by simp, fun h0 => ?_, fun k hk => ?_, fun k hk => ?_, fun h0 => ?_⟩
    · rw [spn 0 (by simpa using h0)]
    · have hk' : k < len := by simpa using hk
      obtain rfl := spn k hk'
      have := (hf k hk').1
      rw [hg k hk']
      rwa [Addr.add_lit, Addr.add_lit, Addr.add_lit, Addr.add_lit] at this
    · have hk' : k < len := by simpa using hk
      rw [hg k hk']; exact (hf k hk').2
    · have h0' : 0 < len := by simpa using h0
      obtain rfl := spn 0 h0'
      simpa [Addr.add] using World.block_lt_of_cell? w _ (hf 0 h0').1.1
set_option maxRecDepth 100000 in
theorem open_sizes {r : Reach} {b0 : Nat} {v : Value} {d : DataW H} {p : List MemPlace} (hv : Value.okWide Try.prog w r b0 23 v) (h : DataW.Trod enc Try.prog w base spare held 23 v d p) :
    ∃ x1 x2 x3 : Int, v = .agg #[.int .i64 x1, .int .i64 x2, .int .i64 x3] := by
  obtain ⟨v0, v1, v2, y0, y1, y2, n, rfl, -, -, t0, t1, t2⟩ := open_agg3 Try.underlying23 (by kernel_rfl) cells23 hv h
  obtain ⟨n0, e0, _⟩ := DataW.trod_int Try.underlying3 t0
  obtain ⟨n1, e1, _⟩ := DataW.trod_int Try.underlying3 t1
  obtain ⟨n2, e2, _⟩ := DataW.trod_int Try.underlying3 t2
  simp at e0 e1 e2
  subst e0 e1 e2
  exact ⟨n0, n1, n2, rfl⟩
end
end Go.Proofs.Ytkbmgilceioieaa
