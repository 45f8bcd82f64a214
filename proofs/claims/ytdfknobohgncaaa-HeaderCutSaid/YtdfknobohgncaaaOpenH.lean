/- Plain facts for the law texts of header: what a slice of words that a row hands in is, and a struct of three words. No statement about the program's functions. -/
import Derived.Test.YtdfknobohgncaaaOpen
import Derived.Test.YtdfknobohgncaaaHJ
namespace Go.Proofs.Ytdfknobohgncaaa
open Go.ChangeShapes Go.WideShapes Go.ChangeAt Go.RowKit Go.Deep Go.Joins

theorem cells25 : Try.prog.cellsOf 25 = 1 := by kernel_rfl
theorem cells29 : Try.prog.cellsOf 29 = 3 := by kernel_rfl
theorem word_of {n : Int} (h : (Lit.int .u32 n).wf = true) : ∃ x : BitVec 32, n = w32 x := by
  simp [Lit.wf, IntKind.min, IntKind.max, IntKind.signed, IntKind.bits] at h
  refine ⟨BitVec.ofNat 32 n.toNat, ?_⟩
  unfold w32
  rw [BitVec.toNat_ofNat]
  omega
section
variable {H : Type} {enc : TypeId × Value → H} {w : World} {base : Nat} {spare : Nat → Bool} {held : Bool}
theorem open_words {fuel : Nat} {sp : Option Addr} {len cap : Nat} {x : DataW H × List MemPlace} (h : DataW.trod enc Try.prog w base spare held fuel 22 [.slice sp len cap] = some x) :
    len ≤ maxLen ∧ ∃ (l : Nat → BitVec 32) (b off : Nat), Ws w sp b off len l := by
  rcases open_slice Try.underlying22 h with ⟨hcs, _⟩ | ⟨a, len', cap', m, n, D, Pl, hcs, _, hl, hm, hmm, _, hi⟩
  · simp at hcs
    obtain ⟨rfl, rfl, rfl⟩ := hcs
    exact ⟨by unfold maxLen; omega, fun _ => 0#32, 0, 0, ⟨fun h => by omega, fun k hk => by omega⟩⟩
  · simp at hcs
    obtain ⟨rfl, rfl, rfl⟩ := hcs
    have hlm : len ≤ m := by split at hmm <;> omega
    have hone : ∀ k, k < len → ∃ y : BitVec 32, w.cell? (a.add k) = some (.int .u32 (w32 y)) := by
      intro k hk
      obtain ⟨cs, hc, ht⟩ := hi k (by omega)
      rw [cells25, Nat.mul_one] at hc
      obtain ⟨_, hcl, hat⟩ := World.cells?_some hc
      obtain ⟨n0, e0, _, hw⟩ := DataW.trod_int Try.underlying25 ht
      have a0 := hat 0 (by omega)
      rw [Go.Deep.add_add] at a0
      subst e0
      obtain ⟨y, rfl⟩ := word_of hw
      exact ⟨y, by simpa using a0⟩
    obtain ⟨f, hf⟩ := choose_lt hone
    obtain ⟨b, off, spot⟩ := a
    refine ⟨by omega, f, b, off, ⟨fun h0 => ?_, fun k hk => ?_⟩⟩
    · obtain rfl : spot = none := by simpa [Addr.add] using World.cell?_spot (hf 0 h0)
      exact ⟨rfl, by simpa [Addr.add] using World.block_lt_of_cell? w _ (hf 0 h0)⟩
    · obtain rfl : spot = none := by simpa [Addr.add] using World.cell?_spot (hf 0 (by omega))
      have := hf k hk
      rwa [Addr.add_lit] at this
set_option maxRecDepth 100000 in
theorem open_hd {r : Reach} {b0 : Nat} {v : Value} {d : DataW H} {p : List MemPlace} (hv : Value.okWide Try.prog w r b0 29 v) (h : DataW.Trod enc Try.prog w base spare held 29 v d p) :
    ∃ x1 x2 x3 : BitVec 32, v = .agg #[.int .u32 (w32 x1), .int .u32 (w32 x2), .int .u32 (w32 x3)] := by
  obtain ⟨v0, v1, v2, y0, y1, y2, n, rfl, -, -, t0, t1, t2⟩ := open_agg3 Try.underlying29 (by kernel_rfl) cells29 hv h
  obtain ⟨n0, e0, _, f0⟩ := DataW.trod_int Try.underlying25 t0
  obtain ⟨n1, e1, _, f1⟩ := DataW.trod_int Try.underlying25 t1
  obtain ⟨n2, e2, _, f2⟩ := DataW.trod_int Try.underlying25 t2
  simp at e0 e1 e2
  subst e0 e1 e2
  obtain ⟨x0, rfl⟩ := word_of f0
  obtain ⟨x1, rfl⟩ := word_of f1
  obtain ⟨x2, rfl⟩ := word_of f2
  exact ⟨x0, x1, x2, rfl⟩
end
end Go.Proofs.Ytdfknobohgncaaa
