/- Plain facts for the law texts of flags: what a slice of calls that a row hands in is. No statement about the program's functions. -/
import Derived.Test.YtdfknobohgncaaaOpen
import Derived.Test.YtdfknobohgncaaaFC
namespace Go.Proofs.Ytdfknobohgncaaa
open Go.ChangeShapes Go.WideShapes Go.ChangeAt Go.RowKit Go.Deep Go.Joins

theorem cells63 : Try.prog.cellsOf 63 = 2 := by kernel_rfl
theorem cells58 : Try.prog.cellsOf 58 = 1 := by kernel_rfl
theorem two_of_len {α : Type} (l : List α) (h : l.length = 2) : ∃ a b, l = [a, b] := by
  rcases l with _ | ⟨a, _ | ⟨b, _ | ⟨c, l⟩⟩⟩
  · simp at h
  · simp at h
  · exact ⟨a, b, rfl⟩
  · simp at h
theorem word_of {n : Int} (h : (Lit.int .u32 n).wf = true) : ∃ x : BitVec 32, n = w32 x := by
  simp [Lit.wf, IntKind.min, IntKind.max, IntKind.signed, IntKind.bits] at h
  refine ⟨BitVec.ofNat 32 n.toNat, ?_⟩
  unfold w32
  rw [BitVec.toNat_ofNat]
  omega
section
variable {H : Type} {enc : TypeId × Value → H} {w : World} {base : Nat} {spare : Nat → Bool} {held : Bool}
theorem open_gops {fuel : Nat} {sp : Option Addr} {len cap : Nat} {x : DataW H × List MemPlace} (h : DataW.trod enc Try.prog w base spare held fuel 56 [.slice sp len cap] = some x) :
    len ≤ maxLen ∧ ∃ (O : List GOp) (b off : Nat), O.length = len ∧ GOps w sp b off O := by
  rcases open_slice Try.underlying56 h with ⟨hcs, _⟩ | ⟨a, len', cap', m, n, D, Pl, hcs, _, hl, hm, hmm, _, hi⟩
  · simp at hcs
    obtain ⟨rfl, rfl, rfl⟩ := hcs
    exact ⟨by unfold maxLen; omega, [], 0, 0, rfl, ⟨fun h => by simp at h, fun k hk => by simp at hk, fun k hk => by simp at hk⟩⟩
  · simp at hcs
    obtain ⟨rfl, rfl, rfl⟩ := hcs
    have hlm : len ≤ m := by split at hmm <;> omega
    have hone : ∀ k, k < len → ∃ y : GOp, w.cell? (a.add (k * 2)) = some (.int .i64 y.kind) ∧ w.cell? (a.add (k * 2 + 1)) = some (.int .u32 (w32 y.l)) := by
      intro k hk
      obtain ⟨cs, hc, ht⟩ := hi k (by omega)
      rw [cells63] at hc
      obtain ⟨_, hcl, hat⟩ := World.cells?_some hc
      obtain ⟨y0, y1, n', _, _, t0, t1⟩ := trod_struct2 Try.underlying63 ht
      obtain ⟨u0, u1, rfl⟩ := two_of_len cs hcl
      rw [cells3] at t0
      rw [cells58] at t1
      obtain ⟨n0, e0, _⟩ := DataW.trod_int Try.underlying3 t0
      obtain ⟨n1, e1, f1⟩ := DataW.trod_int Try.underlying58 t1
      have a0 := hat 0 (by omega)
      have a1 := hat 1 (by omega)
      rw [Go.Deep.add_add] at a0 a1
      simp at e0 e1
      subst e0 e1
      obtain ⟨x, rfl⟩ := word_of f1.2
      exact ⟨⟨n0, x⟩, a0, a1⟩
    obtain ⟨f, hf⟩ := choose_lt hone
    have hg : ∀ k, k < len → opG ((List.range len).map f) k = f k := fun k hk => by simp [opG, hk]
    obtain ⟨b, off, spot⟩ := a
    have spn : ∀ k, k < len → spot = none := fun k hk => by simpa [Addr.add] using World.cell?_spot (hf 0 (by omega)).1
    refine ⟨by omega, (List.range len).map f, b, off, by simp, ⟨fun h0 => ?_, fun k hk => ?_, fun k hk => ?_⟩⟩
    · have h0' : 0 < len := by simpa using h0
      obtain rfl := spn 0 h0'
      exact ⟨rfl, by simpa [Addr.add] using World.block_lt_of_cell? w _ (hf 0 h0').1⟩
    · have hk' : k < len := by simpa using hk
      obtain rfl := spn k hk'
      have := (hf k hk').1
      rw [hg k hk']
      rwa [Addr.add_lit] at this
    · have hk' : k < len := by simpa using hk
      obtain rfl := spn k hk'
      have := (hf k hk').2
      rw [hg k hk']
      rwa [Addr.add_lit] at this
end
end Go.Proofs.Ytdfknobohgncaaa
