/- Plain facts for the law texts of this seat: what a slice of words that a row hands in is. No statement about the program's functions. -/
import Derived.Test.YtkbmgilceioieaaOpen
import Derived.Test.YtkbmgilceioieaaRW
namespace Go.Proofs.Ytkbmgilceioieaa
open Go.ChangeShapes Go.WideShapes Go.ChangeAt Go.RowKit Go.Deep

theorem cells27 : Try.prog.cellsOf 27 = 1 := by kernel_rfl
section
variable {H : Type} {enc : TypeId × Value → H} {w : World} {base : Nat} {spare : Nat → Bool} {held : Bool}

/-- A slice of words: its cells. -/
theorem open_words {fuel : Nat} {sp : Option Addr} {len cap : Nat} {x : DataW H × List MemPlace} (h : DataW.trod enc Try.prog w base spare held fuel 25 [.slice sp len cap] = some x) :
    len ≤ cap ∧ cap ≤ maxLen ∧ ∃ (l : List Nat) (b off : Nat), l.length = len ∧ SL w sp b off l ∧ ∀ x ∈ l, x < 4294967296 := by
  rcases open_slice Try.underlying25 h with ⟨hcs, _⟩ | ⟨a, len', cap', m, n, D, Pl, hcs, _, hl, hm, hmm, _, hi⟩
  · simp at hcs
    obtain ⟨rfl, rfl, rfl⟩ := hcs
    exact ⟨by omega, by unfold maxLen; omega, [], 0, 0, rfl, SL.nil _ _ _ _, fun x hx => by cases hx⟩
  · simp at hcs
    obtain ⟨rfl, rfl, rfl⟩ := hcs
    have hlm : len ≤ m := by split at hmm <;> omega
    have hone : ∀ k, k < len → ∃ y : Nat, w.cell? (a.add k) = some (.int .u32 (y : Int)) ∧ y < 4294967296 := by
      intro k hk
      obtain ⟨cs, hc, ht⟩ := hi k (by omega)
      rw [cells27, Nat.mul_one] at hc
      obtain ⟨_, hcl, hat⟩ := World.cells?_some hc
      obtain ⟨n0, e0, _, hw⟩ := DataW.trod_int Try.underlying27 ht
      have a0 := hat 0 (by omega)
      rw [Go.Deep.add_add] at a0
      subst e0
      simp [Lit.wf, IntKind.min, IntKind.max, IntKind.signed, IntKind.bits] at hw
      refine ⟨n0.toNat, ?_, by omega⟩
      have e : ((n0.toNat : Nat) : Int) = n0 := by omega
      rw [e]
      simpa using a0
    obtain ⟨f, hf⟩ := choose_lt hone
    have hg : ∀ k, k < len → nthW ((List.range len).map f) k = f k := fun k hk => by simp [nthW, hk]
    obtain ⟨b, off, spot⟩ := a
    refine ⟨hl, hm, (List.range len).map f, b, off, by simp, ⟨fun h0 => ?_, fun k hk => ?_⟩, fun x hx => ?_⟩
    · rw [List.length_map, List.length_range] at h0
      obtain rfl : spot = none := by simpa [Addr.add] using World.cell?_spot (hf 0 h0).1
      rfl
    · rw [List.length_map, List.length_range] at hk
      obtain rfl : spot = none := by simpa [Addr.add] using World.cell?_spot (hf 0 (by omega)).1
      have := (hf k hk).1
      rw [hg k hk]
      rwa [Addr.add_lit] at this
    · obtain ⟨k, hk, rfl⟩ := List.mem_map.1 hx
      exact (hf k (by simpa using hk)).2
end
end Go.Proofs.Ytkbmgilceioieaa
