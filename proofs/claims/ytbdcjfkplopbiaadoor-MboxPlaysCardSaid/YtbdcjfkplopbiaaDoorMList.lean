/- The contract of the reference's List; owned rows of ints. -/
import Derived.Test.YtbdcjfkplopbiaaDoorMRef
namespace Go.Proofs.YtbdcjfkplopbiaaDoor
open Go.RowKit

theorem info3 : (Tryd.prog.info? 3).map (fun i => (i.zero, i.size, i.bytes)) = some (some (.int .i64 0), 1, 8) := by kernel_rfl
theorem rowI_get (l : List Int) (j : Nat) (h : j < l.length) : (rowI l)[j]? = some (.int .i64 (nth l j)) := by
  unfold rowI nth
  rw [List.getElem?_map, List.getElem?_eq_getElem h]; simp [h]
theorem odd_test (x : BitVec 32) (k : Nat) : ((w32 x / 2 ^ k).tmod 2 == 1) = x.getLsbD k := by
  have e1 : w32 x / 2 ^ k = ((x.toNat / 2 ^ k : Nat) : Int) := by unfold w32; simp
  have e2 : ((x.toNat / 2 ^ k : Nat) : Int).tmod 2 = ((x.toNat / 2 ^ k % 2 : Nat) : Int) := rfl
  rw [e1, e2, BitVec.getLsbD, Nat.testBit_eq_decide_div_mod_eq]
  have : x.toNat / 2 ^ k % 2 < 2 := Nat.mod_lt _ (by omega)
  rw [Bool.eq_iff_iff, beq_iff_eq, decide_eq_true_iff]
  omega
theorem one_cell (n : Int) : ∀ u ∈ [Value.int .i64 n], u.oneCell' = true := by intro u hu; simp at hu; subst hu; rfl

/-- An owned row, as a slice that lies. -/
theorem own_lies {w : World} {base : Nat} {v : Value} {l : List Int} (h : w.ownsRow base 3 1 v l.length (rowI l)) :
    ∃ sp g cap, v = .slice sp l.length cap ∧ Lies w sp g 0 l ∧ (0 < l.length → base ≤ g ∧ g < w.heap.size) := by
  rcases h.2 with ⟨rfl, h0⟩ | ⟨g, cap, cur, rfl, _⟩
  · exact ⟨none, 0, 0, by rw [h0], ⟨fun h => by omega, fun k hk => by omega⟩, fun h => by omega⟩
  · have hl := h.lt g rfl
    exact ⟨some ⟨g, 0, none⟩, g, cap, rfl, ⟨fun _ => ⟨rfl, hl.2⟩, fun k hk => by rw [Nat.zero_add]; exact (h.cellAt k (by omega)).trans (rowI_get _ k hk)⟩, fun _ => hl⟩

end Go.Proofs.YtbdcjfkplopbiaaDoor
