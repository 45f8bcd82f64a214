/- The contract of the reference's List; owned rows of ints. -/
import Derived.Test.YtjgbbgemoobjjaaDoorMRef
namespace Go.Proofs.YtjgbbgemoobjjaaDoor
open Go.RowKit

theorem info3 : (Tryd.prog.info? 3).map (fun i => (i.zero, i.size, i.bytes)) = some (some (.int .i64 0), 1, 8) := by kernel_rfl
theorem rowI_get (l : List Int) (j : Nat) (h : j < l.length) : (rowI l)[j]? = some (.int .i64 (nth l j)) := by
  unfold rowI nth
  rw [List.getElem?_map, List.getElem?_eq_getElem h]; simp [h]
theorem odd_test (x : BitVec 32) (k : Nat) : ((w32 x / 2 ^ k).tmod 2 == 1) = x.getLsbD k := by
  have e1 : w32 x / 2 ^ k = ((x.toNat / 2 ^ k : Nat) : Int) := by unfold w32; simp
  have e2 : ((x.toNat / 2 ^ k : Nat) : Int).tmod 2 = ((x.toNat / 2 ^ k % 2 : Nat) : Int) := rfl
  rw [e1, e2, BitVec.getLsbD, Nat.testBit_eq_decide_div_mod_eq]
  have : x.toNat / 2 ^ k % 2 < 2 := Nat.mod_lt _ (by omega)
  rw [Bool.eq_iff_iff, beq_iff_eq, decide_eq_true_iff]
  omega
theorem one_cell (n : Int) : ∀ u ∈ [Value.int .i64 n], u.oneCell' = true := by intro u hu; simp at hu; subst hu; rfl

set_option maxRecDepth 100000 in
theorem list_any (x : BitVec 32) (w : World) : Calls Tryd.prog 55 #[.int .u32 (w32 x)] w fun e w' =>
    ∃ v, e = .returned v ∧ w'.ownsRow w.heap.size 3 1 v (lst x 32).length (rowI (ints (lst x 32))) ∧ Below w.heap.size w w' := by
  obtain ⟨i0, hi, hz0, hz1, hz2⟩ := info_parts info3
  go_enter Tryd.func55, Tryd.ntmps55
  go_wp2
  go_loopg [3, 4] 32 (fun g v i wr => ∃ (k : Nat), k + g = 32 ∧ i = .int .i64 k ∧ wr.ownsRow w.heap.size 3 1 v (lst x k).length (rowI (ints (lst x k))) ∧ Below w.heap.size w wr)
  case atStart => exact ⟨0, by omega, rfl, World.ownsRow_nil _ _ _ _, Below.refl _ _⟩
  case round =>
    obtain ⟨k, hkg, rfl, hown, hB⟩ := hrel
    have HO := Lib.hid hown
    have HB := Lib.hid hB
    clear hown hB
    cases gk with
    | zero =>
      obtain rfl : k = 32 := by omega
      go_wp2
      go_ret
      exact ⟨_, rfl, HO.out, HB.out⟩
    | succ g1 =>
      have hk : k < 32 := by omega
      have hkl := lst_len x k
      have ht := odd_test x k
      have hls := lst_succ x k
      cases hd : x.getLsbD k
      · rw [hd] at ht hls
        have HLS := Lib.hid hls
        clear hls hd
        go_wp2
        go_roundg g1
        case measure => omega
        case rel =>
          have e : lst x (k + 1) = lst x k := HLS.out
          exact ⟨k + 1, by omega, by go_num, by rw [e]; exact HO.out, HB.out⟩
      · rw [hd] at ht hls
        have HLS := Lib.hid hls
        clear hls hd
        go_wp2_with (at_builtin; refine wpList_append_own _ rfl (.tmp 15) (.tmp 17) 22 rfl w.heap.size 3 i0 (.int .i64 0) 1 8 Tryd.underlying22 hi hz0 hz1 hz2 rfl Nat.one_pos _ (lst x k).length (rowI (ints (lst x k))) rfl (HO.out.alloc _) ⟨wr.heap.size, 0, none⟩ 1 1 [.int .i64 k] rfl rfl (cell_one_new _ _ _) (one_cell _) (by unfold maxLen; omega) (by omega) (by rw [World.size_alloc]; exact Nat.le_succ_of_le HB.out.size) ?_; intro v1 w1 hown1 hg1 _; have HO1 := Lib.hid hown1; have HB1 := Lib.hid (Below.grown (Below.alloc HB.out HB.out.size _) hg1 (by rw [World.size_alloc]; exact Nat.le_succ_of_le HB.out.size) (fun j e => (HO.out.lt j e).1)); clear hown1 hg1)
        go_roundg g1
        case measure => omega
        case rel =>
          have e : lst x (k + 1) = lst x k ++ [k] := HLS.out
          have h := HO1.out
          refine ⟨k + 1, by omega, by go_num, ?_, HB1.out⟩
          rw [e]
          unfold ints rowI at h ⊢
          rw [List.length_append, List.map_append, List.map_append]
          exact h

/-- An owned row, as a slice that lies. -/
theorem own_lies {w : World} {base : Nat} {v : Value} {l : List Int} (h : w.ownsRow base 3 1 v l.length (rowI l)) :
    ∃ sp g cap, v = .slice sp l.length cap ∧ Lies w sp g 0 l ∧ (0 < l.length → base ≤ g ∧ g < w.heap.size) := by
  rcases h.2 with ⟨rfl, h0⟩ | ⟨g, cap, cur, rfl, _⟩
  · exact ⟨none, 0, 0, by rw [h0], ⟨fun h => by omega, fun k hk => by omega⟩, fun h => by omega⟩
  · have hl := h.lt g rfl
    exact ⟨some ⟨g, 0, none⟩, g, cap, rfl, ⟨fun _ => ⟨rfl, hl.2⟩, fun k hk => by rw [Nat.zero_add]; exact (h.cellAt k (by omega)).trans (rowI_get _ k hk)⟩, fun _ => hl⟩

end Go.Proofs.YtjgbbgemoobjjaaDoor
