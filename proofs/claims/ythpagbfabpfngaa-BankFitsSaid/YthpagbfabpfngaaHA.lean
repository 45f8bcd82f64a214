/- The contracts of pair's functions and of ref05's Other; where a header's words lie; the contract of filled. -/
import Derived.Test.YthpagbfabpfngaaFP
import Derived.Test.YthpagbfabpfngaaBox
import Derived.LoopTactic
import Derived.RegionTactic
import Derived.Deep.LoopGhost
import Derived.Deep.RegionWith
import Derived.Lib.Hide
import Derived.Handy
import Derived.IntWalk
import Derived.Test.YthpagbfabpfngaaInv
import Derived.Deep.MidRow
import Derived.Laws.CopyOwn
import Derived.Laws.ResultCell
import Derived.Deep.RegionHeld3
import Derived.StillTail
import Derived.StillTactics
import Derived.StillTailTactics
namespace Go.Proofs.Ythpagbfabpfngaa
open Go.RowKit

theorem refother_any (x : BitVec 32) (w : World) : Calls Try.prog 118 #[.int .u32 (w32 x)] w fun e w' => e = .returned (.int .u32 (w32 (~~~x))) ∧ w = w' := by
  rw [← other_int x]
  go_enter Try.func118, Try.ntmps118
  go_wp2
  go_ret
  exact ⟨rfl, rfl⟩
theorem pof_any (x : BitVec 32) (w : World) : Calls Try.prog 111 #[.int .u32 (w32 x)] w fun e w' => e = .returned (.agg #[.int .u32 (w32 x), .int .u32 (w32 (~~~x))]) ∧ w' = w.alloc (.cells #[.int .u32 (w32 x), .int .u32 (w32 (~~~x))] 152) := by
  have hn := not32 x
  go_enter Try.func111, Try.ntmps111
  go_wp2
  go_returns
  exact ⟨rfl, rfl⟩
set_option maxHeartbeats 2000000 in
theorem pis_any (x y z : BitVec 32) (w : World) : Calls Try.prog 89 #[.agg #[.int .u32 (w32 x), .int .u32 (w32 y)], .int .u32 (w32 z)] w fun e w' => e = .returned (.bool (x == z && y == ~~~z)) ∧ Below w.heap.size w w' := by
  have e1 : (x == z) = (w32 x == w32 z) := by rw [Bool.eq_iff_iff, beq_iff_eq, beq_iff_eq, w32_inj]
  have e2 : (y == ~~~z) = (w32 y == w32 (~~~z)) := by rw [Bool.eq_iff_iff, beq_iff_eq, beq_iff_eq, w32_inj]
  rw [e1, e2]
  clear e1 e2
  have bb : Below w.heap.size w ((w.alloc (.cells #[.int .u32 (w32 x), .int .u32 (w32 y)] 152)).alloc (.cells #[.int .u32 (w32 z), .int .u32 (w32 (~~~z))] 152)) := ((Below.refl _ _).alloc (Nat.le_refl _) _).alloc (by simp) _
  have BB := Lib.hid bb
  clear bb
  cases h1 : (w32 x == w32 z) <;> cases h2 : (w32 y == w32 (~~~z))
  all_goals
    go_enter Try.func89, Try.ntmps89
    go_wp2
    go_region_with (go_at_call 111; refine (pof_any _ _).mono ?_; rintro e w' ⟨rfl, rfl⟩)
    all_goals go_wp2
    all_goals go_ret
    all_goals exact ⟨rfl, BB.out.drew⟩
theorem pright_any (x y : BitVec 32) (w : World) : Calls Try.prog 110 #[.agg #[.int .u32 (w32 x), .int .u32 (w32 y)]] w fun e w' => e = .returned (.bool (y == ~~~x)) ∧ Below w.heap.size w w' := by
  have HI := fun w => Lib.hid (pis_any x y x w)
  simp only [beq_self_eq_true, Bool.true_and] at HI
  have bb : Below w.heap.size w (w.alloc (.cells #[.int .u32 (w32 x), .int .u32 (w32 y)] 152)) := (Below.refl _ _).alloc (Nat.le_refl _) _
  have BB := Lib.hid bb
  clear bb
  go_enter Try.func110, Try.ntmps110
  go_wp2_with (go_at_call 89; refine (HI _).out.mono ?_; rintro e w' ⟨rfl, hb⟩; have B2 := Lib.hid (BB.out.trans (hb.mono BB.out.size)); clear hb)
  go_ret
  exact ⟨rfl, B2.out⟩

/-- A header's words. -/
def hs (H : Nat → BitVec 32) : List Value := (List.range 13).map fun i => .int .u32 (w32 (H i))
theorem hs_len (H : Nat → BitVec 32) : (hs H).length = 13 := by unfold hs; simp
theorem hs_at (H : Nat → BitVec 32) (l : Nat) (hl : l < 13) : (hs H)[l]? = some (.int .u32 (w32 (H l))) := by
  unfold hs; simp [hl]
theorem hs_congr {H G : Nat → BitVec 32} (h : ∀ i, i < 13 → H i = G i) : hs H = hs G := by
  unfold hs
  refine List.map_congr_left fun i hi => ?_
  rw [h i (by simpa using hi)]
theorem hs_one (H : Nat → BitVec 32) : ∀ v ∈ hs H, v.oneCell' = true := by
  intro v hv
  unfold hs at hv
  obtain ⟨i, _, rfl⟩ := List.mem_map.1 hv
  rfl
def updB (c : Nat → BitVec 32) (n : Nat) (v : BitVec 32) : Nat → BitVec 32 := fun i => if i = n then v else c i
theorem hs_set (c : Nat → BitVec 32) (n : Nat) (v : BitVec 32) (hn : n < 13) : (hs c).toArray.setIfInBounds n (.int .u32 (w32 v)) = (hs (updB c n v)).toArray := by
  apply Array.ext_getElem?
  intro i
  rw [Array.getElem?_setIfInBounds]
  by_cases e : n = i
  · subst e
    rw [if_pos rfl, if_pos (by simp [hs_len]; omega)]
    simp only [List.getElem?_toArray]
    rw [hs_at _ n hn]
    simp [updB]
  · rw [if_neg e]
    simp only [List.getElem?_toArray]
    unfold hs
    rw [List.getElem?_map, List.getElem?_map]
    by_cases hi : i < 13
    · have : ¬ i = n := fun h => e h.symm
      simp [hi, updB, this]
    · simp [hi]
/-- Where a header's words lie. -/
def HAt (w : World) (B : Nat) (c : Nat → BitVec 32) : Prop := w.heap[B]? = some (.cells (hs c).toArray 147 (0, 0))
section
variable {w w' : World} {B : Nat} {c : Nat → BitVec 32}
theorem HAt.lt (h : HAt w B c) : B < w.heap.size := (Array.getElem?_eq_some_iff.1 h).1
theorem HAt.keep {T : Nat → Prop} (h : HAt w B c) (hc : Ch T w w') (hT : ¬ T B) : HAt w' B c := hc.obj h hT
theorem HAt.below {n : Nat} (h : HAt w B c) (hb : Below n w w') (hn : B < n) : HAt w' B c := (hb.block B hn).trans h
theorem HAt.cell (h : HAt w B c) (l : Nat) (hl : l < 13) : w.cell? ⟨B, l, none⟩ = some (.int .u32 (w32 (c l))) := by
  rw [cell_of_row w B l _ _ _ h]; simpa using hs_at c l hl
theorem HAt.frozen (h : HAt w B c) (l : Nat) : w.frozen? ⟨B, l, none⟩ = false := frozen_of_row w B l _ _ h
theorem HAt.set_ (h : HAt w B c) (l : Nat) (v : BitVec 32) (hl : l < 13) : HAt (w.setCell ⟨B, l, none⟩ (.int .u32 (w32 v))) B (updB c l v) := by
  unfold HAt at h ⊢
  rw [heap_setCell_same w B l _ _ _ h, hs_set c l v hl]
theorem HAt.congr {G : Nat → BitVec 32} (h : HAt w B c) (e : ∀ i, i < 13 → c i = G i) : HAt w B G := by unfold HAt at h ⊢; rw [← hs_congr e]; exact h
end
theorem info73 : (Try.prog.info? 147).map (·.size) = some 13 := by kernel_rfl
theorem size25 : (Try.prog.info? 26).map (·.size) = some 1 := by kernel_rfl
def z13 : Nat → BitVec 32 := fun _ => 0#32
theorem hs_zero : (hs z13).toArray = #[.int .u32 0, .int .u32 0, .int .u32 0, .int .u32 0, .int .u32 0, .int .u32 0, .int .u32 0, .int .u32 0, .int .u32 0, .int .u32 0, .int .u32 0, .int .u32 0, .int .u32 0] := by kernel_rfl
theorem HAt.new (w : World) (c : Nat → BitVec 32) : HAt (w.alloc (.cells (hs c).toArray 147)) w.heap.size c := heap_alloc_new w _

/-- Where a slice's words lie. -/
structure Ws (w : World) (sp : Option Addr) (b off n : Nat) (l : Nat → BitVec 32) : Prop where
  sp : 0 < n → sp = some ⟨b, off, none⟩ ∧ b < w.heap.size
  cell : ∀ k, k < n → w.cell? ⟨b, off + k, none⟩ = some (.int .u32 (w32 (l k)))
theorem Ws.below {w w' : World} {sp : Option Addr} {b off n m : Nat} {l : Nat → BitVec 32} (h : Ws w sp b off n l) (hb : Below m w w') (hm : 0 < n → b < m) : Ws w' sp b off n l :=
  ⟨fun h0 => ⟨(h.sp h0).1, Nat.lt_of_lt_of_le (h.sp h0).2 hb.size⟩, fun k hk => by rw [hb.cell (p := ⟨b, off + k, none⟩) (hm (by omega))]; exact h.cell k hk⟩
theorem Ws.new {w w' : World} {sp : Option Addr} {b off n : Nat} {l : Nat → BitVec 32} (h : Ws w sp b off n l) (hb : Below w.heap.size w w') : Ws w' sp b off n l := h.below hb fun h0 => (h.sp h0).2
/-- A word; what is missing is blank. -/
def atW (n : Nat) (l : Nat → BitVec 32) (i : Nat) : BitVec 32 := if i < n then l i else BitVec.allOnes 32
theorem w32_ones : w32 (BitVec.allOnes 32) = 4294967295 := by decide
/-- What filled's words are behind so many rounds. -/
def fillW (m : Nat) (l : Nat → BitVec 32) (k i : Nat) : BitVec 32 := if i < m then l i else if i < m + k then BitVec.allOnes 32 else 0#32
theorem splice_hs (m : Nat) (l : Nat → BitVec 32) (hm : m ≤ 13) : splice (hs z13) 0 ((List.range m).map fun i => Value.int .u32 (w32 (l i))) = hs (fillW m l 0) := by
  apply List.ext_getElem?
  intro i
  unfold splice
  simp only [List.take_zero, List.nil_append, List.length_map, List.length_range, Nat.zero_add]
  by_cases h : i < m
  · rw [List.getElem?_append_left (by simpa using h), hs_at _ i (by omega)]
    simp [fillW, h]
  · rw [List.getElem?_append_right (by simpa using h)]
    simp only [List.length_map, List.length_range, List.getElem?_drop]
    rw [show m + (i - m) = i by omega]
    by_cases h2 : i < 13
    · rw [hs_at _ i h2, hs_at _ i h2]
      simp [fillW, h, z13]
    · rw [List.getElem?_eq_none (by rw [hs_len]; omega), List.getElem?_eq_none (by rw [hs_len]; omega)]
theorem fillW_succ (m k : Nat) (l : Nat → BitVec 32) : updB (fillW m l k) (m + k) (BitVec.allOnes 32) = fillW m l (k + 1) := by
  funext i
  unfold updB fillW
  by_cases e : i = m + k
  · subst e
    rw [if_pos rfl, if_neg (by omega), if_pos (by omega)]
  · rw [if_neg e]
    by_cases h : i < m
    · rw [if_pos h, if_pos h]
    · rw [if_neg h, if_neg h]
      by_cases h2 : i < m + k
      · rw [if_pos h2, if_pos (by omega)]
      · rw [if_neg h2, if_neg (by omega)]
theorem fillW_all (n : Nat) (l : Nat → BitVec 32) (i : Nat) (hi : i < 13) : fillW (Nat.min n 13) l (13 - Nat.min n 13) i = atW n l i := by
  unfold fillW atW
  have h : Nat.min n 13 = min n 13 := rfl
  rw [h]
  by_cases h1 : i < n
  · rw [if_pos (by omega), if_pos h1]
  · rw [if_neg (by omega), if_neg h1, if_pos (by omega)]
end Go.Proofs.Ythpagbfabpfngaa
