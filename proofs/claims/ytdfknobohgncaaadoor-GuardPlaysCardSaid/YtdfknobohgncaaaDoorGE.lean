/- GuardPlays: the contract of the law's within; the law's arrays as rows; the tasks that are open, as a list and as a set. -/
import Derived.Test.YtdfknobohgncaaaDoorGD
namespace Go.Proofs.YtdfknobohgncaaaDoor
open Go.RowKit

theorem within_any (n : Int) (w : World) : Calls Tryd.prog 9 #[.int .i64 n, .int .i64 1, .int .i64 4096] w fun e w' => e = .returned (.int .i64 (per n)) ∧ w = w' := by
  have hp : n < 1 ∧ per n = 1 ∨ (1 ≤ n ∧ n ≤ 4096) ∧ per n = n ∨ 4096 < n ∧ per n = 4096 := by unfold per; omega
  rcases hp with ⟨hp, e⟩ | ⟨⟨hp, hq⟩, e⟩ | ⟨hp, e⟩
  · rw [e]
    clear e
    go_enter Tryd.func9, Tryd.ntmps9
    go_wp2
    go_ret
    exact ⟨rfl, rfl⟩
  · rw [e]
    clear e
    go_enter Tryd.func9, Tryd.ntmps9
    go_wp2
    go_ret
    exact ⟨rfl, rfl⟩
  · rw [e]
    have hp1 : ¬ n < 1 := by omega
    clear e
    go_enter Tryd.func9, Tryd.ntmps9
    go_wp2
    go_ret
    exact ⟨rfl, rfl⟩
/-- An array of the law's, as a row. -/
def r16 (f : Nat → Int) : List Value := (List.range 16).map fun i => .int .i64 (f i)
theorem r16_len (f : Nat → Int) : (r16 f).length = 16 := by unfold r16; simp
theorem r16_at (f : Nat → Int) (k : Nat) (hk : k < 16) : (r16 f)[k]? = some (.int .i64 (f k)) := by unfold r16; simp [hk]
theorem r16_congr {f g : Nat → Int} (h : ∀ i, i < 16 → f i = g i) : r16 f = r16 g := by
  unfold r16
  refine List.map_congr_left fun i hi => ?_
  rw [h i (by simpa using hi)]
theorem r16_set (f : Nat → Int) (n : Nat) (v : Int) (hn : n < 16) : (r16 f).toArray.setIfInBounds n (.int .i64 v) = (r16 (upd f n v)).toArray := by
  apply Array.ext_getElem?
  intro i
  rw [Array.getElem?_setIfInBounds]
  by_cases e : n = i
  · subst e
    rw [if_pos rfl, if_pos (by simp [r16_len]; omega)]
    simp only [List.getElem?_toArray]
    rw [r16_at _ n hn]
    simp [upd]
  · rw [if_neg e]
    simp only [List.getElem?_toArray]
    unfold r16
    rw [List.getElem?_map, List.getElem?_map]
    by_cases hi : i < 16
    · have : ¬ i = n := fun h => e h.symm
      simp [hi, upd, this]
    · simp [hi]
/-- Where an array of the law's lies. -/
def AAt (w : World) (B : Nat) (f : Nat → Int) : Prop := w.heap[B]? = some (.cells (r16 f).toArray 26 (0, 0))
section
variable {w w' : World} {B : Nat} {f : Nat → Int}
theorem AAt.lt (h : AAt w B f) : B < w.heap.size := (Array.getElem?_eq_some_iff.1 h).1
theorem AAt.keep {T : Nat → Prop} (h : AAt w B f) (hc : Ch T w w') (hT : ¬ T B) : AAt w' B f := hc.obj h hT
theorem AAt.cell (h : AAt w B f) (l : Nat) (hl : l < 16) : w.cell? ⟨B, l, none⟩ = some (.int .i64 (f l)) := by
  rw [cell_of_row w B l _ _ _ h]; simpa using r16_at f l hl
theorem AAt.frozen (h : AAt w B f) (l : Nat) : w.frozen? ⟨B, l, none⟩ = false := frozen_of_row w B l _ _ h
theorem AAt.set_ (h : AAt w B f) (l : Nat) (v : Int) (hl : l < 16) : AAt (w.setCell ⟨B, l, none⟩ (.int .i64 v)) B (upd f l v) := by
  unfold AAt at h ⊢
  rw [heap_setCell_same w B l _ _ _ h, r16_set f l v hl]
theorem AAt.congr {g : Nat → Int} (h : AAt w B f) (e : ∀ i, i < 16 → f i = g i) : AAt w B g := by unfold AAt at h ⊢; rw [← r16_congr e]; exact h
end
/-- The tasks below k that are open, one by one. -/
def opL (c : Nat → Int) (now : Int) (s : BitVec 32) (k : Nat) : List Nat := (List.range k).filter fun n => decide (c n ≤ now) && s.getLsbD n
theorem opL_succ (c : Nat → Int) (now : Int) (s : BitVec 32) (k : Nat) : opL c now s (k + 1) = if decide (c k ≤ now) && s.getLsbD k then opL c now s k ++ [k] else opL c now s k := by
  unfold opL
  rw [List.range_succ, List.filter_append]
  cases h : (decide (c k ≤ now) && s.getLsbD k)
  · simp [h]
  · simp [h]
theorem opL_len (c : Nat → Int) (now : Int) (s : BitVec 32) (k : Nat) : (opL c now s k).length ≤ k := by
  unfold opL
  exact Nat.le_trans (List.length_filter_le _ _) (by simp)
theorem opK_bit (c : Nat → Int) (now : Int) (L : List Int) (k : Nat) (hk : k ≤ L.length) (i : Nat) (hi : i < 32) : (opK c now L k).getLsbD i = decide ((i : Int) ∈ L.take k ∧ mayG c (i : Int) now = true) := by
  induction k with
  | zero => simp [opK]
  | succ k ih =>
    have ih := ih (by omega)
    unfold opK
    rw [take_succ_nth L k (by omega)]
    cases hm : mayG c (nth L k) now
    · rw [if_neg (by decide), ih, decide_eq_decide, List.mem_append]
      constructor
      · rintro ⟨h1, h2⟩; exact ⟨.inl h1, h2⟩
      · rintro ⟨h1 | h1, h2⟩
        · exact ⟨h1, h2⟩
        · simp at h1; rw [h1, hm] at h2; cases h2
    · rw [if_pos rfl, BitVec.getLsbD_or, ih, onl_bit _ i hi, ← Bool.decide_or, decide_eq_decide, List.mem_append]
      constructor
      · rintro (⟨h1, h2⟩ | h)
        · exact ⟨.inl h1, h2⟩
        · exact ⟨.inr (by simp [h]), by rw [h]; exact hm⟩
      · rintro ⟨h1 | h1, h2⟩
        · exact .inl ⟨h1, h2⟩
        · simp at h1; exact .inr h1
theorem op_eq (c : Nat → Int) (now : Int) (s : BitVec 32) : opK c now (ints (lst s 32)) (lst s 32).length = ofR (ints (opL c now s 16)) := by
  apply BitVec.eq_of_getLsbD_eq; intro i hi
  have hl : (ints (lst s 32)).length = (lst s 32).length := by unfold ints; simp
  rw [opK_bit _ _ _ _ (by rw [hl]; exact Nat.le_refl _) i hi, ofR_bit _ i hi, decide_eq_decide, ← hl, List.take_length, mem_ints, mem_ints, mem_lst]
  unfold mayG has opL
  simp only [Int.toNat_natCast, List.mem_filter, List.mem_range, Bool.and_eq_true, decide_eq_true_eq]
  constructor
  · rintro ⟨⟨h1, h2, h3⟩, ⟨h4, h5⟩, h6⟩; exact ⟨h1, by omega, h6, h3⟩
  · rintro ⟨h1, h2, h3, h4⟩; exact ⟨⟨h1, hi, h4⟩, ⟨h1, by omega⟩, h3⟩
end Go.Proofs.YtdfknobohgncaaaDoor
