/- The contracts of the law's Alike and of the reference's Words. -/
import Derived.Test.YtdfknobohgncaaaHG
namespace Go.Proofs.Ytdfknobohgncaaa
open Go.RowKit

theorem alike_same (a b c : BitVec 32) (v f : Bool) (t : Int) (w : World) : Calls Try.prog 10 #[.agg #[.int .u32 (w32 a), .int .u32 (w32 b), .int .u32 (w32 c), .bool v, .bool f, .int .i64 t], .agg #[.int .u32 (w32 a), .int .u32 (w32 b), .int .u32 (w32 c), .bool v, .bool f, .int .i64 t]] w fun e w' => e = .returned (.bool true) ∧ Below w.heap.size w w' := by
  have bb := ((Below.refl w.heap.size w).alloc (Nat.le_refl _) (.cells #[.int .u32 (w32 a), .int .u32 (w32 b), .int .u32 (w32 c), .bool v, .bool f, .int .i64 t] 31)).alloc (by simp) (.cells #[.int .u32 (w32 a), .int .u32 (w32 b), .int .u32 (w32 c), .bool v, .bool f, .int .i64 t] 34)
  have BB := Lib.hid bb
  clear bb
  go_enter Try.func10, Try.ntmps10
  go_wp2
  go_ret
  exact ⟨rfl, BB.out⟩
/-- The first words of a row. -/
def rowH (H : Nat → BitVec 32) (n : Nat) : List Value := (List.range n).map fun i => .int .u32 (w32 (H i))
theorem rowH_succ (H : Nat → BitVec 32) (n : Nat) : rowH H (n + 1) = rowH H n ++ [.int .u32 (w32 (H n))] := by unfold rowH; rw [List.range_succ, List.map_append]; rfl
theorem rowH_len (H : Nat → BitVec 32) (n : Nat) : (rowH H n).length = n := by unfold rowH; simp
theorem info25 : (Try.prog.info? 25).map (fun i => (i.zero, i.size, i.bytes)) = some (some (.int .u32 0), 1, 4) := by kernel_rfl
theorem one_word (n : Int) : ∀ u ∈ [Value.int .u32 n], u.oneCell' = true := by intro u hu; simp at hu; subst hu; rfl
/-- Where a call's own words lie. -/
theorem own_words {w : World} {base : Nat} {v : Value} {H : Nat → BitVec 32} {n : Nat} (h : w.ownsRow base 25 1 v n (rowH H n)) (hn : 0 < n) : ∃ g cap, v = .slice (some ⟨g, 0, none⟩) n cap ∧ base ≤ g ∧ Ws w (some ⟨g, 0, none⟩) g 0 n H ∧ (∀ j, w.frozen? ⟨g, j, none⟩ = false) := by
  rcases h.2 with ⟨_, h0⟩ | ⟨g, cap, cur, rfl, hb, hg, _⟩
  · omega
  · have hl := h.lt g rfl
    refine ⟨g, cap, rfl, hb, ⟨fun _ => ⟨rfl, hl.2⟩, fun k hk => ?_⟩, fun j => frozen_of_row w g j _ _ hg⟩
    rw [Nat.zero_add]
    refine (h.cellAt k (by omega)).trans ?_
    unfold rowH; simp [hk]
/-- A word of a call's own turned. -/
theorem own_set {w : World} {base g cap n : Nat} {H : Nat → BitVec 32} (h : w.ownsRow base 25 1 (.slice (some ⟨g, 0, none⟩) n cap) n (rowH H n)) (j : Nat) (x : BitVec 32) (hj : j < n) : (w.setCell ⟨g, j, none⟩ (.int .u32 (w32 x))).ownsRow base 25 1 (.slice (some ⟨g, 0, none⟩) n cap) n (rowH (updB H j x) n) := by
  refine ⟨by rw [rowH_len, Nat.mul_one], ?_⟩
  rcases h.2 with ⟨h0, _⟩ | ⟨g', cap', cur, hv, hb, hg, h1, h2, h3, h4⟩
  · cases h0
  · injection hv with e1 e2 e3
    injection e1 with e1
    injection e1 with e1
    subst e1 e3
    refine .inr ⟨g, cap, cur.setIfInBounds j (.int .u32 (w32 x)), rfl, hb, heap_setCell_same w g j _ _ _ hg, h1, h2, by simpa using h3, ?_⟩
    rw [Array.toList_setIfInBounds, List.take_set, h4]
    apply List.ext_getElem?
    intro i
    by_cases e : i = j
    · subst e
      rw [List.getElem?_set_self (by rw [rowH_len]; exact hj)]
      unfold rowH; simp [hj, updB]
    · rw [List.getElem?_set_ne (fun e' => e e'.symm)]
      unfold rowH
      by_cases hi : i < n
      · simp [hi, updB, e]
      · simp [hi]
/-- A header's words, none committed, none confirmed. -/
def wd0 (s l c : BitVec 32) : Nat → BitVec 32
  | 0 => s | 1 => ~~~s | 2 => l | 3 => ~~~l | 4 => c | 5 => ~~~c | _ => BitVec.allOnes 32
def wdC (H : Nat → BitVec 32) (cm : Bool) : Nat → BitVec 32 := if cm then updB (updB H 6 comW) 7 (~~~comW) else H
def wdF (H : Nat → BitVec 32) (cf : Bool) : Nat → BitVec 32 := if cf then updB (updB H 8 conW) 9 (~~~conW) else H

set_option maxHeartbeats 2000000 in
set_option maxRecDepth 100000 in
theorem words_any (s l c : BitVec 32) (cm cf : Bool) (w : World) : Calls Try.prog 18 #[.int .u32 (w32 s), .int .u32 (w32 l), .int .u32 (w32 c), .bool cm, .bool cf] w fun e w' =>
    ∃ g cap, e = .returned (.slice (some ⟨g, 0, none⟩) 13 cap) ∧ w'.ownsRow w.heap.size 25 1 (.slice (some ⟨g, 0, none⟩) 13 cap) 13 (rowH (wdF (wdC (wd0 s l c) cm) cf) 13) ∧ Below w.heap.size w w' := by
  obtain ⟨i0, hi, hz0, hz1, hz2⟩ := info_parts info25
  have HO := fun x w => Lib.hid (refother_any x w)
  obtain ⟨w1, hw1⟩ : ∃ w1, w1 = w.alloc (.cells #[.int .u32 (w32 s), .int .u32 (w32 (~~~s)), .int .u32 (w32 l), .int .u32 (w32 (~~~l)), .int .u32 (w32 c), .int .u32 (w32 (~~~c))] 25) := ⟨_, rfl⟩
  have H1 := Lib.hid (show w1.ownsRow w.heap.size 25 1 (.slice (some ⟨w.heap.size, 0, none⟩) 6 6) 6 (rowH (wd0 s l c) 6) ∧ Below w.heap.size w w1 from
    ⟨⟨by rw [rowH_len], .inr ⟨w.heap.size, 6, _, rfl, Nat.le_refl _, by rw [hw1]; exact heap_alloc_new w _, Nat.le_refl _, by unfold maxLen; omega, rfl, rfl⟩⟩, by rw [hw1]; exact (Below.refl _ _).alloc (Nat.le_refl _) _⟩)
  go_enter Try.func18, Try.ntmps18
  go_wp2_with fail
  refine (HO _ _).out.mono ?_
  rintro e w9 ⟨rfl, rfl⟩
  go_wp2_with fail
  refine (HO _ _).out.mono ?_
  rintro e w9 ⟨rfl, rfl⟩
  go_wp2_with fail
  refine (HO _ _).out.mono ?_
  rintro e w9 ⟨rfl, rfl⟩
  go_wp2
  rw [← hw1]
  clear hw1
  go_loopg [11, 12] 7 (fun g v i wr => ∃ (k : Nat), k + g = 7 ∧ i = .int .i64 (6 + k : Nat) ∧ wr.ownsRow w.heap.size 25 1 v (6 + k) (rowH (wd0 s l c) (6 + k)) ∧ Below w.heap.size w wr)
  case atStart => exact ⟨0, by omega, rfl, H1.out.1, H1.out.2⟩
  case round =>
    obtain ⟨k, hkg, rfl, hown, hB⟩ := hrel
    have HW := Lib.hid hown
    have HB := Lib.hid hB
    clear hown hB
    cases gk with
    | zero =>
      obtain rfl : k = 7 := by omega
      obtain ⟨g, cap, rfl, hg, hW, hf⟩ := own_words HW.out (by omega)
      have d6 : wr.cell? ⟨g, 6, none⟩ = some (.int .u32 (w32 (wd0 s l c 6))) := hW.cell 6 (by omega)
      have d7 : wr.cell? ⟨g, 7, none⟩ = some (.int .u32 (w32 (wd0 s l c 7))) := hW.cell 7 (by omega)
      have d8 : wr.cell? ⟨g, 8, none⟩ = some (.int .u32 (w32 (wd0 s l c 8))) := hW.cell 8 (by omega)
      have d9 : wr.cell? ⟨g, 9, none⟩ = some (.int .u32 (w32 (wd0 s l c 9))) := hW.cell 9 (by omega)
      have f6 := hf 6
      have f7 := hf 7
      have f8 := hf 8
      have f9 := hf 9
      have HC := fun wz => Lib.hid (show Calls Try.prog 40 #[.int .u32 1668246893] wz fun e w' => e = .returned (.int .u32 (w32 (~~~comW))) ∧ wz = w' by rw [comW_int]; exact (HO comW wz).out)
      have HN := fun wz => Lib.hid (show Calls Try.prog 40 #[.int .u32 1668247142] wz fun e w' => e = .returned (.int .u32 (w32 (~~~conW))) ∧ wz = w' by rw [conW_int]; exact (HO conW wz).out)
      have HG := Lib.hid hg
      clear hW hf hg hkg
      cases cm <;> cases cf
      · go_wp2
        go_ret
        refine ⟨g, cap, rfl, ?_, HB.out⟩
        have := HW.out
        exact this
      · go_wp2_with fail
        refine (HN _).out.mono ?_
        rintro e w9 ⟨rfl, rfl⟩
        go_wp2
        go_ret
        refine ⟨g, cap, rfl, ?_, ((HB.out.setCell HG.out _).setCell HG.out _)⟩
        have := (own_set (own_set HW.out 8 conW (by omega)) 9 (~~~conW) (by omega))
        rw [← conW_int] at this
        exact this
      · go_wp2_with fail
        refine (HC _).out.mono ?_
        rintro e w9 ⟨rfl, rfl⟩
        go_wp2
        go_ret
        refine ⟨g, cap, rfl, ?_, ((HB.out.setCell HG.out _).setCell HG.out _)⟩
        have := (own_set (own_set HW.out 6 comW (by omega)) 7 (~~~comW) (by omega))
        rw [← comW_int] at this
        exact this
      · go_wp2_with fail
        refine (HC _).out.mono ?_
        rintro e w9 ⟨rfl, rfl⟩
        go_wp2_with fail
        refine (HN _).out.mono ?_
        rintro e w9 ⟨rfl, rfl⟩
        go_wp2
        go_ret
        refine ⟨g, cap, rfl, ?_, ((((HB.out.setCell HG.out _).setCell HG.out _).setCell HG.out _).setCell HG.out _)⟩
        have := (own_set (own_set (own_set (own_set HW.out 6 comW (by omega)) 7 (~~~comW) (by omega)) 8 conW (by omega)) 9 (~~~conW) (by omega))
        rw [← comW_int, ← conW_int] at this
        exact this
    | succ g1 =>
      have hk : k < 7 := by omega
      have hk2 : ((6 + k : Nat) : Int) < 13 := by omega
      go_wp2_with (first | (at_builtin; refine wpList_append_own _ rfl (.tmp 27) (.tmp 28) 22 rfl w.heap.size 25 i0 (.int .u32 0) 1 4 Try.underlying22 hi hz0 hz1 hz2 rfl Nat.one_pos _ (6 + k) (rowH (wd0 s l c) (6 + k)) rfl (HW.out.alloc _) ⟨wr.heap.size, 0, none⟩ 1 1 [.int .u32 4294967295] rfl rfl (cell_one_new _ _ _) (one_word _) (by unfold maxLen; omega) (by omega) (by rw [World.size_alloc]; exact Nat.le_succ_of_le HB.out.size) ?_; intro v1 w2 hown1 hg1 _; have HO1 := Lib.hid hown1; have HB1 := Lib.hid (Below.grown (Below.alloc HB.out HB.out.size _) hg1 (by rw [World.size_alloc]; exact Nat.le_succ_of_le HB.out.size) (fun j e => (HW.out.lt j e).1)); clear hown1 hg1) | fail)
      go_roundg g1
      case measure => omega
      case rel =>
        refine ⟨k + 1, by omega, by go_num, ?_, HB1.out⟩
        have h := HO1.out
        rw [show 6 + (k + 1) = 6 + k + 1 by omega, rowH_succ, show wd0 s l c (6 + k) = BitVec.allOnes 32 by rw [show 6 + k = k + 6 by omega]; rfl, w32_ones]
        exact h
end Go.Proofs.Ytdfknobohgncaaa
