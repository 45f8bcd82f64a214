/- The contracts of pairAt, trials and NextTrial. -/
import Derived.Test.YthpagbfabpfngaaHB
namespace Go.Proofs.Ythpagbfabpfngaa
open Go.RowKit

set_option maxHeartbeats 1000000 in
theorem pairAt0 (H : Nat → BitVec 32) (w : World) : Calls Try.prog 88 #[.agg (hs H).toArray, .int .i64 0] w fun e w' => e = .returned (.agg #[.int .u32 (w32 (H 0)), .int .u32 (w32 (H 1))]) ∧ Below w.heap.size w w' := by
  obtain ⟨r, hr⟩ : ∃ r, r = w.heap.size := ⟨_, rfl⟩
  obtain ⟨w1, hw1⟩ : ∃ w1, w1 = w.alloc (.cells (hs H).toArray 147) := ⟨_, rfl⟩
  obtain ⟨w2, hw2⟩ : ∃ w2, w2 = w1.alloc (.cells #[.int .u32 0, .int .u32 0] 152) := ⟨_, rfl⟩
  have s1 : w1.heap.size = r + 1 := by rw [hw1, hr]; simp
  have z1 : HAt w1 r H := by unfold HAt; rw [hw1, hr]; exact heap_alloc_new w _
  have z2 : HAt w2 r H := by rw [hw2]; exact z1.below ((Below.refl w1.heap.size w1).alloc (Nat.le_refl _) _) (by omega)
  have x2 : BoxAt w2 (r + 1) [.int .u32 0, .int .u32 0] := by rw [hw2, ← s1]; exact BoxAt.mk_new w1 _ _
  have b2 : Below r w w2 := by rw [hw2, hw1, hr]; exact ((Below.refl _ _).alloc (Nat.le_refl _) _).alloc (by simp) _
  have c0 := z2.cell 0 (by omega)
  have c1 := z2.cell 1 (by omega)
  have d0 := x2.cell 0 _ rfl
  have d1 := x2.cell 1 _ rfl
  have f0 := x2.fr 0
  have f1 := x2.fr 1
  have HB := Lib.hid (And.intro b2 hr)
  obtain ⟨x, hx⟩ : ∃ x, w32 (H 0) = x := ⟨_, rfl⟩
  obtain ⟨y, hy⟩ : ∃ y, w32 (H 1) = y := ⟨_, rfl⟩
  rw [hx] at c0 ⊢
  rw [hy] at c1 ⊢
  have h2 : w2.heap[r + 1]? = some (.cells #[.int .u32 0, .int .u32 0] 152 (0, 0)) := by rw [hw2, ← s1]; exact heap_alloc_new w1 _
  have h3 := heap_setCell_same w2 (r + 1) 0 _ _ (.int .u32 x) h2
  have h4 := heap_setCell_same _ (r + 1) 1 _ _ (.int .u32 y) h3
  have X3 := Lib.hid h4
  clear z1 z2 x2 b2 hx hy h2 h3 h4
  have wr : IntKind.i64.wrap 1 = 1 := by decide
  go_enter Try.func88, Try.ntmps88
  go_upto_region 1 with fail
  rw [← hw1, ← hw2, ← hr]
  clear hw1 hw2 hr s1
  go_region_held3 (fun w' => w'.cell? ⟨r, 0, none⟩ = some (.int .u32 x) ∧ w'.cell? ⟨r, 1, none⟩ = some (.int .u32 y)) (first | exact ⟨c0, c1⟩ | go_keep) (fail)
  go_wp2
  have HW := Lib.hid (show Below r w ((w2.setCell ⟨r + 1, 0, none⟩ (.int .u32 x)).setCell ⟨r + 1, 1, none⟩ (.int .u32 y)).drew from ((HB.out.1.setCell (Nat.le_succ r) _).setCell (Nat.le_succ r) _).drew)
  have HX := Lib.hid (show ((w2.setCell ⟨r + 1, 0, none⟩ (.int .u32 x)).setCell ⟨r + 1, 1, none⟩ (.int .u32 y)).drew.heap[r + 1]? = some (.cells #[.int .u32 x, .int .u32 y] 152 (0, 0)) from X3.out)
  generalize ((w2.setCell ⟨r + 1, 0, none⟩ (.int .u32 x)).setCell ⟨r + 1, 1, none⟩ (.int .u32 y)).drew = w5 at HW HX ⊢
  refine bodyPost_ret (results_cell_row rfl _ _ (r + 1) 152 #[.int .u32 x, .int .u32 y] (0, 0) _ rfl HX.out Try.underlying152 rfl (by kernel_rfl)) rfl ?_
  rw [← HB.out.2]
  exact ⟨rfl, HW.out⟩
set_option maxHeartbeats 1000000 in
theorem pairAt2 (H : Nat → BitVec 32) (w : World) : Calls Try.prog 88 #[.agg (hs H).toArray, .int .i64 2] w fun e w' => e = .returned (.agg #[.int .u32 (w32 (H 2)), .int .u32 (w32 (H 3))]) ∧ Below w.heap.size w w' := by
  obtain ⟨r, hr⟩ : ∃ r, r = w.heap.size := ⟨_, rfl⟩
  obtain ⟨w1, hw1⟩ : ∃ w1, w1 = w.alloc (.cells (hs H).toArray 147) := ⟨_, rfl⟩
  obtain ⟨w2, hw2⟩ : ∃ w2, w2 = w1.alloc (.cells #[.int .u32 0, .int .u32 0] 152) := ⟨_, rfl⟩
  have s1 : w1.heap.size = r + 1 := by rw [hw1, hr]; simp
  have z1 : HAt w1 r H := by unfold HAt; rw [hw1, hr]; exact heap_alloc_new w _
  have z2 : HAt w2 r H := by rw [hw2]; exact z1.below ((Below.refl w1.heap.size w1).alloc (Nat.le_refl _) _) (by omega)
  have x2 : BoxAt w2 (r + 1) [.int .u32 0, .int .u32 0] := by rw [hw2, ← s1]; exact BoxAt.mk_new w1 _ _
  have b2 : Below r w w2 := by rw [hw2, hw1, hr]; exact ((Below.refl _ _).alloc (Nat.le_refl _) _).alloc (by simp) _
  have c0 := z2.cell 2 (by omega)
  have c1 := z2.cell 3 (by omega)
  have d0 := x2.cell 0 _ rfl
  have d1 := x2.cell 1 _ rfl
  have f0 := x2.fr 0
  have f1 := x2.fr 1
  have HB := Lib.hid (And.intro b2 hr)
  obtain ⟨x, hx⟩ : ∃ x, w32 (H 2) = x := ⟨_, rfl⟩
  obtain ⟨y, hy⟩ : ∃ y, w32 (H 3) = y := ⟨_, rfl⟩
  rw [hx] at c0 ⊢
  rw [hy] at c1 ⊢
  have h2 : w2.heap[r + 1]? = some (.cells #[.int .u32 0, .int .u32 0] 152 (0, 0)) := by rw [hw2, ← s1]; exact heap_alloc_new w1 _
  have h3 := heap_setCell_same w2 (r + 1) 0 _ _ (.int .u32 x) h2
  have h4 := heap_setCell_same _ (r + 1) 1 _ _ (.int .u32 y) h3
  have X3 := Lib.hid h4
  clear z1 z2 x2 b2 hx hy h2 h3 h4
  have wr : IntKind.i64.wrap 3 = 3 := by decide
  go_enter Try.func88, Try.ntmps88
  go_upto_region 1 with fail
  rw [← hw1, ← hw2, ← hr]
  clear hw1 hw2 hr s1
  go_region_held3 (fun w' => w'.cell? ⟨r, 2, none⟩ = some (.int .u32 x) ∧ w'.cell? ⟨r, 3, none⟩ = some (.int .u32 y)) (first | exact ⟨c0, c1⟩ | go_keep) (fail)
  go_wp2
  have HW := Lib.hid (show Below r w ((w2.setCell ⟨r + 1, 0, none⟩ (.int .u32 x)).setCell ⟨r + 1, 1, none⟩ (.int .u32 y)).drew from ((HB.out.1.setCell (Nat.le_succ r) _).setCell (Nat.le_succ r) _).drew)
  have HX := Lib.hid (show ((w2.setCell ⟨r + 1, 0, none⟩ (.int .u32 x)).setCell ⟨r + 1, 1, none⟩ (.int .u32 y)).drew.heap[r + 1]? = some (.cells #[.int .u32 x, .int .u32 y] 152 (0, 0)) from X3.out)
  generalize ((w2.setCell ⟨r + 1, 0, none⟩ (.int .u32 x)).setCell ⟨r + 1, 1, none⟩ (.int .u32 y)).drew = w5 at HW HX ⊢
  refine bodyPost_ret (results_cell_row rfl _ _ (r + 1) 152 #[.int .u32 x, .int .u32 y] (0, 0) _ rfl HX.out Try.underlying152 rfl (by kernel_rfl)) rfl ?_
  rw [← HB.out.2]
  exact ⟨rfl, HW.out⟩
set_option maxHeartbeats 1000000 in
theorem pairAt4 (H : Nat → BitVec 32) (w : World) : Calls Try.prog 88 #[.agg (hs H).toArray, .int .i64 4] w fun e w' => e = .returned (.agg #[.int .u32 (w32 (H 4)), .int .u32 (w32 (H 5))]) ∧ Below w.heap.size w w' := by
  obtain ⟨r, hr⟩ : ∃ r, r = w.heap.size := ⟨_, rfl⟩
  obtain ⟨w1, hw1⟩ : ∃ w1, w1 = w.alloc (.cells (hs H).toArray 147) := ⟨_, rfl⟩
  obtain ⟨w2, hw2⟩ : ∃ w2, w2 = w1.alloc (.cells #[.int .u32 0, .int .u32 0] 152) := ⟨_, rfl⟩
  have s1 : w1.heap.size = r + 1 := by rw [hw1, hr]; simp
  have z1 : HAt w1 r H := by unfold HAt; rw [hw1, hr]; exact heap_alloc_new w _
  have z2 : HAt w2 r H := by rw [hw2]; exact z1.below ((Below.refl w1.heap.size w1).alloc (Nat.le_refl _) _) (by omega)
  have x2 : BoxAt w2 (r + 1) [.int .u32 0, .int .u32 0] := by rw [hw2, ← s1]; exact BoxAt.mk_new w1 _ _
  have b2 : Below r w w2 := by rw [hw2, hw1, hr]; exact ((Below.refl _ _).alloc (Nat.le_refl _) _).alloc (by simp) _
  have c0 := z2.cell 4 (by omega)
  have c1 := z2.cell 5 (by omega)
  have d0 := x2.cell 0 _ rfl
  have d1 := x2.cell 1 _ rfl
  have f0 := x2.fr 0
  have f1 := x2.fr 1
  have HB := Lib.hid (And.intro b2 hr)
  obtain ⟨x, hx⟩ : ∃ x, w32 (H 4) = x := ⟨_, rfl⟩
  obtain ⟨y, hy⟩ : ∃ y, w32 (H 5) = y := ⟨_, rfl⟩
  rw [hx] at c0 ⊢
  rw [hy] at c1 ⊢
  have h2 : w2.heap[r + 1]? = some (.cells #[.int .u32 0, .int .u32 0] 152 (0, 0)) := by rw [hw2, ← s1]; exact heap_alloc_new w1 _
  have h3 := heap_setCell_same w2 (r + 1) 0 _ _ (.int .u32 x) h2
  have h4 := heap_setCell_same _ (r + 1) 1 _ _ (.int .u32 y) h3
  have X3 := Lib.hid h4
  clear z1 z2 x2 b2 hx hy h2 h3 h4
  have wr : IntKind.i64.wrap 5 = 5 := by decide
  go_enter Try.func88, Try.ntmps88
  go_upto_region 1 with fail
  rw [← hw1, ← hw2, ← hr]
  clear hw1 hw2 hr s1
  go_region_held3 (fun w' => w'.cell? ⟨r, 4, none⟩ = some (.int .u32 x) ∧ w'.cell? ⟨r, 5, none⟩ = some (.int .u32 y)) (first | exact ⟨c0, c1⟩ | go_keep) (fail)
  go_wp2
  have HW := Lib.hid (show Below r w ((w2.setCell ⟨r + 1, 0, none⟩ (.int .u32 x)).setCell ⟨r + 1, 1, none⟩ (.int .u32 y)).drew from ((HB.out.1.setCell (Nat.le_succ r) _).setCell (Nat.le_succ r) _).drew)
  have HX := Lib.hid (show ((w2.setCell ⟨r + 1, 0, none⟩ (.int .u32 x)).setCell ⟨r + 1, 1, none⟩ (.int .u32 y)).drew.heap[r + 1]? = some (.cells #[.int .u32 x, .int .u32 y] 152 (0, 0)) from X3.out)
  generalize ((w2.setCell ⟨r + 1, 0, none⟩ (.int .u32 x)).setCell ⟨r + 1, 1, none⟩ (.int .u32 y)).drew = w5 at HW HX ⊢
  refine bodyPost_ret (results_cell_row rfl _ _ (r + 1) 152 #[.int .u32 x, .int .u32 y] (0, 0) _ rfl HX.out Try.underlying152 rfl (by kernel_rfl)) rfl ?_
  rw [← HB.out.2]
  exact ⟨rfl, HW.out⟩
set_option maxHeartbeats 1000000 in
theorem pairAt6 (H : Nat → BitVec 32) (w : World) : Calls Try.prog 88 #[.agg (hs H).toArray, .int .i64 6] w fun e w' => e = .returned (.agg #[.int .u32 (w32 (H 6)), .int .u32 (w32 (H 7))]) ∧ Below w.heap.size w w' := by
  obtain ⟨r, hr⟩ : ∃ r, r = w.heap.size := ⟨_, rfl⟩
  obtain ⟨w1, hw1⟩ : ∃ w1, w1 = w.alloc (.cells (hs H).toArray 147) := ⟨_, rfl⟩
  obtain ⟨w2, hw2⟩ : ∃ w2, w2 = w1.alloc (.cells #[.int .u32 0, .int .u32 0] 152) := ⟨_, rfl⟩
  have s1 : w1.heap.size = r + 1 := by rw [hw1, hr]; simp
  have z1 : HAt w1 r H := by unfold HAt; rw [hw1, hr]; exact heap_alloc_new w _
  have z2 : HAt w2 r H := by rw [hw2]; exact z1.below ((Below.refl w1.heap.size w1).alloc (Nat.le_refl _) _) (by omega)
  have x2 : BoxAt w2 (r + 1) [.int .u32 0, .int .u32 0] := by rw [hw2, ← s1]; exact BoxAt.mk_new w1 _ _
  have b2 : Below r w w2 := by rw [hw2, hw1, hr]; exact ((Below.refl _ _).alloc (Nat.le_refl _) _).alloc (by simp) _
  have c0 := z2.cell 6 (by omega)
  have c1 := z2.cell 7 (by omega)
  have d0 := x2.cell 0 _ rfl
  have d1 := x2.cell 1 _ rfl
  have f0 := x2.fr 0
  have f1 := x2.fr 1
  have HB := Lib.hid (And.intro b2 hr)
  obtain ⟨x, hx⟩ : ∃ x, w32 (H 6) = x := ⟨_, rfl⟩
  obtain ⟨y, hy⟩ : ∃ y, w32 (H 7) = y := ⟨_, rfl⟩
  rw [hx] at c0 ⊢
  rw [hy] at c1 ⊢
  have h2 : w2.heap[r + 1]? = some (.cells #[.int .u32 0, .int .u32 0] 152 (0, 0)) := by rw [hw2, ← s1]; exact heap_alloc_new w1 _
  have h3 := heap_setCell_same w2 (r + 1) 0 _ _ (.int .u32 x) h2
  have h4 := heap_setCell_same _ (r + 1) 1 _ _ (.int .u32 y) h3
  have X3 := Lib.hid h4
  clear z1 z2 x2 b2 hx hy h2 h3 h4
  have wr : IntKind.i64.wrap 7 = 7 := by decide
  go_enter Try.func88, Try.ntmps88
  go_upto_region 1 with fail
  rw [← hw1, ← hw2, ← hr]
  clear hw1 hw2 hr s1
  go_region_held3 (fun w' => w'.cell? ⟨r, 6, none⟩ = some (.int .u32 x) ∧ w'.cell? ⟨r, 7, none⟩ = some (.int .u32 y)) (first | exact ⟨c0, c1⟩ | go_keep) (fail)
  go_wp2
  have HW := Lib.hid (show Below r w ((w2.setCell ⟨r + 1, 0, none⟩ (.int .u32 x)).setCell ⟨r + 1, 1, none⟩ (.int .u32 y)).drew from ((HB.out.1.setCell (Nat.le_succ r) _).setCell (Nat.le_succ r) _).drew)
  have HX := Lib.hid (show ((w2.setCell ⟨r + 1, 0, none⟩ (.int .u32 x)).setCell ⟨r + 1, 1, none⟩ (.int .u32 y)).drew.heap[r + 1]? = some (.cells #[.int .u32 x, .int .u32 y] 152 (0, 0)) from X3.out)
  generalize ((w2.setCell ⟨r + 1, 0, none⟩ (.int .u32 x)).setCell ⟨r + 1, 1, none⟩ (.int .u32 y)).drew = w5 at HW HX ⊢
  refine bodyPost_ret (results_cell_row rfl _ _ (r + 1) 152 #[.int .u32 x, .int .u32 y] (0, 0) _ rfl HX.out Try.underlying152 rfl (by kernel_rfl)) rfl ?_
  rw [← HB.out.2]
  exact ⟨rfl, HW.out⟩
set_option maxHeartbeats 1000000 in
theorem pairAt8 (H : Nat → BitVec 32) (w : World) : Calls Try.prog 88 #[.agg (hs H).toArray, .int .i64 8] w fun e w' => e = .returned (.agg #[.int .u32 (w32 (H 8)), .int .u32 (w32 (H 9))]) ∧ Below w.heap.size w w' := by
  obtain ⟨r, hr⟩ : ∃ r, r = w.heap.size := ⟨_, rfl⟩
  obtain ⟨w1, hw1⟩ : ∃ w1, w1 = w.alloc (.cells (hs H).toArray 147) := ⟨_, rfl⟩
  obtain ⟨w2, hw2⟩ : ∃ w2, w2 = w1.alloc (.cells #[.int .u32 0, .int .u32 0] 152) := ⟨_, rfl⟩
  have s1 : w1.heap.size = r + 1 := by rw [hw1, hr]; simp
  have z1 : HAt w1 r H := by unfold HAt; rw [hw1, hr]; exact heap_alloc_new w _
  have z2 : HAt w2 r H := by rw [hw2]; exact z1.below ((Below.refl w1.heap.size w1).alloc (Nat.le_refl _) _) (by omega)
  have x2 : BoxAt w2 (r + 1) [.int .u32 0, .int .u32 0] := by rw [hw2, ← s1]; exact BoxAt.mk_new w1 _ _
  have b2 : Below r w w2 := by rw [hw2, hw1, hr]; exact ((Below.refl _ _).alloc (Nat.le_refl _) _).alloc (by simp) _
  have c0 := z2.cell 8 (by omega)
  have c1 := z2.cell 9 (by omega)
  have d0 := x2.cell 0 _ rfl
  have d1 := x2.cell 1 _ rfl
  have f0 := x2.fr 0
  have f1 := x2.fr 1
  have HB := Lib.hid (And.intro b2 hr)
  obtain ⟨x, hx⟩ : ∃ x, w32 (H 8) = x := ⟨_, rfl⟩
  obtain ⟨y, hy⟩ : ∃ y, w32 (H 9) = y := ⟨_, rfl⟩
  rw [hx] at c0 ⊢
  rw [hy] at c1 ⊢
  have h2 : w2.heap[r + 1]? = some (.cells #[.int .u32 0, .int .u32 0] 152 (0, 0)) := by rw [hw2, ← s1]; exact heap_alloc_new w1 _
  have h3 := heap_setCell_same w2 (r + 1) 0 _ _ (.int .u32 x) h2
  have h4 := heap_setCell_same _ (r + 1) 1 _ _ (.int .u32 y) h3
  have X3 := Lib.hid h4
  clear z1 z2 x2 b2 hx hy h2 h3 h4
  have wr : IntKind.i64.wrap 9 = 9 := by decide
  go_enter Try.func88, Try.ntmps88
  go_upto_region 1 with fail
  rw [← hw1, ← hw2, ← hr]
  clear hw1 hw2 hr s1
  go_region_held3 (fun w' => w'.cell? ⟨r, 8, none⟩ = some (.int .u32 x) ∧ w'.cell? ⟨r, 9, none⟩ = some (.int .u32 y)) (first | exact ⟨c0, c1⟩ | go_keep) (fail)
  go_wp2
  have HW := Lib.hid (show Below r w ((w2.setCell ⟨r + 1, 0, none⟩ (.int .u32 x)).setCell ⟨r + 1, 1, none⟩ (.int .u32 y)).drew from ((HB.out.1.setCell (Nat.le_succ r) _).setCell (Nat.le_succ r) _).drew)
  have HX := Lib.hid (show ((w2.setCell ⟨r + 1, 0, none⟩ (.int .u32 x)).setCell ⟨r + 1, 1, none⟩ (.int .u32 y)).drew.heap[r + 1]? = some (.cells #[.int .u32 x, .int .u32 y] 152 (0, 0)) from X3.out)
  generalize ((w2.setCell ⟨r + 1, 0, none⟩ (.int .u32 x)).setCell ⟨r + 1, 1, none⟩ (.int .u32 y)).drew = w5 at HW HX ⊢
  refine bodyPost_ret (results_cell_row rfl _ _ (r + 1) 152 #[.int .u32 x, .int .u32 y] (0, 0) _ rfl HX.out Try.underlying152 rfl (by kernel_rfl)) rfl ?_
  rw [← HB.out.2]
  exact ⟨rfl, HW.out⟩
end Go.Proofs.Ythpagbfabpfngaa
