/- The contracts of the reference's Drop and Put where they answer true. -/
import Derived.Test.YtimaihdlaaonbaaDoorRQ
namespace Go.Proofs.YtimaihdlaaonbaaDoor
open Go.RowKit

set_option maxHeartbeats 4000000 in
theorem refdrop_yes (q : Nat → Nat) (k : Nat) (hk : k < 32) (hz : q k ≠ 0) (w : World) : Calls Tryd.prog 6 #[.agg (qs q).toArray, .int .i64 k] w fun e w' =>
    e = .returned (.tuple #[.agg (qs (upd q k 0)).toArray, .bool true]) ∧ Below w.heap.size w w' := by
  have d1 : decide ((k : Int) < 0) = false := by simp
  have d2 : decide ((31 : Int) < (k : Int)) = false := by simp; omega
  have hki : (k : Int) < 32 := by omega
  have hk0 : (0 : Int) ≤ (k : Int) := by omega
  have hqz : ((q k : Int) == 0) = false := by simp [hz]
  have hls : (qs q).set k (.int .i64 0) = qs (upd q k 0) := qs_lset q k 0 hk
  have hc : ∀ Z : Obj, ((w.alloc (.cells (qs q).toArray 30)).alloc Z).cell? ⟨w.heap.size, k, none⟩ = some (.int .i64 (q k)) := fun Z => by
    rw [cell_of_row _ _ k _ 30 (0, 0) (heap_alloc2_old w _ Z)]
    simpa using qs_at q k hk
  have hf : ∀ Z : Obj, ((w.alloc (.cells (qs q).toArray 30)).alloc Z).frozen? ⟨w.heap.size, k, none⟩ = false := fun Z => frozen_of_row _ _ k _ 30 (heap_alloc2_old w _ Z)
  go_enter Tryd.func6, Tryd.ntmps6
  go_wp2_with (first
    | (refine wpList_load_row rfl 30 (.tmp 2) rfl w.heap.size rfl 30 (qs (upd q k 0)).toArray (0, 0) _ (heap_alloc2_old _ _ _) Tryd.underlying30 rfl (by rw [info30]; simp [qs_len]) ?_)
    | (refine wpList_store_row rfl 30 (.tmp 4) (.tmp 21) rfl (w.heap.size + 1) (qs (upd q k 0)).toArray rfl rfl 30 _ (heap_alloc2_new _ _ _) (by rw [info30]; simp [qs_len]) (by simp [qs_len]) (qs_one (upd q k 0)) ?_))
  refine bodyPost_ret (results_row rfl _ _ (w.heap.size + 1) 30 (qs (upd q k 0)).toArray _ rfl (setRow_heap _ _ _ _ 30 (0, 0) (heap_alloc2_new _ _ _)) Tryd.underlying30 rfl (by rw [info30]; simp [qs_len])) rfl ?_
  exact ⟨rfl, below_row⟩
theorem refdrop_any (q : Nat → Nat) (n : Int) (w : World) : Calls Tryd.prog 6 #[.agg (qs q).toArray, .int .i64 n] w fun e w' =>
    e = .returned (.tuple #[.agg (qs (dropQ q n)).toArray, .bool (inQ q n)]) ∧ Below w.heap.size w w' := by
  cases hi : inQ q n
  · have : dropQ q n = q := by unfold dropQ; rw [hi]; rfl
    rw [this]
    exact refdrop_no q n w hi
  · have hi' := hi
    unfold inQ at hi'
    rw [decide_eq_true_iff] at hi'
    obtain ⟨h0, h1, h2⟩ := hi'
    obtain ⟨k, rfl⟩ := Int.eq_ofNat_of_zero_le h0
    have : dropQ q (k : Int) = upd q k 0 := by unfold dropQ; rw [hi]; rfl
    rw [this]
    exact refdrop_yes q k (by omega) h2 w

set_option maxHeartbeats 8000000 in
theorem refput_no (q : Nat → Nat) (n l : Int) (w : World) (hi : okQ n l = false) : Calls Tryd.prog 8 #[.agg (qs q).toArray, .int .i64 n, .int .i64 l] w fun e w' =>
    e = .returned (.tuple #[.agg (qs q).toArray, .bool false]) ∧ Below w.heap.size w w' := by
  unfold okQ at hi
  rw [decide_eq_false_iff_not] at hi
  by_cases h0 : n < 0
  · clear hi
    have d1 : decide (n < 0) = true := by simpa using h0
    go_enter Tryd.func8, Tryd.ntmps8
    go_wp2_with (first
      | (refine wpList_load_row rfl 30 (.tmp 3) rfl w.heap.size rfl 30 (qs q).toArray (0, 0) _ (heap_alloc2_old _ _ _) Tryd.underlying30 rfl (by rw [info30]; simp [qs_len]) ?_)
      | (refine wpList_store_row rfl 30 (.tmp 6) (.tmp 22) rfl (w.heap.size + 1) (qs q).toArray rfl rfl 30 _ (heap_alloc2_new _ _ _) (by rw [info30]; simp [qs_len]) (by simp [qs_len]) (qs_one q) ?_))
    refine bodyPost_ret (results_row rfl _ _ (w.heap.size + 1) 30 (qs q).toArray _ rfl (setRow_heap _ _ _ _ 30 (0, 0) (heap_alloc2_new _ _ _)) Tryd.underlying30 rfl (by rw [info30]; simp [qs_len])) rfl ?_
    exact ⟨rfl, below_row⟩
  · by_cases h1 : n > 31
    · clear hi
      have d1 : decide (n < 0) = false := by simpa using h0
      have d2 : decide (31 < n) = true := by simpa using h1
      go_enter Tryd.func8, Tryd.ntmps8
      go_wp2_with (first
        | (refine wpList_load_row rfl 30 (.tmp 3) rfl w.heap.size rfl 30 (qs q).toArray (0, 0) _ (heap_alloc2_old _ _ _) Tryd.underlying30 rfl (by rw [info30]; simp [qs_len]) ?_)
        | (refine wpList_store_row rfl 30 (.tmp 6) (.tmp 22) rfl (w.heap.size + 1) (qs q).toArray rfl rfl 30 _ (heap_alloc2_new _ _ _) (by rw [info30]; simp [qs_len]) (by simp [qs_len]) (qs_one q) ?_))
      refine bodyPost_ret (results_row rfl _ _ (w.heap.size + 1) 30 (qs q).toArray _ rfl (setRow_heap _ _ _ _ 30 (0, 0) (heap_alloc2_new _ _ _)) Tryd.underlying30 rfl (by rw [info30]; simp [qs_len])) rfl ?_
      exact ⟨rfl, below_row⟩
    · by_cases h2 : l < 0
      · clear hi
        have d1 : decide (n < 0) = false := by simpa using h0
        have d2 : decide (31 < n) = false := by simp; omega
        have d3 : decide (l < 0) = true := by simpa using h2
        go_enter Tryd.func8, Tryd.ntmps8
        go_wp2_with (first
          | (refine wpList_load_row rfl 30 (.tmp 3) rfl w.heap.size rfl 30 (qs q).toArray (0, 0) _ (heap_alloc2_old _ _ _) Tryd.underlying30 rfl (by rw [info30]; simp [qs_len]) ?_)
          | (refine wpList_store_row rfl 30 (.tmp 6) (.tmp 22) rfl (w.heap.size + 1) (qs q).toArray rfl rfl 30 _ (heap_alloc2_new _ _ _) (by rw [info30]; simp [qs_len]) (by simp [qs_len]) (qs_one q) ?_))
        refine bodyPost_ret (results_row rfl _ _ (w.heap.size + 1) 30 (qs q).toArray _ rfl (setRow_heap _ _ _ _ 30 (0, 0) (heap_alloc2_new _ _ _)) Tryd.underlying30 rfl (by rw [info30]; simp [qs_len])) rfl ?_
        exact ⟨rfl, below_row⟩
      · have h3 : 31 < l := by omega
        clear hi
        have d1 : decide (n < 0) = false := by simpa using h0
        have d2 : decide (31 < n) = false := by simp; omega
        have d3 : decide (l < 0) = false := by simpa using h2
        have d4 : decide (31 < l) = true := by simpa using h3
        go_enter Tryd.func8, Tryd.ntmps8
        go_wp2_with (first
          | (refine wpList_load_row rfl 30 (.tmp 3) rfl w.heap.size rfl 30 (qs q).toArray (0, 0) _ (heap_alloc2_old _ _ _) Tryd.underlying30 rfl (by rw [info30]; simp [qs_len]) ?_)
          | (refine wpList_store_row rfl 30 (.tmp 6) (.tmp 22) rfl (w.heap.size + 1) (qs q).toArray rfl rfl 30 _ (heap_alloc2_new _ _ _) (by rw [info30]; simp [qs_len]) (by simp [qs_len]) (qs_one q) ?_))
        refine bodyPost_ret (results_row rfl _ _ (w.heap.size + 1) 30 (qs q).toArray _ rfl (setRow_heap _ _ _ _ 30 (0, 0) (heap_alloc2_new _ _ _)) Tryd.underlying30 rfl (by rw [info30]; simp [qs_len])) rfl ?_
        exact ⟨rfl, below_row⟩

set_option maxHeartbeats 4000000 in
theorem refput_yes (q : Nat → Nat) (k m : Nat) (hk : k < 32) (hm : m < 32) (w : World) : Calls Tryd.prog 8 #[.agg (qs q).toArray, .int .i64 k, .int .i64 m] w fun e w' =>
    e = .returned (.tuple #[.agg (qs (upd q k (m + 1))).toArray, .bool true]) ∧ Below w.heap.size w w' := by
  have d1 : decide ((k : Int) < 0) = false := by simp
  have d2 : decide ((31 : Int) < (k : Int)) = false := by simp; omega
  have d3 : decide ((m : Int) < 0) = false := by simp
  have d4 : decide ((31 : Int) < (m : Int)) = false := by simp; omega
  have hki : (k : Int) < 32 := by omega
  have hk0 : (0 : Int) ≤ (k : Int) := by omega
  have hmi : (m : Int) ≤ 31 := by omega
  have hls : (qs q).set k (.int .i64 ((m : Int) + 1)) = qs (upd q k (m + 1)) := qs_lset q k (m + 1) hk
  have hc : ∀ Z : Obj, ((w.alloc (.cells (qs q).toArray 30)).alloc Z).cell? ⟨w.heap.size, k, none⟩ = some (.int .i64 (q k)) := fun Z => by
    rw [cell_of_row _ _ k _ 30 (0, 0) (heap_alloc2_old w _ Z)]
    simpa using qs_at q k hk
  have hf : ∀ Z : Obj, ((w.alloc (.cells (qs q).toArray 30)).alloc Z).frozen? ⟨w.heap.size, k, none⟩ = false := fun Z => frozen_of_row _ _ k _ 30 (heap_alloc2_old w _ Z)
  go_enter Tryd.func8, Tryd.ntmps8
  go_wp2_with (first
    | (refine wpList_load_row rfl 30 (.tmp 3) rfl w.heap.size rfl 30 (qs (upd q k (m + 1))).toArray (0, 0) _ (heap_alloc2_old _ _ _) Tryd.underlying30 rfl (by rw [info30]; simp [qs_len]) ?_)
    | (refine wpList_store_row rfl 30 (.tmp 6) (.tmp 27) rfl (w.heap.size + 1) (qs (upd q k (m + 1))).toArray rfl rfl 30 _ (heap_alloc2_new _ _ _) (by rw [info30]; simp [qs_len]) (by simp [qs_len]) (qs_one (upd q k (m + 1))) ?_))
  refine bodyPost_ret (results_row rfl _ _ (w.heap.size + 1) 30 (qs (upd q k (m + 1))).toArray _ rfl (setRow_heap _ _ _ _ 30 (0, 0) (heap_alloc2_new _ _ _)) Tryd.underlying30 rfl (by rw [info30]; simp [qs_len])) rfl ?_
  exact ⟨rfl, below_row⟩

theorem refput_any (q : Nat → Nat) (n l : Int) (w : World) : Calls Tryd.prog 8 #[.agg (qs q).toArray, .int .i64 n, .int .i64 l] w fun e w' =>
    e = .returned (.tuple #[.agg (qs (putQ q n l)).toArray, .bool (okQ n l)]) ∧ Below w.heap.size w w' := by
  cases hi : okQ n l
  · have : putQ q n l = q := by unfold putQ; rw [hi]; rfl
    rw [this]
    exact refput_no q n l w hi
  · have hi' := hi
    unfold okQ at hi'
    rw [decide_eq_true_iff] at hi'
    obtain ⟨h0, h1, h2, h3⟩ := hi'
    obtain ⟨k, rfl⟩ := Int.eq_ofNat_of_zero_le h0
    obtain ⟨m, rfl⟩ := Int.eq_ofNat_of_zero_le h2
    have : putQ q (k : Int) (m : Int) = upd q k (m + 1) := by unfold putQ; rw [hi]; rfl
    rw [this]
    exact refput_yes q k m (by omega) (by omega) w
end Go.Proofs.YtimaihdlaaonbaaDoor
