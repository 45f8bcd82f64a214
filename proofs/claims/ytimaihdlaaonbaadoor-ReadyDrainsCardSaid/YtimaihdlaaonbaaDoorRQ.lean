/- The contracts of the reference's Drop and Put: arrays by value. -/
import Derived.Test.YtimaihdlaaonbaaDoorLev
import Derived.Laws.ResultCell
namespace Go.Proofs.YtimaihdlaaonbaaDoor
open Go.RowKit

/-- The reference's queue: of each number its level and one. -/
def qs (q : Nat → Nat) : List Value := (List.range 32).map fun i => .int .i64 (q i)
theorem qs_len (q : Nat → Nat) : (qs q).length = 32 := by unfold qs; simp
theorem qs_at (q : Nat → Nat) (l : Nat) (hl : l < 32) : (qs q)[l]? = some (.int .i64 (q l)) := by
  unfold qs; simp [hl]
theorem qs_set (q : Nat → Nat) (n v : Nat) (hn : n < 32) : (qs q).toArray.setIfInBounds n (.int .i64 v) = (qs (upd q n v)).toArray := by
  apply Array.ext_getElem?
  intro i
  rw [Array.getElem?_setIfInBounds]
  by_cases e : n = i
  · subst e
    rw [if_pos rfl, if_pos (by simp [qs_len]; omega)]
    simp only [List.getElem?_toArray]
    rw [qs_at _ n hn]
    simp [upd]
  · rw [if_neg e]
    simp only [List.getElem?_toArray]
    unfold qs
    rw [List.getElem?_map, List.getElem?_map]
    by_cases hi : i < 32
    · have : ¬ i = n := fun h => e h.symm
      simp [hi, upd, this]
    · simp [hi]
theorem qs_one (q : Nat → Nat) : (qs q).toArray.all (·.oneCell') = true := by
  rw [Array.all_eq_true_iff_forall_mem]
  intro v hv
  unfold qs at hv
  simp at hv
  obtain ⟨i, _, rfl⟩ := hv
  rfl
theorem info30 : (Tryd.prog.info? 30).map (·.size) = some 32 := by kernel_rfl

theorem results_row {P : Program} {fn : Func} {p u : Tmp} {ty : TypeId} (h : fn.results = #[.cell p ty, .tmp u]) (tmps : Array Value) (w : World) (g : Nat) (t : TypeId) (cs : Array Value) (d : TypeDesc) (hp : tmps.getD p undef = .pointer (some ⟨g, 0, none⟩))
    (hg : w.heap[g]? = some (.cells cs t (0, 0))) (hu : P.underlying ty = some d) (hd : (match d with | .struct _ | .array _ _ => true | _ => false) = true) (hi : (P.info? ty).map (·.size) = some cs.size) :
    (results fn tmps).run P w = .ok (.tuple #[.agg cs, tmps.getD u undef]) w := by
  rw [results_cell_tmp h, hp]
  simp [asAddr, Result.andThen, run_loadVar_row w g t ty cs (0, 0) d hg hu hd hi]
theorem below_row {w : World} {A Z : Obj} {cs : Array Value} : Below w.heap.size w (((w.alloc A).alloc Z).setRow (w.heap.size + 1) cs) := by
  have b := ((Below.refl w.heap.size w).alloc (Nat.le_refl _) A).alloc (by simp) Z
  refine ⟨b.os, b.tape, b.output, by rw [size_setRow]; exact b.size, fun k hk => ?_⟩
  rw [setRow_other _ _ _ _ (by omega)]; exact b.block k hk
theorem qs_lset (q : Nat → Nat) (n v : Nat) (hn : n < 32) : (qs q).set n (.int .i64 v) = qs (upd q n v) := by
  have h := congrArg Array.toList (qs_set q n v hn)
  simpa using h

set_option maxHeartbeats 4000000 in
theorem refdrop_no (q : Nat → Nat) (n : Int) (w : World) (hi : inQ q n = false) : Calls Tryd.prog 6 #[.agg (qs q).toArray, .int .i64 n] w fun e w' =>
    e = .returned (.tuple #[.agg (qs q).toArray, .bool false]) ∧ Below w.heap.size w w' := by
  unfold inQ at hi
  rw [decide_eq_false_iff_not] at hi
  have HI := Lib.hid hi
  clear hi
  by_cases h0 : n < 0
  · have d1 : decide (n < 0) = true := by simpa using h0
    go_enter Tryd.func6, Tryd.ntmps6
    go_wp2_with (first
      | (refine wpList_load_row rfl 30 (.tmp 2) rfl w.heap.size rfl 30 (qs q).toArray (0, 0) _ (heap_alloc2_old _ _ _) Tryd.underlying30 rfl (by rw [info30]; simp [qs_len]) ?_)
      | (refine wpList_store_row rfl 30 (.tmp 4) (.tmp 18) rfl (w.heap.size + 1) (qs q).toArray rfl rfl 30 _ (heap_alloc2_new _ _ _) (by rw [info30]; simp [qs_len]) (by simp [qs_len]) (qs_one q) ?_))
    refine bodyPost_ret (results_row rfl _ _ (w.heap.size + 1) 30 (qs q).toArray _ rfl (setRow_heap _ _ _ _ 30 (0, 0) (heap_alloc2_new _ _ _)) Tryd.underlying30 rfl (by rw [info30]; simp [qs_len])) rfl ?_
    exact ⟨rfl, below_row⟩
  · by_cases h1 : n > 31
    · have d1 : decide (n < 0) = false := by simpa using h0
      have d2 : decide (31 < n) = true := by simpa using h1
      go_enter Tryd.func6, Tryd.ntmps6
      go_wp2_with (first
        | (refine wpList_load_row rfl 30 (.tmp 2) rfl w.heap.size rfl 30 (qs q).toArray (0, 0) _ (heap_alloc2_old _ _ _) Tryd.underlying30 rfl (by rw [info30]; simp [qs_len]) ?_)
        | (refine wpList_store_row rfl 30 (.tmp 4) (.tmp 18) rfl (w.heap.size + 1) (qs q).toArray rfl rfl 30 _ (heap_alloc2_new _ _ _) (by rw [info30]; simp [qs_len]) (by simp [qs_len]) (qs_one q) ?_))
      refine bodyPost_ret (results_row rfl _ _ (w.heap.size + 1) 30 (qs q).toArray _ rfl (setRow_heap _ _ _ _ 30 (0, 0) (heap_alloc2_new _ _ _)) Tryd.underlying30 rfl (by rw [info30]; simp [qs_len])) rfl ?_
      exact ⟨rfl, below_row⟩
    · obtain ⟨k, rfl⟩ := Int.eq_ofNat_of_zero_le (show 0 ≤ n by omega)
      have hk : k < 32 := by omega
      have hz : q k = 0 := by
        have := HI.out
        by_cases e : q k = 0
        · exact e
        · exact absurd ⟨by omega, by omega, e⟩ this
      have d1 : decide ((k : Int) < 0) = false := by simp
      have d2 : decide ((31 : Int) < (k : Int)) = false := by simp; omega
      have hki : (k : Int) < 32 := by omega
      have hc : ∀ Z : Obj, ((w.alloc (.cells (qs q).toArray 30)).alloc Z).cell? ⟨w.heap.size, k, none⟩ = some (.int .i64 0) := fun Z => by
        rw [cell_of_row _ _ k _ 30 (0, 0) (heap_alloc2_old w _ Z)]
        have := qs_at q k hk
        rw [hz] at this
        simpa using this
      go_enter Tryd.func6, Tryd.ntmps6
      go_wp2_with (first
        | (refine wpList_load_row rfl 30 (.tmp 2) rfl w.heap.size rfl 30 (qs q).toArray (0, 0) _ (heap_alloc2_old _ _ _) Tryd.underlying30 rfl (by rw [info30]; simp [qs_len]) ?_)
        | (refine wpList_store_row rfl 30 (.tmp 4) (.tmp 18) rfl (w.heap.size + 1) (qs q).toArray rfl rfl 30 _ (heap_alloc2_new _ _ _) (by rw [info30]; simp [qs_len]) (by simp [qs_len]) (qs_one q) ?_))
      refine bodyPost_ret (results_row rfl _ _ (w.heap.size + 1) 30 (qs q).toArray _ rfl (setRow_heap _ _ _ _ 30 (0, 0) (heap_alloc2_new _ _ _)) Tryd.underlying30 rfl (by rw [info30]; simp [qs_len])) rfl ?_
      exact ⟨rfl, below_row⟩
end Go.Proofs.YtimaihdlaaonbaaDoor
