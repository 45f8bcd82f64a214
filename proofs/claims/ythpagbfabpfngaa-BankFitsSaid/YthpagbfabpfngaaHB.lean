/- The contracts of filled, pairAt and trials. -/
import Derived.Test.YthpagbfabpfngaaHA
import Derived.Deep.CutRange
import Derived.Deep.CutBlock
import Derived.Deep.DeepMust
namespace Go.Proofs.Ythpagbfabpfngaa
open Go.RowKit

set_option maxHeartbeats 2000000 in
set_option maxRecDepth 100000 in
theorem filled_any (n b off cap : Nat) (sp : Option Addr) (l : Nat → BitVec 32) (w : World) (hn : n ≤ 9223372036854775807) (h : Ws w sp b off n l) :
    Calls Try.prog 86 #[.slice sp n cap] w fun e w' => e = .returned (.agg (hs (atW n l)).toArray) ∧ Below w.heap.size w w' := by
  obtain ⟨m, hm⟩ : ∃ m, Nat.min n 13 = m := ⟨_, rfl⟩
  have hm1 : m ≤ 13 ∧ m ≤ n := by have : min n 13 = m := hm; omega
  obtain ⟨r, hr⟩ : ∃ r, r = w.heap.size := ⟨_, rfl⟩
  obtain ⟨w1, hw1⟩ : ∃ w1, w1 = w.alloc (.cells #[.int .u32 0, .int .u32 0, .int .u32 0, .int .u32 0, .int .u32 0, .int .u32 0, .int .u32 0, .int .u32 0, .int .u32 0, .int .u32 0, .int .u32 0, .int .u32 0, .int .u32 0] 147) := ⟨_, rfl⟩
  obtain ⟨w2, hw2⟩ : ∃ w2, w2 = w1.alloc (.cells #[.int .u32 0, .int .u32 0, .int .u32 0, .int .u32 0, .int .u32 0, .int .u32 0, .int .u32 0, .int .u32 0, .int .u32 0, .int .u32 0, .int .u32 0, .int .u32 0, .int .u32 0] 147) := ⟨_, rfl⟩
  have s1 : w1.heap.size = r + 1 := by rw [hw1, hr]; simp
  have z1 : HAt w1 r z13 := by unfold HAt; rw [hs_zero, hw1, hr]; exact heap_alloc_new w _
  have z2 : HAt w2 (r + 1) z13 := by unfold HAt; rw [hs_zero, hw2, ← s1]; exact heap_alloc_new w1 _
  have z3 : HAt w2 r z13 := by rw [hw2]; exact z1.below ((Below.refl w1.heap.size w1).alloc (Nat.le_refl _) _) (by omega)
  have b2 : Below r w w2 := by rw [hw2, hw1, hr]; exact ((Below.refl _ _).alloc (Nat.le_refl _) _).alloc (by simp) _
  have hwz : Ws w2 sp b off n l := h.below b2 (fun h0 => by rw [hr]; exact (h.sp h0).2)
  have HCS := Lib.hid (show ((List.range m).map fun i => Value.int .u32 (w32 (l i))).length = Nat.min n 13 by rw [hm]; simp)
  have HPOS := Lib.hid (show 0 < ((List.range m).map fun i => Value.int .u32 (w32 (l i))).length → (some ⟨r + 1, 0, none⟩ : Option Addr) = some ⟨r + 1, 0, none⟩ ∧ ∃ ad, sp = some ad ∧ ∀ j v, ((List.range m).map fun i => Value.int .u32 (w32 (l i)))[j]? = some v → w2.cell? (ad.add j) = some v from fun h0 => by
    have hp : 0 < n := by simp at h0; omega
    refine ⟨rfl, _, (hwz.sp hp).1, fun j v hv => ?_⟩
    have hj : j < m := by have := (List.getElem?_eq_some_iff.1 hv).1; simpa using this
    rw [Addr.add_lit, hwz.cell j (by omega), ← hv]
    simp [hj])
  have HFIT := Lib.hid (show 0 + ((List.range m).map fun i => Value.int .u32 (w32 (l i))).length ≤ (hs z13).length by rw [hs_len]; simp; omega)
  have H1C := Lib.hid (show ∀ v ∈ ((List.range m).map fun i => Value.int .u32 (w32 (l i))), v.oneCell' = true by
    intro v hv
    obtain ⟨i, _, rfl⟩ := List.mem_map.1 hv
    rfl)
  have HSP := Lib.hid (splice_hs m l hm1.1)
  have hcl : ((List.range m).map fun i => Value.int .u32 (w32 (l i))).length = m := by simp
  obtain ⟨cs, hcs⟩ : ∃ cs, cs = ((List.range m).map fun i => Value.int .u32 (w32 (l i))) := ⟨_, rfl⟩
  rw [← hcs] at HCS HPOS HFIT H1C HSP hcl
  have HZh := Lib.hid (show w2.heap[r + 1]? = some (.cells (hs z13).toArray 147 (0, 0)) from z2)
  have HZ := Lib.hid (And.intro z2 (And.intro z3 (And.intro b2 hr)))
  have HM := Lib.hid hm
  have hsz := size25
  have hm3 : (m : Int) ≤ 13 := by omega
  have hm0 : (0 : Int) ≤ (m : Int) := by omega
  clear hm z1 z2 z3 b2 hwz hcs h
  by_cases e13 : m = 13
  · subst e13
    go_enter Try.func86, Try.ntmps86
    go_upto_region 2 with fail
    rw [← hw1, ← hw2, ← hr]
    clear hw1 hw2 hr s1
    go_wp2_with (first
      | (with_reducible refine wpList_copy_splice rfl (.tmp 6) (.tmp 7) 24 24 rfl 26 Try.underlying24 hsz _ _ _ _ _ _ rfl rfl (r + 1) 0 (hs z13) 147 HZh.out cs HCS.out HPOS.out HFIT.out H1C.out (r + 1) w2 (Below.refl _ _) (Nat.le_refl _) ?_; intro w4 hg4 hb4)
      | fail)
    · have H4 := Lib.hid (show HAt w4 (r + 1) (fillW 13 l 0) ∧ HAt w4 r z13 ∧ Below r w w4 from ⟨by unfold HAt; rw [← HSP.out]; exact hg4.out, HZ.out.2.1.below hb4 (by omega), HZ.out.2.2.1.trans (hb4.mono (by omega))⟩)
      clear hg4 hb4 HPOS HCS HFIT H1C HSP hcl
      go_loopg [12] (13 - 13) (fun g i wr => ∃ (k : Nat), k + g = 13 - 13 ∧ i = .int .i64 k ∧ Aside (HAt wr (r + 1) (fillW 13 l k) ∧ HAt wr r z13 ∧ Below r w wr))
      case atStart => exact ⟨0, by omega, rfl, H4.out⟩
      case round =>
        obtain ⟨k, hkg, rfl, HR⟩ := hrel
        cases gk with
        | zero =>
          have HE := Lib.hid (show HAt wr (r + 1) (atW n l) from HR.out.1.congr (fun i hi => by rw [← fillW_all n l i hi, HM.out, show 13 - 13 = k by omega]))
          have hge : (0 : Int) ≤ (k : Int) := by omega
          have hge2 : 13 - 13 ≤ k := by omega
          go_wp2_with (first
            | (refine wpList_load_row rfl 147 (.tmp 3) rfl (r + 1) rfl 147 (hs (atW n l)).toArray (0, 0) _ HE.out Try.underlying147 rfl (by rw [info73]; simp [hs_len]) ?_)
            | (refine wpList_store_row rfl 147 (.tmp 2) (.tmp 20) rfl r (hs (atW n l)).toArray rfl rfl 147 _ HR.out.2.1 (by rw [info73]; simp [hs_len]) (by simp [hs_len]) (all_oneCell_toArray (hs_one _)) ?_))
          refine bodyPost_ret (results_cell_row rfl _ _ r 147 (hs (atW n l)).toArray (0, 0) _ rfl (setRow_heap _ _ _ _ 147 (0, 0) HR.out.2.1) Try.underlying147 rfl (by rw [info73]; simp [hs_len])) rfl ?_
          refine ⟨rfl, ?_⟩
          rw [← HZ.out.2.2.2]
          exact below_setRow HR.out.2.2 (Nat.le_refl _) _
        | succ g1 => exact absurd hkg (by omega)
  have h13 : ¬ 13 = m := fun e => e13 e.symm
  clear e13
  go_enter Try.func86, Try.ntmps86
  go_upto_region 2 with fail
  rw [← hw1, ← hw2, ← hr]
  clear hw1 hw2 hr s1
  go_wp2_with (first
    | (with_reducible refine wpList_copy_splice rfl (.tmp 6) (.tmp 7) 24 24 rfl 26 Try.underlying24 hsz _ _ _ _ _ _ rfl rfl (r + 1) 0 (hs z13) 147 HZh.out cs HCS.out HPOS.out HFIT.out H1C.out (r + 1) w2 (Below.refl _ _) (Nat.le_refl _) ?_; intro w4 hg4 hb4)
    | fail)
  · have H4 := Lib.hid (show HAt w4 (r + 1) (fillW m l 0) ∧ HAt w4 r z13 ∧ Below r w w4 from ⟨by unfold HAt; rw [← HSP.out]; exact hg4.out, HZ.out.2.1.below hb4 (by omega), HZ.out.2.2.1.trans (hb4.mono (by omega))⟩)
    clear hg4 hb4 HPOS HCS HFIT H1C HSP hcl
    go_loopg [12] (13 - m) (fun g i wr => ∃ (k : Nat), k + g = 13 - m ∧ i = .int .i64 k ∧ Aside (HAt wr (r + 1) (fillW m l k) ∧ HAt wr r z13 ∧ Below r w wr))
    case atStart => exact ⟨0, by omega, rfl, H4.out⟩
    case round =>
      obtain ⟨k, hkg, rfl, HR⟩ := hrel
      cases gk with
      | zero =>
        have HE := Lib.hid (show HAt wr (r + 1) (atW n l) from HR.out.1.congr (fun i hi => by rw [← fillW_all n l i hi, HM.out, show 13 - m = k by omega]))
        have hge : (13 : Int) - m ≤ (k : Int) := by omega
        have hge2 : 13 - m ≤ k := by omega
        go_wp2_with (first
          | (refine wpList_load_row rfl 147 (.tmp 3) rfl (r + 1) rfl 147 (hs (atW n l)).toArray (0, 0) _ HE.out Try.underlying147 rfl (by rw [info73]; simp [hs_len]) ?_)
          | (refine wpList_store_row rfl 147 (.tmp 2) (.tmp 20) rfl r (hs (atW n l)).toArray rfl rfl 147 _ HR.out.2.1 (by rw [info73]; simp [hs_len]) (by simp [hs_len]) (all_oneCell_toArray (hs_one _)) ?_))
        refine bodyPost_ret (results_cell_row rfl _ _ r 147 (hs (atW n l)).toArray (0, 0) _ rfl (setRow_heap _ _ _ _ 147 (0, 0) HR.out.2.1) Try.underlying147 rfl (by rw [info73]; simp [hs_len])) rfl ?_
        refine ⟨rfl, ?_⟩
        rw [← HZ.out.2.2.2]
        exact below_setRow HR.out.2.2 (Nat.le_refl _) _
      | succ g1 =>
        have hc := HR.out.1.cell (m + k) (by omega)
        have hf := HR.out.1.frozen (m + k)
        have hlt : k < 13 - m := by omega
        have hi13 : m + k < 13 := by omega
        have hw : IntKind.i64.wrap ((m : Int) + (k : Int)) = ((m + k : Nat) : Int) := by rw [IntKind.wrap_i64]; omega
        go_wp2
        go_roundg g1
        case measure => omega
        case rel =>
          refine ⟨k + 1, by omega, by go_num, ?_, ?_, ?_⟩
          · rw [← fillW_succ, ← w32_ones]
            exact HR.out.1.set_ (m + k) _ (by omega)
          · exact HR.out.2.1.keep ((Ch.refl (fun j => j = r + 1) _).setCell ⟨r + 1, m + k, none⟩ _ (.inl rfl)) (by omega)
          · exact HR.out.2.2.setCell (Nat.le_succ r) _
end Go.Proofs.Ythpagbfabpfngaa
