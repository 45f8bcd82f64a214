/- The contract of the reference's All. -/
import Derived.Test.YtimaihdlaaonbaaDoorColl
import Derived.Test.YtimaihdlaaonbaaDoorRQ2
namespace Go.Proofs.YtimaihdlaaonbaaDoor
open Go.RowKit

/-- All below a level, and of that level the numbers below j. -/
def prt (q : Nat → Nat) (k j : Nat) : List (Nat × Nat) := allP q k ++ (lst (lv q k) j).map fun n => (n, k)
theorem prt_zero (q : Nat → Nat) (k : Nat) : prt q k 0 = allP q k := by unfold prt lst; simp
theorem prt_full (q : Nat → Nat) (k : Nat) : prt q k 32 = allP q (k + 1) := rfl
theorem prt_succ (q : Nat → Nat) (k j : Nat) (hj : j < 32) : prt q k (j + 1) = if q j = k + 1 then prt q k j ++ [(j, k)] else prt q k j := by
  unfold prt
  rw [lst_succ, lv_bit q k j hj]
  by_cases h : q j = k + 1
  · simp [h]
  · simp [h]
theorem prt_len (q : Nat → Nat) (k j : Nat) (hj : j ≤ 32) (hk : k < 32) : (prt q k j).length ≤ 1024 := by
  unfold prt
  rw [List.length_append, List.length_map]
  have h1 := allP_le q k
  have h2 := lst_len (lv q k) j
  omega
theorem rowI_two (l : List (Nat × Nat)) (a b : Nat) : rowI (flat (l ++ [(a, b)])) = rowI (flat l) ++ [.int .i64 a, .int .i64 b] := by
  rw [flat_app]; unfold rowI; rw [List.map_append]; rfl

set_option maxHeartbeats 2000000 in
theorem refall_any (q : Nat → Nat) (_hb : ∀ i, q i ≤ 32) (w : World) : Calls Tryd.prog 18 #[.agg (qs q).toArray] w fun e w' =>
    ∃ v, e = .returned v ∧ w'.ownsRow w.heap.size 3 1 v (2 * (allP q 32).length) (rowI (flat (allP q 32))) ∧ Below w.heap.size w w' := by
  obtain ⟨i0, hi, hz0, hz1, hz2⟩ := info_parts info3
  obtain ⟨L, hL⟩ : ∃ L, L = allP q 32 := ⟨_, rfl⟩
  obtain ⟨A, hA⟩ : ∃ A : Nat → List (Nat × Nat), A = allP q := ⟨_, rfl⟩
  obtain ⟨Pt, hP⟩ : ∃ Pt : Nat → Nat → List (Nat × Nat), Pt = prt q := ⟨_, rfl⟩
  have h0 : A 0 = [] := by rw [hA]; rfl
  have h32 : A 32 = L := by rw [hA, hL]
  have hp0 : ∀ k, Pt k 0 = A k := fun k => by rw [hP, hA, prt_zero]
  have hp32 : ∀ k, Pt k 32 = A (k + 1) := fun k => by rw [hP, hA, prt_full]
  have hps : ∀ k j, j < 32 → Pt k (j + 1) = if q j = k + 1 then Pt k j ++ [(j, k)] else Pt k j := fun k j hj => by rw [hP]; exact prt_succ q k j hj
  have hpl : ∀ k j, j ≤ 32 → k < 32 → (Pt k j).length ≤ 1024 := fun k j hj hk => by rw [hP]; exact prt_len q k j hj hk
  rw [← hL]
  have HP := Lib.hid (And.intro h0 (And.intro h32 (And.intro hp0 (And.intro hp32 (And.intro hps hpl)))))
  clear h0 h32 hp0 hp32 hps hpl hL hA hP
  obtain ⟨w1, hw1⟩ : ∃ w1, w1 = w.alloc (.cells (qs q).toArray 30) := ⟨_, rfl⟩
  have hbx : ∀ j, j < 32 → w1.cell? ⟨w.heap.size, j, none⟩ = some (.int .i64 (q j)) := fun j hj => by
    rw [hw1, cell_of_row _ _ j _ 30 (0, 0) (heap_alloc_new w _)]
    simpa using qs_at q j hj
  have hsz : w1.heap.size = w.heap.size + 1 := by rw [hw1]; simp
  have hbw : Below w.heap.size w w1 := by rw [hw1]; exact (Below.refl _ _).alloc (Nat.le_refl _) _
  have HX := Lib.hid (And.intro hbx (And.intro hsz hbw))
  clear hbx hsz hbw
  go_enter Tryd.func18, Tryd.ntmps18
  go_wp2
  rw [← hw1]
  clear hw1
  go_loopg [3, 4, 5] 32 (fun g v i u wr => ∃ (k : Nat), k + g = 32 ∧ i = .int .i64 k ∧ wr.ownsRow w1.heap.size 3 1 v (2 * (A k).length) (rowI (flat (A k))) ∧ Aside (Below w1.heap.size w1 wr))
  case atStart => exact ⟨0, by omega, rfl, by rw [HP.out.1]; exact World.ownsRow_nil _ _ _ _, Below.refl _ _⟩
  case round =>
    obtain ⟨k, hkg, rfl, hown, HB⟩ := hrel
    have HO := Lib.hid hown
    clear hown
    cases gk with
    | zero =>
      obtain rfl : k = 32 := by omega
      go_wp2
      go_ret
      refine ⟨_, rfl, ?_, HX.out.2.2.trans (HB.out.mono HX.out.2.2.size)⟩
      have h := HO.out
      rw [HP.out.2.1] at h
      exact own_mono h HX.out.2.2.size
    | succ g1 =>
      have hk : k < 32 := by omega
      have hki : (k : Int) < 32 := by omega
      go_wp2
      go_loopg [3, 5] 32 (fun g v i wr => ∃ (j : Nat), j + g = 32 ∧ i = .int .i64 j ∧ wr.ownsRow w1.heap.size 3 1 v (2 * (Pt k j).length) (rowI (flat (Pt k j))) ∧ Aside (Below w1.heap.size w1 wr))
      case atStart => exact ⟨0, by omega, rfl, by rw [HP.out.2.2.1]; exact HO.out, HB.out⟩
      case round =>
        obtain ⟨j, hjg, rfl, hown2, HB2⟩ := hrel
        have HO2 := Lib.hid hown2
        clear hown2
        cases gk with
        | zero =>
          obtain rfl : j = 32 := by omega
          go_wp2
          go_roundg g1
          case measure => omega
          case rel => exact ⟨k + 1, by omega, by go_num, by rw [← HP.out.2.2.2.1]; exact HO2.out, HB2.out⟩
        | succ g2 =>
          have hj : j < 32 := by omega
          have hji : (j : Int) < 32 := by omega
          have hj0 : (0 : Int) ≤ (j : Int) := by omega
          have hlt : w.heap.size < w1.heap.size := by have := HX.out.2.1; omega
          have hc : wr.cell? ⟨w.heap.size, j, none⟩ = some (.int .i64 (q j)) := by rw [HB2.out.cell (p := ⟨w.heap.size, j, none⟩) hlt]; exact HX.out.1 j hj
          have hs := HP.out.2.2.2.2.1 k j hj
          have hl := HP.out.2.2.2.2.2 k j (by omega) hk
          clear hlt
          by_cases hq : q j = k + 1
          · rw [if_pos hq] at hs
            have he : ((q j : Int) == (k : Int) + 1) = true := by simp; omega
            have HS := Lib.hid hs
            have HQ := Lib.hid hq
            clear hs hq
            go_wp2_with (at_builtin; refine wpList_append_own _ rfl (.tmp 20) (.tmp 23) 41 rfl w1.heap.size 3 i0 (.int .i64 0) 1 8 Tryd.underlying41 hi hz0 hz1 hz2 rfl Nat.one_pos _ (2 * (Pt k j).length) (rowI (flat (Pt k j))) rfl (HO2.out.alloc _) ⟨wr.heap.size, 0, none⟩ 2 2 [.int .i64 j, .int .i64 k] rfl rfl (two_new _ _ _ _) (by simp [Value.oneCell']) (by unfold maxLen; omega) (by omega) (by rw [World.size_alloc]; exact Nat.le_succ_of_le HB2.out.size) ?_; intro v1 w3 hown1 hg1 _; have HO1 := Lib.hid hown1; have HB1 := Lib.hid (Below.grown (Below.alloc HB2.out HB2.out.size _) hg1 (by rw [World.size_alloc]; exact Nat.le_succ_of_le HB2.out.size) (fun j e => (HO2.out.lt j e).1)); clear hown1 hg1)
            go_roundg g2
            case measure => omega
            case rel =>
              have h := HO1.out
              refine ⟨j + 1, by omega, by go_num, ?_, HB1.out⟩
              rw [HS.out, rowI_two, List.length_append, show 2 * ((Pt k j).length + [(j, k)].length) = 2 * (Pt k j).length + 2 by simp; omega]
              exact h
          · rw [if_neg hq] at hs
            have he : ((q j : Int) == (k : Int) + 1) = false := by simp; omega
            have HS := Lib.hid hs
            clear hs hq
            go_wp2
            go_roundg g2
            case measure => omega
            case rel => exact ⟨j + 1, by omega, by go_num, by rw [HS.out]; exact HO2.out, HB2.out⟩
end Go.Proofs.YtimaihdlaaonbaaDoor
