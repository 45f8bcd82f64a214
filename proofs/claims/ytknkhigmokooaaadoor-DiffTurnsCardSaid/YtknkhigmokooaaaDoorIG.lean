/- The contract of ref10's Great. -/
import Derived.Test.YtknkhigmokooaaaDoorIA
import Derived.Test.YtknkhigmokooaaaDoorVH
namespace Go.Proofs.YtknkhigmokooaaaDoor
open Go.RowKit

/-- More than is asked of any image? -/
def greatI (x : Img) : Bool := decide (40 < x.tasks.length) || decide (20 < x.modes.length) || decide (60 < x.edges.length) || (List.range x.modes.length).any fun k => decide (20 < (x.m k).qs.length)
theorem great_not {x : Img} (h : greatI x = false) : x.tasks.length ≤ 40 ∧ x.modes.length ≤ 20 ∧ x.edges.length ≤ 60 ∧ ∀ k, k < x.modes.length → (x.m k).qs.length ≤ 20 := by
  unfold greatI at h
  simp only [Bool.or_eq_false_iff, decide_eq_false_iff_not, List.any_eq_false, List.mem_range, decide_eq_true_iff] at h
  obtain ⟨⟨⟨h1, h2⟩, h3⟩, h4⟩ := h
  exact ⟨by omega, by omega, by omega, fun k hk => by have := h4 k hk; omega⟩
set_option maxHeartbeats 2000000 in
theorem great10_any {w : World} {V : Nat → Prop} {x : Img} {S : ImgS} (h : ImgAt w V x S) :
    Calls Tryd.prog 9 #[.agg #[.int .i64 x.res, .slice S.t.sp x.tasks.length S.t.c, .slice S.m.sp x.modes.length S.m.c, .slice S.e.sp x.edges.length S.e.c]] w fun e w' => e = .returned (.bool (greatI x)) ∧ Below w.heap.size w w' := by
  have HG := Lib.hid (show greatI x = (decide (40 < x.tasks.length) || decide (20 < x.modes.length) || decide (60 < x.edges.length) || (List.range x.modes.length).any fun k => decide (20 < (x.m k).qs.length)) from rfl)
  have HI := Lib.hid h
  obtain ⟨nT, hnT⟩ : ∃ n, x.tasks.length = n := ⟨_, rfl⟩
  obtain ⟨nM, hnM⟩ : ∃ n, x.modes.length = n := ⟨_, rfl⟩
  obtain ⟨nE, hnE⟩ : ∃ n, x.edges.length = n := ⟨_, rfl⟩
  have HN := Lib.hid hnM
  rw [hnT, hnM, hnE] at HG ⊢
  obtain ⟨W2, hW2⟩ : ∃ w2, w.alloc (.cells #[.int .i64 x.res, .slice S.t.sp nT S.t.c, .slice S.m.sp nM S.m.c, .slice S.e.sp nE S.e.c] 26) = w2 := ⟨_, rfl⟩
  have HZ := Lib.hid (show Below w.heap.size w W2 from by rw [← hW2]; exact (Below.refl _ _).alloc (Nat.le_refl _) _)
  have HZ2 := Lib.hid (show Below w.heap.size w (w.alloc (.cells #[.int .i64 x.res, .slice S.t.sp nT S.t.c, .slice S.m.sp nM S.m.c, .slice S.e.sp nE S.e.c] 26)) from (Below.refl _ _).alloc (Nat.le_refl _) _)
  obtain ⟨A, hA⟩ : ∃ A, A = w.heap.size := ⟨_, rfl⟩
  have HR := Lib.hid (show RowAt W2 A 26 #[.int .i64 x.res, .slice S.t.sp nT S.t.c, .slice S.m.sp nM S.m.c, .slice S.e.sp nE S.e.c] from by rw [← hW2, hA]; exact RowAt.mk _ _ _)
  clear h hnT hnM hnE
  by_cases g1 : 40 < nT
  · have g1' : (40 : Int) < (nT : Int) := by omega
    rw [decide_eq_true g1] at HG
    clear g1 hW2 hA
    go_enter Tryd.func9, Tryd.ntmps9
    go_wp2
    go_ret
    exact ⟨by rw [HG.out]; rfl, HZ2.out⟩
  have g1' : ¬ (40 : Int) < (nT : Int) := by omega
  rw [decide_eq_false g1] at HG
  by_cases g2 : 20 < nM
  · have g2' : (20 : Int) < (nM : Int) := by omega
    rw [decide_eq_true g2] at HG
    clear g1 g2 hW2 hA
    go_enter Tryd.func9, Tryd.ntmps9
    go_wp2
    go_ret
    exact ⟨by rw [HG.out]; rfl, HZ2.out⟩
  have g2' : ¬ (20 : Int) < (nM : Int) := by omega
  rw [decide_eq_false g2] at HG
  by_cases g3 : 60 < nE
  · have g3' : (60 : Int) < (nE : Int) := by omega
    rw [decide_eq_true g3] at HG
    clear g1 g2 g3 hW2 hA
    go_enter Tryd.func9, Tryd.ntmps9
    go_wp2
    go_ret
    exact ⟨by rw [HG.out]; rfl, HZ2.out⟩
  have g3' : ¬ (60 : Int) < (nE : Int) := by omega
  rw [decide_eq_false g3] at HG
  clear g1 g3
  go_enter Tryd.func9, Tryd.ntmps9
  go_upto_region 1 with fail
  try rw [hW2]
  rw [← hA]
  clear hW2 hA HZ2
  have c1 : W2.cell? ⟨A, 1, none⟩ = some (.slice S.t.sp nT S.t.c) := HR.out.cell 1
  have c2 : W2.cell? ⟨A, 2, none⟩ = some (.slice S.m.sp nM S.m.c) := HR.out.cell 2
  have c3 : W2.cell? ⟨A, 3, none⟩ = some (.slice S.e.sp nE S.e.c) := HR.out.cell 3
  go_wp2
  go_loopg [3] nM (fun g v wr => ∃ k : Nat, k + g = nM ∧ v = .int .i64 (k : Nat) ∧ Aside (W2 = wr ∧ ∀ j, j < k → ¬ 20 < (x.m j).qs.length))
  case atStart => exact ⟨0, by omega, rfl, rfl, fun j hj => absurd hj (Nat.not_lt_zero j)⟩
  case round =>
    obtain ⟨k, hkg, rfl, HQ⟩ := hrel
    obtain ⟨rfl, hq⟩ := HQ.out
    have HQ2 := Lib.hid hq
    clear HQ hq
    cases gk with
    | zero =>
      obtain rfl : k = nM := by omega
      go_wp2
      go_ret
      refine ⟨?_, HZ.out⟩
      rw [HG.out]
      have : ((List.range k).any fun k => decide (20 < (x.m k).qs.length)) = false := by
        rw [List.any_eq_false]
        intro j hj
        rw [List.mem_range] at hj
        simpa using HQ2.out j hj
      rw [this]; rfl
    | succ g1 =>
      have hk : k < nM := by omega
      have hkx : k < x.modes.length := by rw [HN.out]; exact hk
      obtain ⟨hsp, -, -⟩ := HI.out.sm.at_ (by omega)
      rw [hsp] at c2
      have q1 := ((HI.out.new HZ.out).md k hkx).2.1
      obtain ⟨n, hn⟩ : ∃ n, (x.m k).qs.length = n := ⟨_, rfl⟩
      rw [hn] at q1
      have HNn := Lib.hid hn
      have hk2 : (k : Int) < (nM : Int) := by omega
      have hk3 : (k : Int) ≤ 20 := by omega
      clear hn hsp hkx g2
      by_cases hb : 20 < n
      · have hb2 : (20 : Int) < (n : Int) := by omega
        have HB := Lib.hid hb
        clear hb
        go_wp2
        go_ret
        refine ⟨?_, HZ.out⟩
        rw [HG.out]
        have : ((List.range nM).any fun k => decide (20 < (x.m k).qs.length)) = true := by
          rw [List.any_eq_true]
          exact ⟨k, by rw [List.mem_range]; exact hk, by rw [HNn.out]; exact decide_eq_true HB.out⟩
        rw [this]; rfl
      · have hb2 : ¬ (20 : Int) < (n : Int) := by omega
        have HB := Lib.hid hb
        clear hb
        go_wp2
        go_roundg g1
        case measure => omega
        case rel =>
          refine ⟨k + 1, by omega, by go_num, rfl, fun j hj => ?_⟩
          rcases Nat.lt_or_ge j k with h1 | h1
          · exact HQ2.out j h1
          · obtain rfl : j = k := by omega
            rw [HNn.out]; exact HB.out
end Go.Proofs.YtknkhigmokooaaaDoor
