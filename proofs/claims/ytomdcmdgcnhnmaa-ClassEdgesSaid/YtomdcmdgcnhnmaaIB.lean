/- The contracts of image's hasMode and Tasks, of ref10's Great, and of class's Edge. -/
import Derived.Test.YtomdcmdgcnhnmaaIA
import Derived.Test.YtomdcmdgcnhnmaaVA
namespace Go.Proofs.Ytomdcmdgcnhnmaa
open Go.RowKit

theorem hasMode_any (r : Int) (sT sM sE : Option Addr) (nT cT nM cM nE cE : Nat) (m : Int) (w : World) :
    Calls Try.prog 55 #[.agg #[.int .i64 r, .slice sT nT cT, .slice sM nM cM, .slice sE nE cE], .int .i64 m] w fun e w' => e = .returned (.bool (decide (0 ≤ m ∧ m < (nM : Int)))) ∧ Below w.heap.size w w' := by
  have hb : Below w.heap.size w (w.alloc (.cells #[.int .i64 r, .slice sT nT cT, .slice sM nM cM, .slice sE nE cE] 26)) := (Below.refl _ _).alloc (Nat.le_refl _) _
  have HB := Lib.hid hb
  clear hb
  by_cases h0 : 0 ≤ m
  · by_cases h1 : m < (nM : Int)
    · rw [decide_eq_true (⟨h0, h1⟩ : 0 ≤ m ∧ m < (nM : Int))]
      go_enter Try.func55, Try.ntmps55
      go_wp2
      go_ret
      exact ⟨rfl, HB.out⟩
    · rw [decide_eq_false (fun h : 0 ≤ m ∧ m < (nM : Int) => h1 h.2)]
      go_enter Try.func55, Try.ntmps55
      go_wp2
      go_ret
      exact ⟨rfl, HB.out⟩
  · rw [decide_eq_false (fun h : 0 ≤ m ∧ m < (nM : Int) => h0 h.1)]
    go_enter Try.func55, Try.ntmps55
    go_wp2
    go_ret
    exact ⟨rfl, HB.out⟩
/-- The tasks of a mode; none, if there is no such. -/
def tasksM (x : Img) (m : Int) : BitVec 32 := if 0 ≤ m ∧ m < (x.modes.length : Int) then (x.m m.toNat).tasks else 0#32
set_option maxHeartbeats 1000000 in
theorem iTasks_any {w : World} {V : Nat → Prop} {x : Img} {S : ImgS} (h : ImgAt w V x S) (m : Int) :
    Calls Try.prog 17 #[.agg #[.int .i64 x.res, .slice S.t.sp x.tasks.length S.t.c, .slice S.m.sp x.modes.length S.m.c, .slice S.e.sp x.edges.length S.e.c], .int .i64 m] w fun e w' => e = .returned (.int .u32 (w32 (tasksM x m))) ∧ Below w.heap.size w w' := by
  obtain ⟨nT, hnT⟩ : ∃ n, x.tasks.length = n := ⟨_, rfl⟩
  obtain ⟨nE, hnE⟩ : ∃ n, x.edges.length = n := ⟨_, rfl⟩
  have HH := Lib.hid (fun (wx : World) => hasMode_any x.res S.t.sp S.m.sp S.e.sp nT S.t.c x.modes.length S.m.c nE S.e.c m wx)
  rw [hnT, hnE]
  have HZ := Lib.hid (show Below w.heap.size w (w.alloc (.cells #[.int .i64 x.res, .slice S.t.sp nT S.t.c, .slice S.m.sp x.modes.length S.m.c, .slice S.e.sp nE S.e.c] 26)) from (Below.refl _ _).alloc (Nat.le_refl _) _)
  by_cases hm : 0 ≤ m ∧ m < (x.modes.length : Int)
  · obtain ⟨k, rfl⟩ := Int.eq_ofNat_of_zero_le hm.1
    have hk : k < x.modes.length := by omega
    have ht : tasksM x (k : Int) = (x.m k).tasks := by unfold tasksM; rw [if_pos hm, Int.toNat_natCast]
    rw [ht]
    rw [decide_eq_true hm] at HH
    obtain ⟨hsp, hb, -⟩ := h.sm.at_ (by omega)
    have hc := (h.md k hk).1
    obtain ⟨z, hz⟩ : ∃ z, (x.m k).tasks = z := ⟨_, rfl⟩
    obtain ⟨nM, hnM⟩ : ∃ n, x.modes.length = n := ⟨_, rfl⟩
    rw [hz] at hc ⊢
    rw [hnM] at HH HZ hk ⊢
    rw [hsp] at HH HZ ⊢
    have HC := Lib.hid (show ∀ w', Below w.heap.size w w' → w'.cell? ⟨S.m.b, S.m.o + k * 2, none⟩ = some (.int .u32 (w32 z)) from fun w' hb' => (hb'.cell (p := ⟨S.m.b, S.m.o + k * 2, none⟩) hb).trans hc)
    have hk2 : (k : Int) < (nM : Int) := by omega
    clear h hc hz hnM ht hnT hnE hm hsp
    go_enter Try.func17, Try.ntmps17
    go_upto_region 3 with (go_at_call 55; refine (HH.out _).mono ?_; rintro e w1 ⟨rfl, b1⟩; rw [World.size_alloc] at b1; have H1 := Lib.hid (show Below w.heap.size w w1 ∧ w1.cell? ⟨w.heap.size, 2, none⟩ = some (.slice (some ⟨S.m.b, S.m.o, none⟩) nM S.m.c) from ⟨HZ.out.trans (b1.mono (by omega)), (b1.cell (p := ⟨w.heap.size, 2, none⟩) (by simp)).trans (by simp [go_sem])⟩); clear b1)
    have c2 := H1.out.2
    have cz := HC.out w1 H1.out.1
    go_wp2
    go_ret
    exact ⟨rfl, H1.out.1⟩
  · have ht : tasksM x m = 0#32 := by unfold tasksM; rw [if_neg hm]
    rw [ht]
    rw [decide_eq_false hm] at HH
    clear h hm ht
    obtain ⟨nM, hnM⟩ : ∃ n, x.modes.length = n := ⟨_, rfl⟩
    rw [hnM] at HH HZ ⊢
    clear hnM hnT hnE
    go_enter Try.func17, Try.ntmps17
    go_wp2_with (go_at_call 55; refine (HH.out _).mono ?_; rintro e w1 ⟨rfl, b1⟩; rw [World.size_alloc] at b1; have H1 := Lib.hid (show Below w.heap.size w w1 from HZ.out.trans (b1.mono (by omega))); clear b1)
    go_ret
    exact ⟨rfl, H1.out⟩
/-- More than is asked of any image? -/
def greatI (x : Img) : Bool := decide (40 < x.tasks.length) || decide (20 < x.modes.length) || decide (60 < x.edges.length) || (List.range x.modes.length).any fun k => decide (20 < (x.m k).qs.length)
theorem great_not {x : Img} (h : greatI x = false) : x.tasks.length ≤ 40 ∧ x.modes.length ≤ 20 ∧ x.edges.length ≤ 60 ∧ ∀ k, k < x.modes.length → (x.m k).qs.length ≤ 20 := by
  unfold greatI at h
  simp only [Bool.or_eq_false_iff, decide_eq_false_iff_not, List.any_eq_false, List.mem_range, decide_eq_true_iff] at h
  obtain ⟨⟨⟨h1, h2⟩, h3⟩, h4⟩ := h
  exact ⟨by omega, by omega, by omega, fun k hk => by have := h4 k hk; omega⟩
set_option maxHeartbeats 2000000 in
theorem great10_any {w : World} {V : Nat → Prop} {x : Img} {S : ImgS} (h : ImgAt w V x S) :
    Calls Try.prog 10 #[.agg #[.int .i64 x.res, .slice S.t.sp x.tasks.length S.t.c, .slice S.m.sp x.modes.length S.m.c, .slice S.e.sp x.edges.length S.e.c]] w fun e w' => e = .returned (.bool (greatI x)) ∧ Below w.heap.size w w' := by
  have HG := Lib.hid (show greatI x = (decide (40 < x.tasks.length) || decide (20 < x.modes.length) || decide (60 < x.edges.length) || (List.range x.modes.length).any fun k => decide (20 < (x.m k).qs.length)) from rfl)
  have HI := Lib.hid h
  obtain ⟨nT, hnT⟩ : ∃ n, x.tasks.length = n := ⟨_, rfl⟩
  obtain ⟨nM, hnM⟩ : ∃ n, x.modes.length = n := ⟨_, rfl⟩
  obtain ⟨nE, hnE⟩ : ∃ n, x.edges.length = n := ⟨_, rfl⟩
  have HN := Lib.hid hnM
  rw [hnT, hnM, hnE] at HG ⊢
  obtain ⟨W2, hW2⟩ : ∃ w2, w.alloc (.cells #[.int .i64 x.res, .slice S.t.sp nT S.t.c, .slice S.m.sp nM S.m.c, .slice S.e.sp nE S.e.c] 26) = w2 := ⟨_, rfl⟩
  have HZ := Lib.hid (show Below w.heap.size w W2 from by rw [← hW2]; exact (Below.refl _ _).alloc (Nat.le_refl _) _)
  have HZ2 := Lib.hid (show Below w.heap.size w (w.alloc (.cells #[.int .i64 x.res, .slice S.t.sp nT S.t.c, .slice S.m.sp nM S.m.c, .slice S.e.sp nE S.e.c] 26)) from (Below.refl _ _).alloc (Nat.le_refl _) _)
  obtain ⟨A, hA⟩ : ∃ A, A = w.heap.size := ⟨_, rfl⟩
  have HR := Lib.hid (show RowAt W2 A 26 #[.int .i64 x.res, .slice S.t.sp nT S.t.c, .slice S.m.sp nM S.m.c, .slice S.e.sp nE S.e.c] from by rw [← hW2, hA]; exact RowAt.mk _ _ _)
  clear h hnT hnM hnE
  by_cases g1 : 40 < nT
  · have g1' : (40 : Int) < (nT : Int) := by omega
    rw [decide_eq_true g1] at HG
    clear g1 hW2 hA
    go_enter Try.func10, Try.ntmps10
    go_wp2
    go_ret
    exact ⟨by rw [HG.out]; rfl, HZ2.out⟩
  have g1' : ¬ (40 : Int) < (nT : Int) := by omega
  rw [decide_eq_false g1] at HG
  by_cases g2 : 20 < nM
  · have g2' : (20 : Int) < (nM : Int) := by omega
    rw [decide_eq_true g2] at HG
    clear g1 g2 hW2 hA
    go_enter Try.func10, Try.ntmps10
    go_wp2
    go_ret
    exact ⟨by rw [HG.out]; rfl, HZ2.out⟩
  have g2' : ¬ (20 : Int) < (nM : Int) := by omega
  rw [decide_eq_false g2] at HG
  by_cases g3 : 60 < nE
  · have g3' : (60 : Int) < (nE : Int) := by omega
    rw [decide_eq_true g3] at HG
    clear g1 g2 g3 hW2 hA
    go_enter Try.func10, Try.ntmps10
    go_wp2
    go_ret
    exact ⟨by rw [HG.out]; rfl, HZ2.out⟩
  have g3' : ¬ (60 : Int) < (nE : Int) := by omega
  rw [decide_eq_false g3] at HG
  clear g1 g3
  go_enter Try.func10, Try.ntmps10
  go_upto_region 1 with fail
  try rw [hW2]
  rw [← hA]
  clear hW2 hA HZ2
  have c1 : W2.cell? ⟨A, 1, none⟩ = some (.slice S.t.sp nT S.t.c) := HR.out.cell 1
  have c2 : W2.cell? ⟨A, 2, none⟩ = some (.slice S.m.sp nM S.m.c) := HR.out.cell 2
  have c3 : W2.cell? ⟨A, 3, none⟩ = some (.slice S.e.sp nE S.e.c) := HR.out.cell 3
  go_wp2
  go_loopg [3] nM (fun g v wr => ∃ k : Nat, k + g = nM ∧ v = .int .i64 (k : Nat) ∧ Aside (W2 = wr ∧ ∀ j, j < k → ¬ 20 < (x.m j).qs.length))
  case atStart => exact ⟨0, by omega, rfl, rfl, fun j hj => absurd hj (Nat.not_lt_zero j)⟩
  case round =>
    obtain ⟨k, hkg, rfl, HQ⟩ := hrel
    obtain ⟨rfl, hq⟩ := HQ.out
    have HQ2 := Lib.hid hq
    clear HQ hq
    cases gk with
    | zero =>
      obtain rfl : k = nM := by omega
      go_wp2
      go_ret
      refine ⟨?_, HZ.out⟩
      rw [HG.out]
      have : ((List.range k).any fun k => decide (20 < (x.m k).qs.length)) = false := by
        rw [List.any_eq_false]
        intro j hj
        rw [List.mem_range] at hj
        simpa using HQ2.out j hj
      rw [this]; rfl
    | succ g1 =>
      have hk : k < nM := by omega
      have hkx : k < x.modes.length := by rw [HN.out]; exact hk
      obtain ⟨hsp, -, -⟩ := HI.out.sm.at_ (by omega)
      rw [hsp] at c2
      have q1 := ((HI.out.new HZ.out).md k hkx).2.1
      obtain ⟨n, hn⟩ : ∃ n, (x.m k).qs.length = n := ⟨_, rfl⟩
      rw [hn] at q1
      have HNn := Lib.hid hn
      have hk2 : (k : Int) < (nM : Int) := by omega
      have hk3 : (k : Int) ≤ 20 := by omega
      clear hn hsp hkx g2
      by_cases hb : 20 < n
      · have hb2 : (20 : Int) < (n : Int) := by omega
        have HB := Lib.hid hb
        clear hb
        go_wp2
        go_ret
        refine ⟨?_, HZ.out⟩
        rw [HG.out]
        have : ((List.range nM).any fun k => decide (20 < (x.m k).qs.length)) = true := by
          rw [List.any_eq_true]
          exact ⟨k, by rw [List.mem_range]; exact hk, by rw [HNn.out]; exact decide_eq_true HB.out⟩
        rw [this]; rfl
      · have hb2 : ¬ (20 : Int) < (n : Int) := by omega
        have HB := Lib.hid hb
        clear hb
        go_wp2
        go_roundg g1
        case measure => omega
        case rel =>
          refine ⟨k + 1, by omega, by go_num, rfl, fun j hj => ?_⟩
          rcases Nat.lt_or_ge j k with h1 | h1
          · exact HQ2.out j h1
          · obtain rfl : j = k := by omega
            rw [HNn.out]; exact HB.out
end Go.Proofs.Ytomdcmdgcnhnmaa
