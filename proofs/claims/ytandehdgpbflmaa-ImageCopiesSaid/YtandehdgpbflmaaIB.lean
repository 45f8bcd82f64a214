/- The contracts of image's hasMode and Tasks. -/
import Derived.Test.YtandehdgpbflmaaIA
import Derived.Test.YtandehdgpbflmaaIG
namespace Go.Proofs.Ytandehdgpbflmaa
open Go.RowKit

theorem hasMode_any (r : Int) (sT sM sE : Option Addr) (nT cT nM cM nE cE : Nat) (m : Int) (w : World) :
    Calls Try.prog 44 #[.agg #[.int .i64 r, .slice sT nT cT, .slice sM nM cM, .slice sE nE cE], .int .i64 m] w fun e w' => e = .returned (.bool (decide (0 ≤ m ∧ m < (nM : Int)))) ∧ Below w.heap.size w w' := by
  have hb : Below w.heap.size w (w.alloc (.cells #[.int .i64 r, .slice sT nT cT, .slice sM nM cM, .slice sE nE cE] 26)) := (Below.refl _ _).alloc (Nat.le_refl _) _
  have HB := Lib.hid hb
  clear hb
  by_cases h0 : 0 ≤ m
  · by_cases h1 : m < (nM : Int)
    · rw [decide_eq_true (⟨h0, h1⟩ : 0 ≤ m ∧ m < (nM : Int))]
      go_enter Try.func44, Try.ntmps44
      go_wp2
      go_ret
      exact ⟨rfl, HB.out⟩
    · rw [decide_eq_false (fun h : 0 ≤ m ∧ m < (nM : Int) => h1 h.2)]
      go_enter Try.func44, Try.ntmps44
      go_wp2
      go_ret
      exact ⟨rfl, HB.out⟩
  · rw [decide_eq_false (fun h : 0 ≤ m ∧ m < (nM : Int) => h0 h.1)]
    go_enter Try.func44, Try.ntmps44
    go_wp2
    go_ret
    exact ⟨rfl, HB.out⟩
/-- The tasks of a mode; none, if there is no such. -/
def tasksM (x : Img) (m : Int) : BitVec 32 := if 0 ≤ m ∧ m < (x.modes.length : Int) then (x.m m.toNat).tasks else 0#32
set_option maxHeartbeats 1000000 in
theorem iTasks_any {w : World} {V : Nat → Prop} {x : Img} {S : ImgS} (h : ImgAt w V x S) (m : Int) :
    Calls Try.prog 15 #[.agg #[.int .i64 x.res, .slice S.t.sp x.tasks.length S.t.c, .slice S.m.sp x.modes.length S.m.c, .slice S.e.sp x.edges.length S.e.c], .int .i64 m] w fun e w' => e = .returned (.int .u32 (w32 (tasksM x m))) ∧ Below w.heap.size w w' := by
  obtain ⟨nT, hnT⟩ : ∃ n, x.tasks.length = n := ⟨_, rfl⟩
  obtain ⟨nE, hnE⟩ : ∃ n, x.edges.length = n := ⟨_, rfl⟩
  have HH := Lib.hid (fun (wx : World) => hasMode_any x.res S.t.sp S.m.sp S.e.sp nT S.t.c x.modes.length S.m.c nE S.e.c m wx)
  rw [hnT, hnE]
  have HZ := Lib.hid (show Below w.heap.size w (w.alloc (.cells #[.int .i64 x.res, .slice S.t.sp nT S.t.c, .slice S.m.sp x.modes.length S.m.c, .slice S.e.sp nE S.e.c] 26)) from (Below.refl _ _).alloc (Nat.le_refl _) _)
  by_cases hm : 0 ≤ m ∧ m < (x.modes.length : Int)
  · obtain ⟨k, rfl⟩ := Int.eq_ofNat_of_zero_le hm.1
    have hk : k < x.modes.length := by omega
    have ht : tasksM x (k : Int) = (x.m k).tasks := by unfold tasksM; rw [if_pos hm, Int.toNat_natCast]
    rw [ht]
    rw [decide_eq_true hm] at HH
    obtain ⟨hsp, hb, -⟩ := h.sm.at_ (by omega)
    have hc := (h.md k hk).1
    obtain ⟨z, hz⟩ : ∃ z, (x.m k).tasks = z := ⟨_, rfl⟩
    obtain ⟨nM, hnM⟩ : ∃ n, x.modes.length = n := ⟨_, rfl⟩
    rw [hz] at hc ⊢
    rw [hnM] at HH HZ hk ⊢
    rw [hsp] at HH HZ ⊢
    have HC := Lib.hid (show ∀ w', Below w.heap.size w w' → w'.cell? ⟨S.m.b, S.m.o + k * 2, none⟩ = some (.int .u32 (w32 z)) from fun w' hb' => (hb'.cell (p := ⟨S.m.b, S.m.o + k * 2, none⟩) hb).trans hc)
    have hk2 : (k : Int) < (nM : Int) := by omega
    clear h hc hz hnM ht hnT hnE hm hsp
    go_enter Try.func15, Try.ntmps15
    go_upto_region 3 with (go_at_call 44; refine (HH.out _).mono ?_; rintro e w1 ⟨rfl, b1⟩; rw [World.size_alloc] at b1; have H1 := Lib.hid (show Below w.heap.size w w1 ∧ w1.cell? ⟨w.heap.size, 2, none⟩ = some (.slice (some ⟨S.m.b, S.m.o, none⟩) nM S.m.c) from ⟨HZ.out.trans (b1.mono (by omega)), (b1.cell (p := ⟨w.heap.size, 2, none⟩) (by simp)).trans (by simp [go_sem])⟩); clear b1)
    have c2 := H1.out.2
    have cz := HC.out w1 H1.out.1
    go_wp2
    go_ret
    exact ⟨rfl, H1.out.1⟩
  · have ht : tasksM x m = 0#32 := by unfold tasksM; rw [if_neg hm]
    rw [ht]
    rw [decide_eq_false hm] at HH
    clear h hm ht
    obtain ⟨nM, hnM⟩ : ∃ n, x.modes.length = n := ⟨_, rfl⟩
    rw [hnM] at HH HZ ⊢
    clear hnM hnT hnE
    go_enter Try.func15, Try.ntmps15
    go_wp2_with (go_at_call 44; refine (HH.out _).mono ?_; rintro e w1 ⟨rfl, b1⟩; rw [World.size_alloc] at b1; have H1 := Lib.hid (show Below w.heap.size w w1 from HZ.out.trans (b1.mono (by omega))); clear b1)
    go_ret
    exact ⟨rfl, H1.out⟩
end Go.Proofs.Ytandehdgpbflmaa
