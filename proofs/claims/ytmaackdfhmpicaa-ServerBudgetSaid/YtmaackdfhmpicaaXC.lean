/- The contracts of demand's terms: how many jobs, and how much work may come in so many ticks; the reference's likewise; the law's alive. -/
import Derived.Test.YtmaackdfhmpicaaXA
import Derived.Test.YtmaackdfhmpicaaVR
namespace Go.Proofs.Ytmaackdfhmpicaa
open Go.RowKit

def jobsB (P O t : Int) : Bool := lessB t O && upB (lessN t O) P
def jobsN (P O t : Int) : Int := if lessB t O then upN (lessN t O) P else 0
def workB (P C O K t : Int) : Bool := jobsB P O t && (mulB (jobsN P O t) C && addB (mulN (jobsN P O t) C) K)
def workN (P C O K t : Int) : Int := if jobsB P O t && mulB (jobsN P O t) C then addN (mulN (jobsN P O t) C) K else 0

theorem jobs_any (P C O K t : Int) (w : World) : Calls Try.prog 75 #[.agg #[.int .i64 P, .int .i64 C, .int .i64 O, .int .i64 K], .int .i64 t] w fun e w' => e = .returned (.tuple #[.int .i64 (jobsN P O t), .bool (jobsB P O t)]) ∧ Below w.heap.size w w' := by
  unfold jobsN jobsB
  have h1 := Lib.hid (fun wx => less_any t O wx)
  have h2 := Lib.hid (fun wx => up_any (lessN t O) P wx)
  generalize lessN t O = n at h1 h2 ⊢
  generalize upN n P = m at h2 ⊢
  generalize upB n P = c at h2 ⊢
  have HB := Lib.hid (show Below w.heap.size w (w.alloc (.cells #[.int .i64 P, .int .i64 C, .int .i64 O, .int .i64 K] 69)) from (Below.refl _ _).alloc (Nat.le_refl _) _)
  generalize lessB t O = q at h1 ⊢
  cases q
  all_goals
    go_enter Try.func75, Try.ntmps75
    go_wp2_with (first
      | (go_at_call 80; refine (h1.out _).mono ?_; rintro e w' ⟨rfl, rfl⟩)
      | (go_at_call 81; refine (h2.out _).mono ?_; rintro e w' ⟨rfl, rfl⟩)
      | fail)
    go_ret2
    exact ⟨by simp, HB.out⟩

theorem twork_any (P C O K t : Int) (w : World) : Calls Try.prog 64 #[.agg #[.int .i64 P, .int .i64 C, .int .i64 O, .int .i64 K], .int .i64 t] w fun e w' => e = .returned (.tuple #[.int .i64 (workN P C O K t), .bool (workB P C O K t)]) ∧ Below w.heap.size w w' := by
  unfold workN workB
  have h1 := Lib.hid (fun wx => jobs_any P C O K t wx)
  have h2 := Lib.hid (fun wx => mul_any (jobsN P O t) C wx)
  have h3 := Lib.hid (fun wx => add_any (mulN (jobsN P O t) C) K wx)
  generalize jobsN P O t = n at h1 h2 h3 ⊢
  generalize mulN n C = m at h2 h3 ⊢
  generalize addN m K = a at h3 ⊢
  generalize addB m K = b at h3 ⊢
  obtain ⟨Z, hZ⟩ : ∃ Z, Z = w.heap.size := ⟨_, rfl⟩
  have HB := Lib.hid (show Below w.heap.size w (w.alloc (.cells #[.int .i64 P, .int .i64 C, .int .i64 O, .int .i64 K] 69)) ∧ RowAt (w.alloc (.cells #[.int .i64 P, .int .i64 C, .int .i64 O, .int .i64 K] 69)) Z 69 #[.int .i64 P, .int .i64 C, .int .i64 O, .int .i64 K] from by rw [hZ]; exact ⟨(Below.refl _ _).alloc (Nat.le_refl _) _, RowAt.mk _ _ _⟩)
  generalize jobsB P O t = q1 at h1 ⊢
  generalize mulB n C = q2 at h2 ⊢
  go_enter Try.func64, Try.ntmps64
  go_upto_region 1 with fail
  rw [← hZ]
  generalize hw2 : World.alloc _ _ = w2 at HB ⊢
  clear hw2
  clear hZ
  have c0 := HB.out.2.cell 0
  have c1 := HB.out.2.cell 1
  have c2 := HB.out.2.cell 2
  have c3 := HB.out.2.cell 3
  cases q1
  · go_wp2_with (first
      | (refine wpList_load_row rfl 69 (.tmp 2) rfl Z rfl 69 #[.int .i64 P, .int .i64 C, .int .i64 O, .int .i64 K] (0, 0) _ HB.out.2 Try.underlying69 rfl (by kernel_rfl) ?_)
      | (go_at_call 75; refine (h1.out _).mono ?_; rintro e w3 ⟨rfl, b3⟩; have H3 := Lib.hid (HB.out.1.trans (b3.mono HB.out.1.size)); clear b3)
      | fail)
    go_ret2
    exact ⟨by simp, H3.out⟩
  cases q2
  all_goals
    go_wp2_with (first
      | (refine wpList_load_row rfl 69 (.tmp 2) rfl Z rfl 69 #[.int .i64 P, .int .i64 C, .int .i64 O, .int .i64 K] (0, 0) _ HB.out.2 Try.underlying69 rfl (by kernel_rfl) ?_)
      | (go_at_call 75; refine (h1.out _).mono ?_; rintro e w3 ⟨rfl, b3⟩; have H3 := Lib.hid (HB.out.1.trans (b3.mono HB.out.1.size)); have c1 := (HB.out.2.new b3).cell 1; have c3 := (HB.out.2.new b3).cell 3; clear b3)
      | (go_at_call 76; refine (h2.out _).mono ?_; rintro e w' ⟨rfl, rfl⟩)
      | (go_at_call 55; refine (h3.out _).mono ?_; rintro e w' ⟨rfl, rfl⟩)
      | fail)
    go_ret2
    exact ⟨by simp, H3.out⟩
/-- The reference's. -/
theorem rwork_any (P C O K t : Int) (w : World) : Calls Try.prog 56 #[.agg #[.int .i64 P, .int .i64 C, .int .i64 O, .int .i64 K], .int .i64 t] w fun e w' => e = .returned (.tuple #[.int .i64 (workN P C O K t), .bool (workB P C O K t)]) ∧ Below w.heap.size w w' := by
  unfold workN workB jobsN jobsB
  have h0 := Lib.hid (fun wx => refless_any t O wx)
  have h1 := Lib.hid (fun wx => refup_any (lessN t O) P wx)
  generalize lessN t O = l at h0 h1 ⊢
  generalize lessB t O = q0 at h0 ⊢
  have h2 := Lib.hid (fun wx => refmul_any (upN l P) C wx)
  have h3 := Lib.hid (fun wx => refadd_any (mulN (upN l P) C) K wx)
  generalize upN l P = n at h1 h2 h3 ⊢
  generalize upB l P = q1 at h1 ⊢
  cases q0
  case true =>
    rw [if_pos rfl]
    generalize mulN n C = m at h2 h3 ⊢
    generalize mulB n C = q2 at h2 ⊢
    generalize addN m K = a at h3 ⊢
    generalize addB m K = b at h3 ⊢
    have HB := Lib.hid (show Below w.heap.size w (w.alloc (.cells #[.int .i64 P, .int .i64 C, .int .i64 O, .int .i64 K] 73)) from (Below.refl _ _).alloc (Nat.le_refl _) _)
    cases q1
    case true =>
      cases q2
      all_goals
        go_enter Try.func56, Try.ntmps56
        go_wp2_with (first
          | (go_at_call 67; refine (h0.out _).mono ?_; rintro e w' ⟨rfl, rfl⟩)
          | (go_at_call 68; refine (h1.out _).mono ?_; rintro e w' ⟨rfl, rfl⟩)
          | (go_at_call 69; refine (h2.out _).mono ?_; rintro e w' ⟨rfl, rfl⟩)
          | (go_at_call 59; refine (h3.out _).mono ?_; rintro e w' ⟨rfl, rfl⟩)
          | fail)
        go_ret2
        exact ⟨by simp, HB.out⟩
    case false =>
      go_enter Try.func56, Try.ntmps56
      go_wp2_with (first
        | (go_at_call 67; refine (h0.out _).mono ?_; rintro e w' ⟨rfl, rfl⟩)
        | (go_at_call 68; refine (h1.out _).mono ?_; rintro e w' ⟨rfl, rfl⟩)
        | fail)
      go_ret2
      exact ⟨by simp, HB.out⟩
  case false =>
    have HB := Lib.hid (show Below w.heap.size w (w.alloc (.cells #[.int .i64 P, .int .i64 C, .int .i64 O, .int .i64 K] 73)) from (Below.refl _ _).alloc (Nat.le_refl _) _)
    go_enter Try.func56, Try.ntmps56
    go_wp2_with (first
      | (go_at_call 67; refine (h0.out _).mono ?_; rintro e w' ⟨rfl, rfl⟩)
      | fail)
    go_ret2
    exact ⟨by simp, HB.out⟩
end Go.Proofs.Ytmaackdfhmpicaa
