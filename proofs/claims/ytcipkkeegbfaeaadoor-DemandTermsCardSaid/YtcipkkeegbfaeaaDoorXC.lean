/- The contracts of demand's terms: how many jobs, and how much work may come in so many ticks; the reference's likewise; the law's alive. -/
import Derived.Test.YtcipkkeegbfaeaaDoorXA
import Derived.Test.YtcipkkeegbfaeaaDoorVR
namespace Go.Proofs.YtcipkkeegbfaeaaDoor
open Go.RowKit

def jobsB (P O t : Int) : Bool := lessB t O && upB (lessN t O) P
def jobsN (P O t : Int) : Int := if lessB t O then upN (lessN t O) P else 0
def workB (P C O K t : Int) : Bool := jobsB P O t && (mulB (jobsN P O t) C && addB (mulN (jobsN P O t) C) K)
def workN (P C O K t : Int) : Int := if jobsB P O t && mulB (jobsN P O t) C then addN (mulN (jobsN P O t) C) K else 0

theorem jobs_any (P C O K t : Int) (w : World) : Calls Tryd.prog 40 #[.agg #[.int .i64 P, .int .i64 C, .int .i64 O, .int .i64 K], .int .i64 t] w fun e w' => e = .returned (.tuple #[.int .i64 (jobsN P O t), .bool (jobsB P O t)]) ∧ Below w.heap.size w w' := by
  unfold jobsN jobsB
  have h1 := Lib.hid (fun wx => less_any t O wx)
  have h2 := Lib.hid (fun wx => up_any (lessN t O) P wx)
  generalize lessN t O = n at h1 h2 ⊢
  generalize upN n P = m at h2 ⊢
  generalize upB n P = c at h2 ⊢
  have HB := Lib.hid (show Below w.heap.size w (w.alloc (.cells #[.int .i64 P, .int .i64 C, .int .i64 O, .int .i64 K] 49)) from (Below.refl _ _).alloc (Nat.le_refl _) _)
  generalize lessB t O = q at h1 ⊢
  cases q
  all_goals
    go_enter Tryd.func40, Tryd.ntmps40
    go_wp2_with (first
      | (go_at_call 58; refine (h1.out _).mono ?_; rintro e w' ⟨rfl, rfl⟩)
      | (go_at_call 59; refine (h2.out _).mono ?_; rintro e w' ⟨rfl, rfl⟩)
      | fail)
    go_ret2
    exact ⟨by simp, HB.out⟩

theorem twork_any (P C O K t : Int) (w : World) : Calls Tryd.prog 41 #[.agg #[.int .i64 P, .int .i64 C, .int .i64 O, .int .i64 K], .int .i64 t] w fun e w' => e = .returned (.tuple #[.int .i64 (workN P C O K t), .bool (workB P C O K t)]) ∧ Below w.heap.size w w' := by
  unfold workN workB
  have h1 := Lib.hid (fun wx => jobs_any P C O K t wx)
  have h2 := Lib.hid (fun wx => mul_any (jobsN P O t) C wx)
  have h3 := Lib.hid (fun wx => add_any (mulN (jobsN P O t) C) K wx)
  generalize jobsN P O t = n at h1 h2 h3 ⊢
  generalize mulN n C = m at h2 h3 ⊢
  generalize addN m K = a at h3 ⊢
  generalize addB m K = b at h3 ⊢
  obtain ⟨Z, hZ⟩ : ∃ Z, Z = w.heap.size := ⟨_, rfl⟩
  have HB := Lib.hid (show Below w.heap.size w (w.alloc (.cells #[.int .i64 P, .int .i64 C, .int .i64 O, .int .i64 K] 49)) ∧ RowAt (w.alloc (.cells #[.int .i64 P, .int .i64 C, .int .i64 O, .int .i64 K] 49)) Z 49 #[.int .i64 P, .int .i64 C, .int .i64 O, .int .i64 K] from by rw [hZ]; exact ⟨(Below.refl _ _).alloc (Nat.le_refl _) _, RowAt.mk _ _ _⟩)
  generalize jobsB P O t = q1 at h1 ⊢
  generalize mulB n C = q2 at h2 ⊢
  go_enter Tryd.func41, Tryd.ntmps41
  go_upto_region 1 with fail
  rw [← hZ]
  generalize hw2 : World.alloc _ _ = w2 at HB ⊢
  clear hw2
  clear hZ
  have c0 := HB.out.2.cell 0
  have c1 := HB.out.2.cell 1
  have c2 := HB.out.2.cell 2
  have c3 := HB.out.2.cell 3
  cases q1
  · go_wp2_with (first
      | (refine wpList_load_row rfl 49 (.tmp 2) rfl Z rfl 49 #[.int .i64 P, .int .i64 C, .int .i64 O, .int .i64 K] (0, 0) _ HB.out.2 Tryd.underlying49 rfl (by kernel_rfl) ?_)
      | (go_at_call 40; refine (h1.out _).mono ?_; rintro e w3 ⟨rfl, b3⟩; have H3 := Lib.hid (HB.out.1.trans (b3.mono HB.out.1.size)); clear b3)
      | fail)
    go_ret2
    exact ⟨by simp, H3.out⟩
  cases q2
  all_goals
    go_wp2_with (first
      | (refine wpList_load_row rfl 49 (.tmp 2) rfl Z rfl 49 #[.int .i64 P, .int .i64 C, .int .i64 O, .int .i64 K] (0, 0) _ HB.out.2 Tryd.underlying49 rfl (by kernel_rfl) ?_)
      | (go_at_call 40; refine (h1.out _).mono ?_; rintro e w3 ⟨rfl, b3⟩; have H3 := Lib.hid (HB.out.1.trans (b3.mono HB.out.1.size)); have c1 := (HB.out.2.new b3).cell 1; have c3 := (HB.out.2.new b3).cell 3; clear b3)
      | (go_at_call 60; refine (h2.out _).mono ?_; rintro e w' ⟨rfl, rfl⟩)
      | (go_at_call 61; refine (h3.out _).mono ?_; rintro e w' ⟨rfl, rfl⟩)
      | fail)
    go_ret2
    exact ⟨by simp, H3.out⟩
set_option maxRecDepth 100000 in
theorem l16alive_any (w : World) : Calls Tryd.prog 19 #[] w fun e w' => e = .returned (.bool true) ∧ Below w.heap.size w w' := by
  have h1 := Lib.hid (show ∀ wx, Calls Tryd.prog 40 #[.agg #[.int .i64 5, .int .i64 2, .int .i64 1, .int .i64 0], .int .i64 6] wx fun e w' => e = .returned (.tuple #[.int .i64 1, .bool true]) ∧ Below wx.heap.size wx w' from fun wx => jobs_any 5 2 1 0 6 wx)
  have h2 := Lib.hid (show ∀ wx, Calls Tryd.prog 41 #[.agg #[.int .i64 5, .int .i64 2, .int .i64 1, .int .i64 0], .int .i64 7] wx fun e w' => e = .returned (.tuple #[.int .i64 4, .bool true]) ∧ Below wx.heap.size wx w' from fun wx => twork_any 5 2 1 0 7 wx)
  go_enter Tryd.func19, Tryd.ntmps19
  go_upto_region 2 with fail
  generalize hw3 : World.alloc _ _ = w3
  obtain ⟨Z, hZ⟩ : ∃ Z, Z = w.heap.size := ⟨_, rfl⟩
  have HB := Lib.hid (show Below w.heap.size w w3 ∧ RowAt w3 Z 49 #[.int .i64 5, .int .i64 2, .int .i64 1, .int .i64 0] from by rw [← hw3, hZ]; exact ⟨(Below.refl _ _).alloc (Nat.le_refl _) _, RowAt.mk _ _ _⟩)
  rw [← hZ]
  clear hw3 hZ
  go_wp2_with (first
    | (refine wpList_load_row rfl 49 (.tmp 1) rfl Z rfl 49 #[.int .i64 5, .int .i64 2, .int .i64 1, .int .i64 0] (0, 0) _ HB.out.2 Tryd.underlying49 rfl (by kernel_rfl) ?_)
    | (go_at_call 40; refine (h1.out _).mono ?_; rintro e w4 ⟨rfl, b4⟩; have H4 := Lib.hid (And.intro (HB.out.1.trans (b4.mono HB.out.1.size)) (HB.out.2.new b4)); clear b4 HB)
    | (refine wpList_load_row rfl 49 (.tmp 1) rfl Z rfl 49 #[.int .i64 5, .int .i64 2, .int .i64 1, .int .i64 0] (0, 0) _ H4.out.2 Tryd.underlying49 rfl (by kernel_rfl) ?_)
    | (go_at_call 41; refine (h2.out _).mono ?_; rintro e w5 ⟨rfl, b5⟩; have H5 := Lib.hid (H4.out.1.trans (b5.mono H4.out.1.size)); clear b5 H4)
    | fail)
  go_ret
  exact ⟨by simp, H5.out⟩
end Go.Proofs.YtcipkkeegbfaeaaDoor
