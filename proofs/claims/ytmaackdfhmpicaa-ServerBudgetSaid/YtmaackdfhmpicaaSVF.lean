/- What ServerGets says. -/
import Derived.Test.YtmaackdfhmpicaaSVE
import Derived.Test.YtmaackdfhmpicaaJX
namespace Go.Proofs.Ytmaackdfhmpicaa
open Go.RowKit

theorem CBx.of {w w1 : World} {a b : Value} {t : TypeId} (h : Below (w.alloc (.cells #[a, b] t)).heap.size (w.alloc (.cells #[a, b] t)) w1) : CBx w t a b w1 := ⟨(box_of h).1, (box_of h).2⟩
theorem neq_svtask (P B : Int) (w : World) : (Go.binOp .neq 44 (.agg #[.int .i64 P, .int .i64 P, .int .i64 B, .int .i64 0, .int .i64 0, .int .i64 0, .int .i64 0, .int .i64 0, .int .i64 0, .int .i64 0, .int .i64 0]) (.agg #[.int .i64 P, .int .i64 P, .int .i64 B, .int .i64 0, .int .i64 0, .int .i64 0, .int .i64 0, .int .i64 0, .int .i64 0, .int .i64 0, .int .i64 0])).run Try.prog w = .ok (.bool false) w := by
  have := neq_task (s := ⟨P, P, B, [0, 0, 0, 0, 0, 0, 0, 0]⟩) (t := ⟨P, P, B, [0, 0, 0, 0, 0, 0, 0, 0]⟩) rfl rfl w
  rw [show tEq ⟨P, P, B, [0, 0, 0, 0, 0, 0, 0, 0]⟩ ⟨P, P, B, [0, 0, 0, 0, 0, 0, 0, 0]⟩ = true by simp [tEq]] at this
  exact this
set_option maxHeartbeats 8000000 in
theorem law_gets (P B t v : Int) (w : World) : Calls Try.prog 5 #[.agg #[.int .i64 P, .int .i64 B], .int .i64 t, .int .i64 v] w fun e w' => e = .returned (.bool true) ∧ Below w.heap.size w w' := by
  by_cases ht : 5000 < t
  · go_enter Try.func5, Try.ntmps5
    go_wp2
    go_ret
    exact ⟨rfl, (Below.refl _ _).alloc (Nat.le_refl _) _⟩
  have HR := Lib.hid (fun wx => r56Right_any P B wx)
  have HS := Lib.hid (fun wx => svRight_any P B wx)
  have HA := Lib.hid (fun wx => l56alive_any wx)
  have HT := Lib.hid (fun wx => svTask_any P B wx)
  have HW := Lib.hid (fun wx => svWithin_any P B v wx)
  have hnq := neq_svtask P B
  cases hr : svR P B
  case false =>
    have HL := Lib.hid (fun wx => svLeast_no (t := t) (.inl hr) wx)
    have HE : svW P B v = none := by simp [svW, hr]
    rw [HE] at HW
    rw [hr] at HR HS
    rw [show wN none = 0 from rfl] at HW
    have HLr := Lib.hid trivial
    clear hr HE
    go_enter Try.func5, Try.ntmps5
    go_upto_region 8 with (first
      | (go_at_call 19; refine (HR.out _).mono ?_; rintro e w1 ⟨rfl, rfl⟩)
      | (go_at_call 20; refine (HLr.out _).mono ?_; rintro e w1 ⟨rfl, rfl⟩)
      | (go_at_call 21; refine (HW.out _).mono ?_; rintro e w1 ⟨rfl, b1⟩; have K1 := Lib.hid (CBx.of b1); have k0 : w1.cell? ⟨w.heap.size, 0, none⟩ = some (.int .i64 P) := K1.out.row.cell 0; have k1 : w1.cell? ⟨w.heap.size, 1, none⟩ = some (.int .i64 B) := K1.out.row.cell 1; clear b1 HW)
      | fail)
    have HC := Lib.hid (show CBx w 36 (.int .i64 P) (.int .i64 B) w1.drew from K1.out.dn)
    clear k0 k1
    (try dsimp only [List.append_eq, List.cons_append, List.nil_append])
    refine wp_region_class (C := CBx w 36 (.int .i64 P) (.int .i64 B)) (by kernel_rfl) (by kernel_rfl) (by kernel_rfl) HC.out ?_
    clear HC
    repeat
      first
        | go_big_quiet_skip
        | (go_big_quiet_want
           first
             | (apply quiet_enter
                · intro wz
                  go_simp
                  exact ⟨rfl, rfl⟩
                · intro wz hz
                  first
                    | (go_at_call 22; refine (HS.out _).mono ?_; rintro e w' ⟨rfl, hbn⟩; exact ⟨rfl, hz.next hbn⟩)
                    | (go_at_call 23; refine (HL.out _).mono ?_; rintro e w' ⟨rfl, hbn⟩; exact ⟨rfl, hz.next hbn⟩)
                    | (go_at_call 24; refine (HT.out _).mono ?_; rintro e w' ⟨rfl, hbn⟩; exact ⟨rfl, hz.next hbn⟩)
                    | (go_at_call 25; refine (HA.out _).mono ?_; rintro e w' ⟨rfl, hbn⟩; exact ⟨rfl, hz.next hbn⟩)
                    | fail)
             | (apply quiet_run
                · intro wz hz
                  have h0 : wz.cell? ⟨w.heap.size, 0, none⟩ = some (.int .i64 P) := hz.row.cell 0
                  have h1 : wz.cell? ⟨w.heap.size, 1, none⟩ = some (.int .i64 B) := hz.row.cell 1
                  go_simp
                  try with_reducible rfl)
           simp only [Act.put, List.setIfInBounds_toArray, List.set_cons_zero, List.set_cons_succ]
           go_big_quiet_on)
    refine wpQuiet_nil ?_
    intro w5 h5
    have H5 := Lib.hid h5
    have n0 : w5.cell? ⟨w.heap.size, 0, none⟩ = some (.int .i64 P) := h5.row.cell 0
    have n1 : w5.cell? ⟨w.heap.size, 1, none⟩ = some (.int .i64 B) := h5.row.cell 1
    clear h5
    go_wp2_with (first
      | (go_at_call 25; refine (HA.out _).mono ?_; rintro e w6 ⟨rfl, b6⟩; have H6 := Lib.hid (H5.out.next b6); clear b6)
      | fail)
    go_ret
    exact ⟨rfl, H6.out.bl⟩
  case true =>
    have HL := Lib.hid (fun wx => svLeast_any (t := t) hr (by omega) wx)
    have HLr := Lib.hid (fun wx => r56Least_any hr t (by omega) wx)
    rw [hr] at HR HS
    obtain ⟨u, hu⟩ : ∃ u, svL P B t = u := ⟨_, rfl⟩
    rw [hu] at HL HLr
    clear hu
    have HRest : ∀ (w1 : World), True := fun _ => trivial
    by_cases c0 : v < 0
    · have HE : svW P B v = none := by simp [svW, c0]
      rw [HE, show wN none = 0 from rfl] at HW
      clear hr HE HRest
      go_enter Try.func5, Try.ntmps5
      go_upto_region 8 with (first
        | (go_at_call 19; refine (HR.out _).mono ?_; rintro e w1 ⟨rfl, rfl⟩)
        | (go_at_call 20; refine (HLr.out _).mono ?_; rintro e w1 ⟨rfl, rfl⟩)
        | (go_at_call 21; refine (HW.out _).mono ?_; rintro e w1 ⟨rfl, b1⟩; have K1 := Lib.hid (CBx.of b1); have k0 : w1.cell? ⟨w.heap.size, 0, none⟩ = some (.int .i64 P) := K1.out.row.cell 0; have k1 : w1.cell? ⟨w.heap.size, 1, none⟩ = some (.int .i64 B) := K1.out.row.cell 1; clear b1 HW)
        | fail)
      have HC := Lib.hid (show CBx w 36 (.int .i64 P) (.int .i64 B) w1.drew from K1.out.dn)
      clear k0 k1
      (try dsimp only [List.append_eq, List.cons_append, List.nil_append])
      refine wp_region_class (C := CBx w 36 (.int .i64 P) (.int .i64 B)) (by kernel_rfl) (by kernel_rfl) (by kernel_rfl) HC.out ?_
      clear HC
      repeat
        first
          | go_big_quiet_skip
          | (go_big_quiet_want
             first
               | (apply quiet_enter
                  · intro wz
                    go_simp
                    exact ⟨rfl, rfl⟩
                  · intro wz hz
                    first
                      | (go_at_call 22; refine (HS.out _).mono ?_; rintro e w' ⟨rfl, hbn⟩; exact ⟨rfl, hz.next hbn⟩)
                      | (go_at_call 23; refine (HL.out _).mono ?_; rintro e w' ⟨rfl, hbn⟩; exact ⟨rfl, hz.next hbn⟩)
                      | (go_at_call 24; refine (HT.out _).mono ?_; rintro e w' ⟨rfl, hbn⟩; exact ⟨rfl, hz.next hbn⟩)
                      | (go_at_call 25; refine (HA.out _).mono ?_; rintro e w' ⟨rfl, hbn⟩; exact ⟨rfl, hz.next hbn⟩)
                      | fail)
               | (apply quiet_run
                  · intro wz hz
                    have h0 : wz.cell? ⟨w.heap.size, 0, none⟩ = some (.int .i64 P) := hz.row.cell 0
                    have h1 : wz.cell? ⟨w.heap.size, 1, none⟩ = some (.int .i64 B) := hz.row.cell 1
                    go_simp
                    try with_reducible rfl)
             simp only [Act.put, List.setIfInBounds_toArray, List.set_cons_zero, List.set_cons_succ]
             go_big_quiet_on)
      refine wpQuiet_nil ?_
      intro w5 h5
      have H5 := Lib.hid h5
      clear h5
      go_wp2_with (first
        | (go_at_call 25; refine (HA.out _).mono ?_; rintro e w6 ⟨rfl, b6⟩; have H6 := Lib.hid (H5.out.next b6); clear b6)
        | fail)
      go_ret
      exact ⟨rfl, H6.out.bl⟩
    by_cases c1 : 65536 < v
    · have HE : svW P B v = none := by simp [svW, c1]
      rw [HE, show wN none = 0 from rfl] at HW
      clear hr HE HRest
      go_enter Try.func5, Try.ntmps5
      go_upto_region 8 with (first
        | (go_at_call 19; refine (HR.out _).mono ?_; rintro e w1 ⟨rfl, rfl⟩)
        | (go_at_call 20; refine (HLr.out _).mono ?_; rintro e w1 ⟨rfl, rfl⟩)
        | (go_at_call 21; refine (HW.out _).mono ?_; rintro e w1 ⟨rfl, b1⟩; have K1 := Lib.hid (CBx.of b1); have k0 : w1.cell? ⟨w.heap.size, 0, none⟩ = some (.int .i64 P) := K1.out.row.cell 0; have k1 : w1.cell? ⟨w.heap.size, 1, none⟩ = some (.int .i64 B) := K1.out.row.cell 1; clear b1 HW)
        | fail)
      have HC := Lib.hid (show CBx w 36 (.int .i64 P) (.int .i64 B) w1.drew from K1.out.dn)
      clear k0 k1
      (try dsimp only [List.append_eq, List.cons_append, List.nil_append])
      refine wp_region_class (C := CBx w 36 (.int .i64 P) (.int .i64 B)) (by kernel_rfl) (by kernel_rfl) (by kernel_rfl) HC.out ?_
      clear HC
      repeat
        first
          | go_big_quiet_skip
          | (go_big_quiet_want
             first
               | (apply quiet_enter
                  · intro wz
                    go_simp
                    exact ⟨rfl, rfl⟩
                  · intro wz hz
                    first
                      | (go_at_call 22; refine (HS.out _).mono ?_; rintro e w' ⟨rfl, hbn⟩; exact ⟨rfl, hz.next hbn⟩)
                      | (go_at_call 23; refine (HL.out _).mono ?_; rintro e w' ⟨rfl, hbn⟩; exact ⟨rfl, hz.next hbn⟩)
                      | (go_at_call 24; refine (HT.out _).mono ?_; rintro e w' ⟨rfl, hbn⟩; exact ⟨rfl, hz.next hbn⟩)
                      | (go_at_call 25; refine (HA.out _).mono ?_; rintro e w' ⟨rfl, hbn⟩; exact ⟨rfl, hz.next hbn⟩)
                      | fail)
               | (apply quiet_run
                  · intro wz hz
                    have h0 : wz.cell? ⟨w.heap.size, 0, none⟩ = some (.int .i64 P) := hz.row.cell 0
                    have h1 : wz.cell? ⟨w.heap.size, 1, none⟩ = some (.int .i64 B) := hz.row.cell 1
                    go_simp
                    try with_reducible rfl)
             simp only [Act.put, List.setIfInBounds_toArray, List.set_cons_zero, List.set_cons_succ]
             go_big_quiet_on)
      refine wpQuiet_nil ?_
      intro w5 h5
      have H5 := Lib.hid h5
      clear h5
      go_wp2_with (first
        | (go_at_call 25; refine (HA.out _).mono ?_; rintro e w6 ⟨rfl, b6⟩; have H6 := Lib.hid (H5.out.next b6); clear b6)
        | fail)
      go_ret
      exact ⟨rfl, H6.out.bl⟩
    have HWr := Lib.hid (fun wx => r56Within_any hr (show 0 ≤ v by omega) (show v ≤ 65536 by omega) wx)
    obtain ⟨o, ho⟩ : ∃ o, svW P B v = o := ⟨_, rfl⟩
    rw [ho] at HW HWr
    clear hr ho HRest
    cases o with
    | none =>
      rw [show wN none = 0 from rfl] at HW HWr
      go_enter Try.func5, Try.ntmps5
      go_upto_region 8 with (first
        | (go_at_call 19; refine (HR.out _).mono ?_; rintro e w1 ⟨rfl, rfl⟩)
        | (go_at_call 20; refine (HLr.out _).mono ?_; rintro e w1 ⟨rfl, rfl⟩)
        | (go_at_call 21; refine (HW.out _).mono ?_; rintro e w1 ⟨rfl, b1⟩; have K1 := Lib.hid (CBx.of b1); have k0 : w1.cell? ⟨w.heap.size, 0, none⟩ = some (.int .i64 P) := K1.out.row.cell 0; have k1 : w1.cell? ⟨w.heap.size, 1, none⟩ = some (.int .i64 B) := K1.out.row.cell 1; clear b1 HW)
        | fail)
      have HC := Lib.hid (show CBx w 36 (.int .i64 P) (.int .i64 B) w1.drew from K1.out.dn)
      clear k0 k1
      (try dsimp only [List.append_eq, List.cons_append, List.nil_append])
      refine wp_region_class (C := CBx w 36 (.int .i64 P) (.int .i64 B)) (by kernel_rfl) (by kernel_rfl) (by kernel_rfl) HC.out ?_
      clear HC
      repeat
        first
          | go_big_quiet_skip
          | (go_big_quiet_want
             first
               | (apply quiet_enter
                  · intro wz
                    go_simp
                    exact ⟨rfl, rfl⟩
                  · intro wz hz
                    first
                      | (go_at_call 22; refine (HS.out _).mono ?_; rintro e w' ⟨rfl, hbn⟩; exact ⟨rfl, hz.next hbn⟩)
                      | (go_at_call 23; refine (HL.out _).mono ?_; rintro e w' ⟨rfl, hbn⟩; exact ⟨rfl, hz.next hbn⟩)
                      | (go_at_call 24; refine (HT.out _).mono ?_; rintro e w' ⟨rfl, hbn⟩; exact ⟨rfl, hz.next hbn⟩)
                      | (go_at_call 25; refine (HA.out _).mono ?_; rintro e w' ⟨rfl, hbn⟩; exact ⟨rfl, hz.next hbn⟩)
                      | fail)
               | (apply quiet_run
                  · intro wz hz
                    have h0 : wz.cell? ⟨w.heap.size, 0, none⟩ = some (.int .i64 P) := hz.row.cell 0
                    have h1 : wz.cell? ⟨w.heap.size, 1, none⟩ = some (.int .i64 B) := hz.row.cell 1
                    go_simp
                    try with_reducible rfl)
             simp only [Act.put, List.setIfInBounds_toArray, List.set_cons_zero, List.set_cons_succ]
             go_big_quiet_on)
      refine wpQuiet_nil ?_
      intro w5 h5
      have H5 := Lib.hid h5
      have n0 : w5.cell? ⟨w.heap.size, 0, none⟩ = some (.int .i64 P) := h5.row.cell 0
      have n1 : w5.cell? ⟨w.heap.size, 1, none⟩ = some (.int .i64 B) := h5.row.cell 1
      clear h5
      go_wp2_with (first
        | (go_at_call 26; refine (HWr.out _).mono ?_; rintro e w6 ⟨rfl, rfl⟩)
        | (go_at_call 25; refine (HA.out _).mono ?_; rintro e w6 ⟨rfl, b6⟩; have H6 := Lib.hid (H5.out.next b6); clear b6)
        | fail)
      go_ret
      exact ⟨rfl, H6.out.bl⟩
    | some x =>
      rw [show wN (some x) = x from rfl] at HW HWr
      go_enter Try.func5, Try.ntmps5
      go_upto_region 8 with (first
        | (go_at_call 19; refine (HR.out _).mono ?_; rintro e w1 ⟨rfl, rfl⟩)
        | (go_at_call 20; refine (HLr.out _).mono ?_; rintro e w1 ⟨rfl, rfl⟩)
        | (go_at_call 21; refine (HW.out _).mono ?_; rintro e w1 ⟨rfl, b1⟩; have K1 := Lib.hid (CBx.of b1); have k0 : w1.cell? ⟨w.heap.size, 0, none⟩ = some (.int .i64 P) := K1.out.row.cell 0; have k1 : w1.cell? ⟨w.heap.size, 1, none⟩ = some (.int .i64 B) := K1.out.row.cell 1; clear b1 HW)
        | fail)
      have HC := Lib.hid (show CBx w 36 (.int .i64 P) (.int .i64 B) w1.drew from K1.out.dn)
      clear k0 k1
      (try dsimp only [List.append_eq, List.cons_append, List.nil_append])
      refine wp_region_class (C := CBx w 36 (.int .i64 P) (.int .i64 B)) (by kernel_rfl) (by kernel_rfl) (by kernel_rfl) HC.out ?_
      clear HC
      repeat
        first
          | go_big_quiet_skip
          | (go_big_quiet_want
             first
               | (apply quiet_enter
                  · intro wz
                    go_simp
                    exact ⟨rfl, rfl⟩
                  · intro wz hz
                    first
                      | (go_at_call 22; refine (HS.out _).mono ?_; rintro e w' ⟨rfl, hbn⟩; exact ⟨rfl, hz.next hbn⟩)
                      | (go_at_call 23; refine (HL.out _).mono ?_; rintro e w' ⟨rfl, hbn⟩; exact ⟨rfl, hz.next hbn⟩)
                      | (go_at_call 24; refine (HT.out _).mono ?_; rintro e w' ⟨rfl, hbn⟩; exact ⟨rfl, hz.next hbn⟩)
                      | (go_at_call 25; refine (HA.out _).mono ?_; rintro e w' ⟨rfl, hbn⟩; exact ⟨rfl, hz.next hbn⟩)
                      | fail)
               | (apply quiet_run
                  · intro wz hz
                    have h0 : wz.cell? ⟨w.heap.size, 0, none⟩ = some (.int .i64 P) := hz.row.cell 0
                    have h1 : wz.cell? ⟨w.heap.size, 1, none⟩ = some (.int .i64 B) := hz.row.cell 1
                    go_simp
                    try with_reducible rfl)
             simp only [Act.put, List.setIfInBounds_toArray, List.set_cons_zero, List.set_cons_succ]
             go_big_quiet_on)
      refine wpQuiet_nil ?_
      intro w5 h5
      have H5 := Lib.hid h5
      have n0 : w5.cell? ⟨w.heap.size, 0, none⟩ = some (.int .i64 P) := h5.row.cell 0
      have n1 : w5.cell? ⟨w.heap.size, 1, none⟩ = some (.int .i64 B) := h5.row.cell 1
      clear h5
      go_wp2_with (first
        | (go_at_call 26; refine (HWr.out _).mono ?_; rintro e w6 ⟨rfl, rfl⟩)
        | (go_at_call 25; refine (HA.out _).mono ?_; rintro e w6 ⟨rfl, b6⟩; have H6 := Lib.hid (H5.out.next b6); clear b6)
        | fail)
      go_ret
      exact ⟨rfl, H6.out.bl⟩
end Go.Proofs.Ytmaackdfhmpicaa
