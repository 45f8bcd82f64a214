/- The contracts of the chapter's example and of a server as a task; what ServerTurns says. -/
import Derived.Test.YtmaackdfhmpicaaSVD
import Derived.Test.YtmaackdfhmpicaaHeld
namespace Go.Proofs.Ytmaackdfhmpicaa
open Go.RowKit

theorem sv_ex1 : svW 10 4 5 = some 23 := by decide
theorem sv_ex2 : svL 10 4 12 = 0 := by decide
theorem sv_ex3 : svL 10 4 14 = 2 := by decide
set_option maxHeartbeats 1000000 in
theorem l56alive_any (w : World) : Calls Try.prog 25 #[] w fun e w' => e = .returned (.bool true) ∧ Below w.heap.size w w' := by
  have HW := Lib.hid (fun wx => svWithin_any 10 4 5 wx)
  rw [sv_ex1] at HW
  have H1 := Lib.hid (fun wx => svLeast_any (P := 10) (B := 4) (by decide) (t := 12) (by decide) wx)
  have H2 := Lib.hid (fun wx => svLeast_any (P := 10) (B := 4) (by decide) (t := 14) (by decide) wx)
  rw [sv_ex2] at H1
  rw [sv_ex3] at H2
  go_enter Try.func25, Try.ntmps25
  go_wp2_with (first
    | (go_at_call 21; refine (HW.out _).mono ?_; rintro e w1 ⟨rfl, b1⟩; have K1 := Lib.hid (box_of b1); have k0 : w1.cell? ⟨w.heap.size, 0, none⟩ = some (.int .i64 10) := K1.out.2.cell 0; have k1 : w1.cell? ⟨w.heap.size, 1, none⟩ = some (.int .i64 4) := K1.out.2.cell 1; clear b1 HW)
    | (go_at_call 23; refine (H1.out _).mono ?_; rintro e w2 ⟨rfl, b2⟩; have K2 := Lib.hid (BoxOf.next K1.out b2); have m0 : w2.cell? ⟨w.heap.size, 0, none⟩ = some (.int .i64 10) := K2.out.2.cell 0; have m1 : w2.cell? ⟨w.heap.size, 1, none⟩ = some (.int .i64 4) := K2.out.2.cell 1; clear b2 H1 k0 k1)
    | (go_at_call 23; refine (H2.out _).mono ?_; rintro e w3 ⟨rfl, b3⟩; have K3 := Lib.hid (BoxOf.next K2.out b3); clear b3 H2 m0 m1)
    | fail)
  go_ret
  exact ⟨rfl, K3.out.1⟩
theorem svTask_any (P B : Int) (w : World) : Calls Try.prog 24 #[.agg #[.int .i64 P, .int .i64 B]] w fun e w' => e = .returned (.agg #[.int .i64 P, .int .i64 P, .int .i64 B, .int .i64 0, .int .i64 0, .int .i64 0, .int .i64 0, .int .i64 0, .int .i64 0, .int .i64 0, .int .i64 0]) ∧ Below w.heap.size w w' := by
  go_enter Try.func24, Try.ntmps24
  go_wp2
  go_returns
  exact ⟨rfl, ((Below.refl _ _).alloc (Nat.le_refl _) _).alloc (by simp) _⟩
theorem sv_box3 {w : World} {P B : Int} {t : TypeId} : Below w.heap.size w (w.alloc (.cells #[.int .i64 P, .int .i64 B] t)) ∧ RowAt (w.alloc (.cells #[.int .i64 P, .int .i64 B] t)) w.heap.size t #[.int .i64 P, .int .i64 B] :=
  ⟨(Below.refl _ _).alloc (Nat.le_refl _) _, RowAt.mk _ _ _⟩
/-- A box stays, whatever memory is made. -/
structure CBx (w : World) (t : TypeId) (a b : Value) (W : World) : Prop where
  bl : Below w.heap.size w W
  row : RowAt W w.heap.size t #[a, b]
theorem CBx.next {w W W' : World} {t : TypeId} {a b : Value} (h : CBx w t a b W) (hb : Below W.heap.size W W') : CBx w t a b W' := ⟨h.bl.trans (hb.mono h.bl.size), h.row.new hb⟩
theorem CBx.dn {w W : World} {t : TypeId} {a b : Value} (h : CBx w t a b W) : CBx w t a b W.drew := ⟨below_dn h.bl 1, h.row⟩
set_option maxHeartbeats 4000000 in
theorem law_turns (P B v : Int) (w : World) : Calls Try.prog 6 #[.agg #[.int .i64 P, .int .i64 B], .int .i64 v] w fun e w' => e = .returned (.bool true) ∧ Below w.heap.size w w' := by
  have HR := Lib.hid (fun wx => r56Right_any P B wx)
  have HA := Lib.hid (fun wx => l56alive_any wx)
  cases hr : svR P B
  case false =>
    rw [hr] at HR
    clear hr
    go_enter Try.func6, Try.ntmps6
    go_wp2_with (first
      | (go_at_call 19; refine (HR.out _).mono ?_; rintro e w1 ⟨rfl, rfl⟩)
      | fail)
    go_ret
    exact ⟨rfl, (Below.refl _ _).alloc (Nat.le_refl _) _⟩
  case true =>
    rw [hr] at HR
    by_cases c0 : v < 1
    · clear hr
      go_enter Try.func6, Try.ntmps6
      go_wp2_with (first
        | (go_at_call 19; refine (HR.out _).mono ?_; rintro e w1 ⟨rfl, rfl⟩)
        | fail)
      go_ret
      exact ⟨rfl, (Below.refl _ _).alloc (Nat.le_refl _) _⟩
    by_cases c1 : 65536 < v
    · clear hr
      go_enter Try.func6, Try.ntmps6
      go_wp2_with (first
        | (go_at_call 19; refine (HR.out _).mono ?_; rintro e w1 ⟨rfl, rfl⟩)
        | fail)
      go_ret
      exact ⟨rfl, (Below.refl _ _).alloc (Nat.le_refl _) _⟩
    have HW := Lib.hid (fun wx => svWithin_any P B v wx)
    obtain ⟨t1, t2, t3, -⟩ := svT_good hr (show 1 ≤ v by omega)
    have t4 : svW P B v = if 65536 < svT P B v then none else some (svT P B v) := by unfold svW; rw [if_neg (by rw [hr]; simp; omega), if_neg (by omega)]
    rw [t4] at HW
    by_cases hT : 65536 < svT P B v
    · rw [if_pos hT] at HW
      clear hr t1 t2 t3 t4 hT
      go_enter Try.func6, Try.ntmps6
      go_upto_region 4 with (first
        | (go_at_call 19; refine (HR.out _).mono ?_; rintro e w1 ⟨rfl, rfl⟩)
        | (go_at_call 21; refine (HW.out _).mono ?_; rintro e w1 ⟨rfl, b1⟩; have K1 := Lib.hid (box_of b1); have k0 : w1.cell? ⟨w.heap.size, 0, none⟩ = some (.int .i64 P) := K1.out.2.cell 0; have k1 : w1.cell? ⟨w.heap.size, 1, none⟩ = some (.int .i64 B) := K1.out.2.cell 1; clear b1 HW)
        | fail)
      have HC := Lib.hid (show CBx w 36 (.int .i64 P) (.int .i64 B) w1.drew from ⟨below_dn K1.out.1 1, K1.out.2⟩)
      clear k0 k1
      (try dsimp only [List.append_eq, List.cons_append, List.nil_append])
      refine wp_region_class (C := CBx w 36 (.int .i64 P) (.int .i64 B)) (by kernel_rfl) (by kernel_rfl) (by kernel_rfl) HC.out ?_
      clear HC
      repeat
        first
          | go_big_quiet_skip
          | (go_big_quiet_want
             first
               | (apply quiet_enter
                  · intro wz
                    go_simp
                    exact ⟨rfl, rfl⟩
                  · intro wz hz
                    first
                      | (go_at_call 25; refine (HA.out _).mono ?_; rintro e w' ⟨rfl, hbn⟩; exact ⟨rfl, hz.next hbn⟩)
                      | fail)
               | (apply quiet_run
                  · intro wz hz
                    have h0 : wz.cell? ⟨w.heap.size, 0, none⟩ = some (.int .i64 P) := hz.row.cell 0
                    have h1 : wz.cell? ⟨w.heap.size, 1, none⟩ = some (.int .i64 B) := hz.row.cell 1
                    go_simp
                    try with_reducible rfl)
             simp only [Act.put, List.setIfInBounds_toArray, List.set_cons_zero, List.set_cons_succ]
             go_big_quiet_on)
      refine wpQuiet_nil ?_
      intro w5 h5
      go_wp2
      go_ret
      exact ⟨rfl, h5.bl⟩
    · rw [if_neg hT] at HW
      have HL := Lib.hid (fun (t : Int) (ht : t ≤ 1000000) wx => svLeast_any hr ht wx)
      have t5 := svL_mono hr (show svT P B v ≤ svT P B v + 1 by omega)
      obtain ⟨T, hTT⟩ : ∃ T, svT P B v = T := ⟨_, rfl⟩
      rw [hTT] at HW t1 t2 t3 t5 hT
      rw [show wN (some T) = T from rfl] at HW
      have f1 : decide (v ≤ svL P B T) = true := by rw [t1]; simp
      have f2 : decide (svL P B (T - 1) < v) = true := by rw [t2]; simp; omega
      have f3 : decide (svL P B T ≤ svL P B (T + 1)) = true := by simpa using t5
      clear hr t1 t2 t4 hTT
      have f4 : IntKind.i64.wrap (T - 1) = T - 1 := by rw [IntKind.wrap_i64]; omega
      have f5 : IntKind.i64.wrap (T + 1) = T + 1 := by rw [IntKind.wrap_i64]; omega
      clear t5
      go_enter Try.func6, Try.ntmps6
      go_upto_region 4 with (first
        | (go_at_call 19; refine (HR.out _).mono ?_; rintro e w1 ⟨rfl, rfl⟩)
        | (go_at_call 21; refine (HW.out _).mono ?_; rintro e w1 ⟨rfl, b1⟩; have K1 := Lib.hid (box_of b1); have k0 : w1.cell? ⟨w.heap.size, 0, none⟩ = some (.int .i64 P) := K1.out.2.cell 0; have k1 : w1.cell? ⟨w.heap.size, 1, none⟩ = some (.int .i64 B) := K1.out.2.cell 1; clear b1 HW)
        | fail)
      have HC := Lib.hid (show CBx w 36 (.int .i64 P) (.int .i64 B) w1.drew from ⟨below_dn K1.out.1 1, K1.out.2⟩)
      clear k0 k1
      (try dsimp only [List.append_eq, List.cons_append, List.nil_append])
      refine wp_region_class (C := CBx w 36 (.int .i64 P) (.int .i64 B)) (by kernel_rfl) (by kernel_rfl) (by kernel_rfl) HC.out ?_
      clear HC
      repeat
        first
          | go_big_quiet_skip
          | (go_big_quiet_want
             first
               | (apply quiet_enter
                  · intro wz
                    go_simp
                    exact ⟨rfl, rfl⟩
                  · intro wz hz
                    first
                      | (go_at_call 23; refine (HL.out _ (by omega) _).mono ?_; rintro e w' ⟨rfl, hbn⟩; exact ⟨rfl, hz.next hbn⟩)
                      | (go_at_call 25; refine (HA.out _).mono ?_; rintro e w' ⟨rfl, hbn⟩; exact ⟨rfl, hz.next hbn⟩)
                      | fail)
               | (apply quiet_run
                  · intro wz hz
                    have h0 : wz.cell? ⟨w.heap.size, 0, none⟩ = some (.int .i64 P) := hz.row.cell 0
                    have h1 : wz.cell? ⟨w.heap.size, 1, none⟩ = some (.int .i64 B) := hz.row.cell 1
                    go_simp
                    try with_reducible rfl)
             simp only [Act.put, List.setIfInBounds_toArray, List.set_cons_zero, List.set_cons_succ]
             go_big_quiet_on)
      refine wpQuiet_nil ?_
      intro w5 h5
      go_wp2
      go_ret
      exact ⟨rfl, h5.bl⟩
end Go.Proofs.Ytmaackdfhmpicaa
