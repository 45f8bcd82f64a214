/- The contracts of Within on both sides, of the reference's Least, and of the chapter's example. -/
import Derived.Test.YtmaackdfhmpicaaSVB
import Derived.Deep.RegionHeld3
import Derived.IntWalk
namespace Go.Proofs.Ytmaackdfhmpicaa
open Go.RowKit

theorem below_dn' {w w1 : World} {b : Nat} {c : Array Value} {t : TypeId} (h : Below w.heap.size w w1 ∧ RowAt w1 b t c) : Below w.heap.size w w1.drew ∧ RowAt w1.drew b t c := ⟨below_dn h.1 1, h.2⟩
set_option maxHeartbeats 2000000 in
theorem svWithin_any (P B w : Int) (W : World) : Calls Try.prog 21 #[.agg #[.int .i64 P, .int .i64 B], .int .i64 w] W fun e w' => e = .returned (.tuple #[.int .i64 (wN (svW P B w)), .bool (svW P B w).isSome]) ∧ Below W.heap.size W w' := by
  have HR := Lib.hid (fun wx => svRight_any P B wx)
  cases hr : svR P B
  case false =>
    have HE := Lib.hid (show svW P B w = none by simp [svW, hr])
    rw [hr] at HR
    clear hr
    go_enter Try.func21, Try.ntmps21
    go_wp2_with (first
      | (go_at_call 22; refine (HR.out _).mono ?_; rintro e w1 ⟨rfl, b1⟩; have H1 := Lib.hid (box_of b1); clear b1)
      | fail)
    go_ret2
    exact ⟨by rw [HE.out]; rfl, H1.out.1⟩
  case true =>
    rw [hr] at HR
    by_cases c0 : w < 0
    · have HE := Lib.hid (show svW P B w = none by simp [svW, c0])
      clear hr
      go_enter Try.func21, Try.ntmps21
      go_wp2_with (first
        | (go_at_call 22; refine (HR.out _).mono ?_; rintro e w1 ⟨rfl, b1⟩; have H1 := Lib.hid (box_of b1); clear b1)
        | fail)
      go_ret2
      exact ⟨by rw [HE.out]; rfl, H1.out.1⟩
    by_cases c1 : 65536 < w
    · have HE := Lib.hid (show svW P B w = none by simp [svW, c1])
      clear hr
      go_enter Try.func21, Try.ntmps21
      go_wp2_with (first
        | (go_at_call 22; refine (HR.out _).mono ?_; rintro e w1 ⟨rfl, b1⟩; have H1 := Lib.hid (box_of b1); clear b1)
        | fail)
      go_ret2
      exact ⟨by rw [HE.out]; rfl, H1.out.1⟩
    by_cases c2 : w = 0
    · have HE := Lib.hid (show svW P B w = some 0 by simp [svW, hr, c2])
      subst c2
      clear hr
      go_enter Try.func21, Try.ntmps21
      go_wp2_with (first
        | (go_at_call 22; refine (HR.out _).mono ?_; rintro e w1 ⟨rfl, b1⟩; have H1 := Lib.hid (box_of b1); clear b1)
        | fail)
      go_ret2
      exact ⟨by rw [HE.out]; rfl, H1.out.1⟩
    obtain ⟨t1, t2, t3, t4, t5, t6, t7, t8, t9⟩ := svT_good hr (show 1 ≤ w by omega)
    obtain ⟨hB, hP, hM⟩ := svR_iff.1 hr
    have HG := Lib.hid (fun wx => svgap_any hr wx)
    have HT := Lib.hid (show svT P B w = 2 * (P - B) + (w - 1) / B * P + w - (w - 1) / B * B from rfl)
    have HE := Lib.hid (show svW P B w = if 65536 < svT P B w then none else some (svT P B w) by unfold svW; rw [if_neg (by rw [hr]; simp; omega), if_neg c2])
    obtain ⟨g, hg⟩ : ∃ g, 2 * (P - B) = g := ⟨_, rfl⟩
    have g0 : 0 ≤ g ∧ g ≤ 8192 := by omega
    rw [hg] at HG HT
    obtain ⟨T, hT⟩ : ∃ T, svT P B w = T := ⟨_, rfl⟩
    rw [hT] at HT HE
    have hb : ¬ B = 0 := by omega
    have HQ := Lib.hid (show (w - 1).tdiv B = (w - 1) / B from Int.tdiv_eq_ediv_of_nonneg (by omega))
    obtain ⟨q, hq⟩ : ∃ q, (w - 1) / B = q := ⟨_, rfl⟩
    rw [hq] at HT HQ t4 t5 t6 t7 t8 t9
    clear hr t1 t2 t3 hT hg
    have hT1 := Lib.hid (show 0 ≤ T ∧ T ≤ 1000000000 by have := HT.out; omega)
    have hqq := Lib.hid hq
    clear hq
    have v1 : IntKind.i64.wrap (q * P) = q * P := by rw [IntKind.wrap_i64]; omega
    have v2 : IntKind.i64.wrap (g + q * P) = g + q * P := by rw [IntKind.wrap_i64]; omega
    have v3 : IntKind.i64.wrap (g + q * P + w) = g + q * P + w := by rw [IntKind.wrap_i64]; omega
    have v4 : IntKind.i64.wrap (q * B) = q * B := by rw [IntKind.wrap_i64]; omega
    have v5 : IntKind.i64.wrap (g + q * P + w - q * B) = T := by rw [HT.out, IntKind.wrap_i64]; omega
    clear t4 t5 t6 t7 t8 t9
    go_enter Try.func21, Try.ntmps21
    go_upto_region 6 with (first
      | (go_at_call 22; refine (HR.out _).mono ?_; rintro e w1 ⟨rfl, b1⟩; have H1 := Lib.hid (box_of b1); have k0 : w1.cell? ⟨W.heap.size, 0, none⟩ = some (.int .i64 P) := H1.out.2.cell 0; have k1 : w1.cell? ⟨W.heap.size, 1, none⟩ = some (.int .i64 B) := H1.out.2.cell 1; clear b1)
      | fail)
    rw [hqq.out]
    go_region_held3 (fun w' => w'.cell? ⟨W.heap.size, 0, none⟩ = some (.int .i64 P) ∧ w'.cell? ⟨W.heap.size, 1, none⟩ = some (.int .i64 B)) (first | exact ⟨n0, n1⟩ | exact ⟨k0, k1⟩ | go_keep)
      (first
        | (go_at_call 43; refine (HG.out _).mono ?_; rintro e w2 ⟨rfl, b2⟩; have H2 := Lib.hid (BoxOf.next (below_dn' H1.out) b2); have n0 : w2.cell? ⟨W.heap.size, 0, none⟩ = some (.int .i64 P) := H2.out.2.cell 0; have n1 : w2.cell? ⟨W.heap.size, 1, none⟩ = some (.int .i64 B) := H2.out.2.cell 1; clear b2)
        | fail)
    clear v1 v2 v3 v4 v5
    by_cases hc : 65536 < T
    · rw [if_pos hc] at HE
      go_wp2
      go_ret2
      exact ⟨by rw [HE.out]; rfl, H2.out.1⟩
    · rw [if_neg hc] at HE
      go_wp2
      go_ret2
      exact ⟨by rw [HE.out]; rfl, H2.out.1⟩
set_option maxHeartbeats 1000000 in
theorem r56gets_any {P B : Int} (h : svR P B = true) (t : Nat) (ht : t ≤ 100000) (w : World) : Calls Try.prog 42 #[.int .i64 P, .int .i64 B, .int .i64 t] w fun e w' => e = .returned (.bool (svG P B t)) ∧ w = w' := by
  obtain ⟨hB, hP, hM⟩ := svR_iff.1 h
  have hz : ¬ P = 0 := by omega
  have hz2 : 0 < P := by omega
  by_cases hc : 2 * (P - B) ≤ (t : Int)
  · have HE := Lib.hid (show svG P B t = decide (((t : Int) - 2 * (P - B)) % P < B) by simp [svG, hc])
    obtain ⟨g, hg⟩ : ∃ g, 2 * (P - B) = g := ⟨_, rfl⟩
    rw [hg] at HE hc
    have HG := Lib.hid hg
    have g0 : 0 ≤ g ∧ g ≤ 8192 := by omega
    have hg1 : IntKind.i64.wrap (2 * (P - B)) = g := by rw [hg, IntKind.wrap_i64]; omega
    clear h hg
    by_cases hd : ((t : Int) - g) % P < B
    · rw [decide_eq_true hd] at HE
      go_enter Try.func42, Try.ntmps42
      go_wp2
      go_ret
      exact ⟨by rw [HE.out]; rfl, rfl⟩
    · rw [decide_eq_false hd] at HE
      go_enter Try.func42, Try.ntmps42
      go_wp2
      go_ret
      exact ⟨by rw [HE.out]; rfl, rfl⟩
  · have HE := Lib.hid (show svG P B t = false by simp [svG, hc])
    clear h
    go_enter Try.func42, Try.ntmps42
    go_wp2
    go_ret
    exact ⟨by rw [HE.out]; rfl, rfl⟩
end Go.Proofs.Ytmaackdfhmpicaa
