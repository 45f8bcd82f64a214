/- CheckDivides returns true for every three numbers: check's Common is the greatest common divisor, and Multiple the least common multiple. No condition. -/
import Derived.Test.YtnmejabmnapmpaaRows
import Derived.WalkKit
import Derived.ProofKit
import Derived.OpenShut
import Derived.Test.YtnmejabmnapmpaaGcd
namespace Go.Proofs.Ytnmejabmnapmpaa.CheckDivides
open Go.ChangeShapes Go.WideShapes Go.ChangeAt Go.RowKit
set_option linter.unusedVariables false      -- a walk need not use every 'w<i>' (that an integer argument fits its kind)

theorem own : ownKnob Try.prog.godebug = none := by kernel_rfl

/-! ### STEP 1: THE WALK: the Go text returns true. 'Grown w w'': the world has at most new blocks (Derived/RowKit3.lean). Part the cases AHEAD of 'go_enter' where a test parts the walk; take each callee by a contract of your own. -/
/-- The greatest common divisor's facts, for two numbers above 0. -/
theorem facts {a b : Int} (ha : 0 < a) (hb : 0 < b) (ha' : a ≤ 1048576) (hb' : b ≤ 1048576) :
    comB a b = true ∧ mupB a b = true ∧ 1 ≤ comN a b ∧ comN a b ≤ 1048576 ∧ divB (comN a b) a = true ∧ divB (comN a b) b = true ∧ mupN a b = a / comN a b * b ∧ 1 ≤ mupN a b ∧ mupN a b ≤ 1099511627776 ∧ mupN a b * comN a b = a * b
    ∧ (∀ d : Int, 1 ≤ d → a % d = 0 → b % d = 0 → comN a b % d = 0) := by
  have na := numB_t (a := a) (by omega) (by omega)
  have nb := numB_t (a := b) (by omega) (by omega)
  have hc : comB a b = true := by simp [comB, na, nb]
  obtain ⟨g1, g2, g3⟩ := com_pos hc (by omega)
  have hg : comN a b = (Nat.gcd a.toNat b.toNat : Int) := by simp [comN, na, nb]
  obtain ⟨x, rfl⟩ := Int.eq_ofNat_of_zero_le (Int.le_of_lt ha)
  obtain ⟨y, rfl⟩ := Int.eq_ofNat_of_zero_le (Int.le_of_lt hb)
  simp only [Int.toNat_natCast] at hg
  have da : comN x y ∣ (x : Int) := by rw [hg]; exact Int.natCast_dvd_natCast.2 (Nat.gcd_dvd_left x y)
  have db : comN x y ∣ (y : Int) := by rw [hg]; exact Int.natCast_dvd_natCast.2 (Nat.gcd_dvd_right x y)
  have e0 : (comN x y == 0) = false := by simp; omega
  have va : divB (comN x y) x = true := by simp [divB, e0, Int.emod_eq_zero_of_dvd da]
  have vb : divB (comN x y) y = true := by simp [divB, e0, Int.emod_eq_zero_of_dvd db]
  have q := quo_bds (a := (x : Int)) (b := comN x y) (by omega) (by omega)
  obtain ⟨q1, q2, q3, q4, q5⟩ := q
  have qm : (x : Int) / comN x y * comN x y = x := Int.ediv_mul_cancel da
  have qp : 1 ≤ (x : Int) / comN x y := by
    by_cases h : (x : Int) / comN x y = 0
    · rw [h] at qm; omega
    · omega
  have m1 : 0 ≤ (x : Int) / comN x y * y := Int.mul_nonneg q1 (by omega)
  have m2 : (x : Int) / comN x y * y ≤ 1048576 * 1048576 := Int.mul_le_mul (by omega) (by omega) (by omega) (by omega)
  have m3 : 1 * 1 ≤ (x : Int) / comN x y * y := Int.mul_le_mul qp (by omega) (by omega) (by omega)
  have nq := numB_t (a := (x : Int) / comN x y) (by omega) (by omega)
  have nm := numB_t (a := (x : Int) / comN x y * y) (by omega) (by omega)
  have ea : ((x : Int) == 0) = false := by simp; omega
  have eb : ((y : Int) == 0) = false := by simp; omega
  have hm : mupN x y = (x : Int) / comN x y * y := by simp only [mupN, mulN, hc, ea, eb, nq, nb, nm]; rfl
  have hB : mupB x y = true := by simp only [mupB, mulB, hc, ea, eb, nq, nb, nm]; rfl
  refine ⟨hc, hB, g1, by omega, va, vb, hm, by omega, by omega, ?_, ?_⟩
  · rw [hm, Int.mul_right_comm, qm]
  · intro d hd h1 h2
    rw [hg]
    exact Int.emod_eq_zero_of_dvd (Int.dvd_coe_gcd (Int.dvd_of_emod_eq_zero h1) (Int.dvd_of_emod_eq_zero h2))

theorem out0 {a b : Int} (h : a < 0 ∨ b < 0 ∨ 1099511627776 < a ∨ 1099511627776 < b) : comB a b = false ∧ comN a b = 0 ∧ mupB a b = false ∧ mupN a b = 0 := by
  have hc : comB a b = false := by
    unfold comB
    rcases numB_cases a with ⟨h1, h2, h3⟩ | ⟨h1, h2⟩
    · rcases numB_cases b with ⟨h4, h5, h6⟩ | ⟨h4, h5⟩
      · omega
      · rw [h1, h4]; rfl
    · rw [h1]; rfl
  exact ⟨hc, by unfold comB at hc; simp [comN, hc], by simp [mupB, hc], by simp [mupN, hc]⟩

theorem walk_out0 (a0 : Int) (a1 : Int) (a2 : Int) (w2 : (Lit.int .i64 a2).wf = true) (w : World) (h : a0 < 0) :
    Calls Try.prog 5 #[.int .i64 a0, .int .i64 a1, .int .i64 a2] w fun e w' => e = .returned (.bool true) ∧ Grown w w' := by
  obtain ⟨c1, c2, c3, c4⟩ := out0 (a := a0) (b := a1) (by omega)
  go_enter Try.func5, Try.ntmps5
  go_wp2_with (first | (go_at_call 19; refine (common_any _ _ _).mono ?_; rintro e w' ⟨rfl, hd1⟩) | (go_at_call 20; refine (multiple_any _ _ _).mono ?_; rintro e w' ⟨rfl, hd2⟩) | (go_at_call 21; refine (divides_any _ _ _ (by omega) (by omega)).mono ?_; rintro e w' ⟨rfl, rfl⟩) | (go_at_call 14; refine (alive_any _).mono ?_; rintro e w' ⟨rfl, hd3⟩))
  go_ret
  exact ⟨rfl, ((hd1.trans hd2).trans hd3).grown⟩

theorem walk_out1 (a0 : Int) (a1 : Int) (a2 : Int) (w2 : (Lit.int .i64 a2).wf = true) (w : World) (h0 : 0 ≤ a0) (h : a1 < 0) :
    Calls Try.prog 5 #[.int .i64 a0, .int .i64 a1, .int .i64 a2] w fun e w' => e = .returned (.bool true) ∧ Grown w w' := by
  obtain ⟨c1, c2, c3, c4⟩ := out0 (a := a0) (b := a1) (by omega)
  go_enter Try.func5, Try.ntmps5
  go_wp2_with (first | (go_at_call 19; refine (common_any _ _ _).mono ?_; rintro e w' ⟨rfl, hd1⟩) | (go_at_call 20; refine (multiple_any _ _ _).mono ?_; rintro e w' ⟨rfl, hd2⟩) | (go_at_call 21; refine (divides_any _ _ _ (by omega) (by omega)).mono ?_; rintro e w' ⟨rfl, rfl⟩) | (go_at_call 14; refine (alive_any _).mono ?_; rintro e w' ⟨rfl, hd3⟩))
  go_ret
  exact ⟨rfl, ((hd1.trans hd2).trans hd3).grown⟩

theorem walk_out2 (a0 : Int) (a1 : Int) (a2 : Int) (w2 : (Lit.int .i64 a2).wf = true) (w : World) (h0 : 0 ≤ a0) (h1 : 0 ≤ a1) (h : 1099511627776 < a0) :
    Calls Try.prog 5 #[.int .i64 a0, .int .i64 a1, .int .i64 a2] w fun e w' => e = .returned (.bool true) ∧ Grown w w' := by
  obtain ⟨c1, c2, c3, c4⟩ := out0 (a := a0) (b := a1) (by omega)
  go_enter Try.func5, Try.ntmps5
  go_wp2_with (first | (go_at_call 19; refine (common_any _ _ _).mono ?_; rintro e w' ⟨rfl, hd1⟩) | (go_at_call 20; refine (multiple_any _ _ _).mono ?_; rintro e w' ⟨rfl, hd2⟩) | (go_at_call 21; refine (divides_any _ _ _ (by omega) (by omega)).mono ?_; rintro e w' ⟨rfl, rfl⟩) | (go_at_call 14; refine (alive_any _).mono ?_; rintro e w' ⟨rfl, hd3⟩))
  go_ret
  exact ⟨rfl, ((hd1.trans hd2).trans hd3).grown⟩

theorem walk_out3 (a0 : Int) (a1 : Int) (a2 : Int) (w2 : (Lit.int .i64 a2).wf = true) (w : World) (h0 : 0 ≤ a0) (h1 : 0 ≤ a1) (h2 : a0 ≤ 1099511627776) (h : 1099511627776 < a1) :
    Calls Try.prog 5 #[.int .i64 a0, .int .i64 a1, .int .i64 a2] w fun e w' => e = .returned (.bool true) ∧ Grown w w' := by
  obtain ⟨c1, c2, c3, c4⟩ := out0 (a := a0) (b := a1) (by omega)
  go_enter Try.func5, Try.ntmps5
  go_wp2_with (first | (go_at_call 19; refine (common_any _ _ _).mono ?_; rintro e w' ⟨rfl, hd1⟩) | (go_at_call 20; refine (multiple_any _ _ _).mono ?_; rintro e w' ⟨rfl, hd2⟩) | (go_at_call 21; refine (divides_any _ _ _ (by omega) (by omega)).mono ?_; rintro e w' ⟨rfl, rfl⟩) | (go_at_call 14; refine (alive_any _).mono ?_; rintro e w' ⟨rfl, hd3⟩))
  go_ret
  exact ⟨rfl, ((hd1.trans hd2).trans hd3).grown⟩

theorem walk_big0 (a0 : Int) (a1 : Int) (a2 : Int) (w2 : (Lit.int .i64 a2).wf = true) (w : World) (h0 : 0 ≤ a0) (h1 : 0 ≤ a1) (h2 : a0 ≤ 1099511627776) (h3 : a1 ≤ 1099511627776) (h : 1048576 < a0) :
    Calls Try.prog 5 #[.int .i64 a0, .int .i64 a1, .int .i64 a2] w fun e w' => e = .returned (.bool true) ∧ Grown w w' := by
  go_enter Try.func5, Try.ntmps5
  go_wp2_with (first | (go_at_call 19; refine (common_any _ _ _).mono ?_; rintro e w' ⟨rfl, hd1⟩) | (go_at_call 20; refine (multiple_any _ _ _).mono ?_; rintro e w' ⟨rfl, hd2⟩) | (go_at_call 21; refine (divides_any _ _ _ (by omega) (by omega)).mono ?_; rintro e w' ⟨rfl, rfl⟩) | (go_at_call 14; refine (alive_any _).mono ?_; rintro e w' ⟨rfl, hd3⟩))
  go_ret
  exact ⟨rfl, (hd1.trans hd2).grown⟩

theorem walk_big1 (a0 : Int) (a1 : Int) (a2 : Int) (w2 : (Lit.int .i64 a2).wf = true) (w : World) (h0 : 0 ≤ a0) (h1 : 0 ≤ a1) (h2 : a0 ≤ 1099511627776) (h3 : a1 ≤ 1099511627776) (h4 : a0 ≤ 1048576) (h : 1048576 < a1) :
    Calls Try.prog 5 #[.int .i64 a0, .int .i64 a1, .int .i64 a2] w fun e w' => e = .returned (.bool true) ∧ Grown w w' := by
  go_enter Try.func5, Try.ntmps5
  go_wp2_with (first | (go_at_call 19; refine (common_any _ _ _).mono ?_; rintro e w' ⟨rfl, hd1⟩) | (go_at_call 20; refine (multiple_any _ _ _).mono ?_; rintro e w' ⟨rfl, hd2⟩) | (go_at_call 21; refine (divides_any _ _ _ (by omega) (by omega)).mono ?_; rintro e w' ⟨rfl, rfl⟩) | (go_at_call 14; refine (alive_any _).mono ?_; rintro e w' ⟨rfl, hd3⟩))
  go_ret
  exact ⟨rfl, (hd1.trans hd2).grown⟩


theorem zero_left {b : Int} (hb : 0 ≤ b) (hb' : b ≤ 1048576) : comB 0 b = true ∧ comN 0 b = b ∧ mupB 0 b = false ∧ mupN 0 b = 0 ∧ divB b 0 = true ∧ divB b b = true := by
  have n0 := numB_t (a := 0) (by omega) (by omega)
  have nb := numB_t (a := b) (by omega) (by omega)
  refine ⟨by simp [comB, n0, nb], by simp [comN, n0, nb]; omega, by simp [mupB], by simp [mupN], ?_, ?_⟩
  · by_cases h : b = 0 <;> simp [divB, h]
  · by_cases h : b = 0 <;> simp [divB, h]
theorem zero_right {a : Int} (hb : 0 ≤ a) (hb' : a ≤ 1048576) : comB a 0 = true ∧ comN a 0 = a ∧ mupB a 0 = false ∧ mupN a 0 = 0 ∧ divB a 0 = true ∧ divB a a = true := by
  have n0 := numB_t (a := 0) (by omega) (by omega)
  have nb := numB_t (a := a) (by omega) (by omega)
  refine ⟨by simp [comB, n0, nb], by simp [comN, n0, nb]; omega, by simp [mupB], by simp [mupN], ?_, ?_⟩
  · by_cases h : a = 0 <;> simp [divB, h]
  · by_cases h : a = 0 <;> simp [divB, h]
theorem walk_zl (a0 : Int) (a1 : Int) (a2 : Int) (w2 : (Lit.int .i64 a2).wf = true) (w : World) (h1 : 0 ≤ a1) (h2 : a1 ≤ 1048576) (hz : a0 = 0) :
    Calls Try.prog 5 #[.int .i64 a0, .int .i64 a1, .int .i64 a2] w fun e w' => e = .returned (.bool true) ∧ Grown w w' := by
  subst hz
  obtain ⟨c1, c2, c3, c4, c5, c6⟩ := zero_left h1 h2
  go_enter Try.func5, Try.ntmps5
  go_wp2_with (first | (go_at_call 19; refine (common_any _ _ _).mono ?_; rintro e w' ⟨rfl, hd1⟩) | (go_at_call 20; refine (multiple_any _ _ _).mono ?_; rintro e w' ⟨rfl, hd2⟩) | (go_at_call 21; refine (divides_any _ _ _ (by omega) (by omega)).mono ?_; rintro e w' ⟨rfl, rfl⟩) | (go_at_call 14; refine (alive_any _).mono ?_; rintro e w' ⟨rfl, hd3⟩))
  go_ret
  exact ⟨rfl, ((hd1.trans hd2).trans hd3).grown⟩

theorem walk_zr (a0 : Int) (a1 : Int) (a2 : Int) (w2 : (Lit.int .i64 a2).wf = true) (w : World) (h0 : 0 < a0) (h2 : a0 ≤ 1048576) (hz : a1 = 0) :
    Calls Try.prog 5 #[.int .i64 a0, .int .i64 a1, .int .i64 a2] w fun e w' => e = .returned (.bool true) ∧ Grown w w' := by
  subst hz
  have ea : (a0 == 0) = false := by simp; omega
  have ea' : (a0 != 0) = true := by simp; omega
  obtain ⟨c1, c2, c3, c4, c5, c6⟩ := zero_right (a := a0) (by omega) h2
  go_enter Try.func5, Try.ntmps5
  go_wp2_with (first | (go_at_call 19; refine (common_any _ _ _).mono ?_; rintro e w' ⟨rfl, hd1⟩) | (go_at_call 20; refine (multiple_any _ _ _).mono ?_; rintro e w' ⟨rfl, hd2⟩) | (go_at_call 21; refine (divides_any _ _ _ (by omega) (by omega)).mono ?_; rintro e w' ⟨rfl, rfl⟩) | (go_at_call 14; refine (alive_any _).mono ?_; rintro e w' ⟨rfl, hd3⟩))
  go_ret
  exact ⟨rfl, ((hd1.trans hd2).trans hd3).grown⟩

theorem walk_pos0 (a0 : Int) (a1 : Int) (a2 : Int) (w2 : (Lit.int .i64 a2).wf = true) (w : World) (h0 : 0 < a0) (h1 : 0 < a1) (h2 : a0 ≤ 1048576) (h3 : a1 ≤ 1048576) (hd : a2 < 1) :
    Calls Try.prog 5 #[.int .i64 a0, .int .i64 a1, .int .i64 a2] w fun e w' => e = .returned (.bool true) ∧ Grown w w' := by
  have ea : (a0 == 0) = false := by simp; omega
  have ea' : (a0 != 0) = true := by simp; omega
  have eb : (a1 == 0) = false := by simp; omega
  have eb' : (a1 != 0) = true := by simp; omega
  obtain ⟨c1, c2, g1, g2, v1, v2, -, m1, m2, mg, dv⟩ := facts h0 h1 h2 h3
  have p0 : 1 * 1 ≤ a0 * a1 := Int.mul_le_mul h0 h1 (by omega) (by omega)
  have p1 : a0 * a1 ≤ 1048576 * 1048576 := Int.mul_le_mul h2 h3 (by omega) (by omega)
  have mg' : (mupN a0 a1 * comN a0 a1 == a0 * a1) = true := by simp [mg]
  have mgb : mupN a0 a1 * comN a0 a1 ≤ 1048576 * 1048576 := by omega
  have mgc : 0 ≤ mupN a0 a1 * comN a0 a1 := by omega
  clear mg dv
  go_enter Try.func5, Try.ntmps5
  go_wp2_with (first | (go_at_call 19; refine (common_any _ _ _).mono ?_; rintro e w' ⟨rfl, hd1⟩) | (go_at_call 20; refine (multiple_any _ _ _).mono ?_; rintro e w' ⟨rfl, hd2⟩) | (go_at_call 21; refine (divides_any _ _ _ (by omega) (by omega)).mono ?_; rintro e w' ⟨rfl, rfl⟩) | (go_at_call 14; refine (alive_any _).mono ?_; rintro e w' ⟨rfl, hd3⟩))
  go_ret
  exact ⟨rfl, ((hd1.trans hd2).trans hd3).grown⟩

theorem walk_pos1 (a0 : Int) (a1 : Int) (a2 : Int) (w2 : (Lit.int .i64 a2).wf = true) (w : World) (h0 : 0 < a0) (h1 : 0 < a1) (h2 : a0 ≤ 1048576) (h3 : a1 ≤ 1048576) (hd : 1 ≤ a2) (hda : a0 % a2 ≠ 0) :
    Calls Try.prog 5 #[.int .i64 a0, .int .i64 a1, .int .i64 a2] w fun e w' => e = .returned (.bool true) ∧ Grown w w' := by
  have ea : (a0 == 0) = false := by simp; omega
  have ea' : (a0 != 0) = true := by simp; omega
  have eb : (a1 == 0) = false := by simp; omega
  have eb' : (a1 != 0) = true := by simp; omega
  obtain ⟨c1, c2, g1, g2, v1, v2, -, m1, m2, mg, dv⟩ := facts h0 h1 h2 h3
  have p0 : 1 * 1 ≤ a0 * a1 := Int.mul_le_mul h0 h1 (by omega) (by omega)
  have p1 : a0 * a1 ≤ 1048576 * 1048576 := Int.mul_le_mul h2 h3 (by omega) (by omega)
  have mg' : (mupN a0 a1 * comN a0 a1 == a0 * a1) = true := by simp [mg]
  have mgb : mupN a0 a1 * comN a0 a1 ≤ 1048576 * 1048576 := by omega
  have mgc : 0 ≤ mupN a0 a1 * comN a0 a1 := by omega
  have f1 : (a0 % a2 == 0) = false := by simp [hda]
  have f2 : (a0 % a2 != 0) = true := by simp [hda]
  clear mg dv
  go_enter Try.func5, Try.ntmps5
  go_wp2_with (first | (go_at_call 19; refine (common_any _ _ _).mono ?_; rintro e w' ⟨rfl, hd1⟩) | (go_at_call 20; refine (multiple_any _ _ _).mono ?_; rintro e w' ⟨rfl, hd2⟩) | (go_at_call 21; refine (divides_any _ _ _ (by omega) (by omega)).mono ?_; rintro e w' ⟨rfl, rfl⟩) | (go_at_call 14; refine (alive_any _).mono ?_; rintro e w' ⟨rfl, hd3⟩))
  go_ret
  exact ⟨rfl, ((hd1.trans hd2).trans hd3).grown⟩

theorem walk_pos2 (a0 : Int) (a1 : Int) (a2 : Int) (w2 : (Lit.int .i64 a2).wf = true) (w : World) (h0 : 0 < a0) (h1 : 0 < a1) (h2 : a0 ≤ 1048576) (h3 : a1 ≤ 1048576) (hd : 1 ≤ a2) (hda : a0 % a2 = 0) (hdb : a1 % a2 ≠ 0) :
    Calls Try.prog 5 #[.int .i64 a0, .int .i64 a1, .int .i64 a2] w fun e w' => e = .returned (.bool true) ∧ Grown w w' := by
  have ea : (a0 == 0) = false := by simp; omega
  have ea' : (a0 != 0) = true := by simp; omega
  have eb : (a1 == 0) = false := by simp; omega
  have eb' : (a1 != 0) = true := by simp; omega
  obtain ⟨c1, c2, g1, g2, v1, v2, -, m1, m2, mg, dv⟩ := facts h0 h1 h2 h3
  have p0 : 1 * 1 ≤ a0 * a1 := Int.mul_le_mul h0 h1 (by omega) (by omega)
  have p1 : a0 * a1 ≤ 1048576 * 1048576 := Int.mul_le_mul h2 h3 (by omega) (by omega)
  have mg' : (mupN a0 a1 * comN a0 a1 == a0 * a1) = true := by simp [mg]
  have mgb : mupN a0 a1 * comN a0 a1 ≤ 1048576 * 1048576 := by omega
  have mgc : 0 ≤ mupN a0 a1 * comN a0 a1 := by omega
  have f1 : (a0 % a2 == 0) = true := by simp [hda]
  have f2 : (a0 % a2 != 0) = false := by simp [hda]
  have f3 : (a1 % a2 == 0) = false := by simp [hdb]
  have f4 : (a1 % a2 != 0) = true := by simp [hdb]
  clear hda
  clear mg dv
  go_enter Try.func5, Try.ntmps5
  go_wp2_with (first | (go_at_call 19; refine (common_any _ _ _).mono ?_; rintro e w' ⟨rfl, hd1⟩) | (go_at_call 20; refine (multiple_any _ _ _).mono ?_; rintro e w' ⟨rfl, hd2⟩) | (go_at_call 21; refine (divides_any _ _ _ (by omega) (by omega)).mono ?_; rintro e w' ⟨rfl, rfl⟩) | (go_at_call 14; refine (alive_any _).mono ?_; rintro e w' ⟨rfl, hd3⟩))
  go_ret
  exact ⟨rfl, ((hd1.trans hd2).trans hd3).grown⟩

theorem walk_pos3 (a0 : Int) (a1 : Int) (a2 : Int) (w2 : (Lit.int .i64 a2).wf = true) (w : World) (h0 : 0 < a0) (h1 : 0 < a1) (h2 : a0 ≤ 1048576) (h3 : a1 ≤ 1048576) (hd : 1 ≤ a2) (hda : a0 % a2 = 0) (hdb : a1 % a2 = 0) :
    Calls Try.prog 5 #[.int .i64 a0, .int .i64 a1, .int .i64 a2] w fun e w' => e = .returned (.bool true) ∧ Grown w w' := by
  have ea : (a0 == 0) = false := by simp; omega
  have ea' : (a0 != 0) = true := by simp; omega
  have eb : (a1 == 0) = false := by simp; omega
  have eb' : (a1 != 0) = true := by simp; omega
  obtain ⟨c1, c2, g1, g2, v1, v2, -, m1, m2, mg, dv⟩ := facts h0 h1 h2 h3
  have p0 : 1 * 1 ≤ a0 * a1 := Int.mul_le_mul h0 h1 (by omega) (by omega)
  have p1 : a0 * a1 ≤ 1048576 * 1048576 := Int.mul_le_mul h2 h3 (by omega) (by omega)
  have mg' : (mupN a0 a1 * comN a0 a1 == a0 * a1) = true := by simp [mg]
  have mgb : mupN a0 a1 * comN a0 a1 ≤ 1048576 * 1048576 := by omega
  have mgc : 0 ≤ mupN a0 a1 * comN a0 a1 := by omega
  have f1 : (a0 % a2 == 0) = true := by simp [hda]
  have f2 : (a0 % a2 != 0) = false := by simp [hda]
  have f3 : (a1 % a2 == 0) = true := by simp [hdb]
  have f4 : (a1 % a2 != 0) = false := by simp [hdb]
  have f5 : (comN a0 a1 % a2 == 0) = true := by simp [dv a2 hd hda hdb]
  clear hda hdb
  clear mg dv
  go_enter Try.func5, Try.ntmps5
  go_wp2_with (first | (go_at_call 19; refine (common_any _ _ _).mono ?_; rintro e w' ⟨rfl, hd1⟩) | (go_at_call 20; refine (multiple_any _ _ _).mono ?_; rintro e w' ⟨rfl, hd2⟩) | (go_at_call 21; refine (divides_any _ _ _ (by omega) (by omega)).mono ?_; rintro e w' ⟨rfl, rfl⟩) | (go_at_call 14; refine (alive_any _).mono ?_; rintro e w' ⟨rfl, hd3⟩))
  go_ret
  exact ⟨rfl, ((hd1.trans hd2).trans hd3).grown⟩

theorem walk (a0 : Int) (a1 : Int) (a2 : Int) (w0 : (Lit.int .i64 a0).wf = true) (w1 : (Lit.int .i64 a1).wf = true) (w2 : (Lit.int .i64 a2).wf = true) (w : World) :
    Calls Try.prog 5 #[.int .i64 a0, .int .i64 a1, .int .i64 a2] w fun e w' => e = .returned (.bool true) ∧ Grown w w' := by
  rcases Int.lt_or_le a0 0 with h | h0
  · exact walk_out0 a0 a1 a2 w2 w h
  rcases Int.lt_or_le a1 0 with h | h1
  · exact walk_out1 a0 a1 a2 w2 w h0 h
  rcases Int.lt_or_le 1099511627776 a0 with h | h2
  · exact walk_out2 a0 a1 a2 w2 w h0 h1 h
  rcases Int.lt_or_le 1099511627776 a1 with h | h3
  · exact walk_out3 a0 a1 a2 w2 w h0 h1 h2 h
  rcases Int.lt_or_le 1048576 a0 with h | h4
  · exact walk_big0 a0 a1 a2 w2 w h0 h1 h2 h3 h
  rcases Int.lt_or_le 1048576 a1 with h | h5
  · exact walk_big1 a0 a1 a2 w2 w h0 h1 h2 h3 h4 h
  by_cases hz : a0 = 0
  · exact walk_zl a0 a1 a2 w2 w h1 h5 hz
  by_cases hz' : a1 = 0
  · exact walk_zr a0 a1 a2 w2 w (by omega) h4 hz'
  rcases Int.lt_or_le a2 1 with h | hd
  · exact walk_pos0 a0 a1 a2 w2 w (by omega) (by omega) h4 h5 h
  by_cases hda : a0 % a2 = 0
  · by_cases hdb : a1 % a2 = 0
    · exact walk_pos3 a0 a1 a2 w2 w (by omega) (by omega) h4 h5 hd hda hdb
    · exact walk_pos2 a0 a1 a2 w2 w (by omega) (by omega) h4 h5 hd hda hdb
  · exact walk_pos1 a0 a1 a2 w2 w (by omega) (by omega) h4 h5 hd hda

/-! ### THE ROW's STEP: WRITTEN OUT: LEAVE IT -/
set_option maxRecDepth 100000 in
theorem lifted (os : Os) (started : os.Started) (H : Type) (enc : TypeId × Value → H) :
    ReturnsInHanded {} Try.checked os 5 .any (Rows.checkDividesSpec.pre6 enc Try.prog Try.f5 Rows.checkDividesRow.domain false) (Rows.checkDividesSpec.post enc Try.prog Try.f5 false true false false) := by
  refine returnsInHanded_of_change (C := Try.checked) own started (by kernel_rfl) Try.func5
    (ChangeSpec.witness6 (enc := enc) (C := Try.checked) false ⟨#[], #[.int .i64 0, .int .i64 0, .int .i64 0], []⟩ 8 (by kernel_rfl) (by kernel_rfl) (by kernel_rfl) (by kernel_rfl)) ?_
  intro W base args ds gs before hval0 hW hcnd _
  have hval : ∀ (j : Nat) t v, Try.f5.params[j]? = some t → args[j]? = some v → Value.okWide Try.prog W .any base t v := hval0
  have hW' := hW
  obtain ⟨p, q, hA0, hV, rfl, hfz, hnd⟩ := hW
  have hA : DataW.TrodAll enc Try.prog W 0 (fun _ => true) true Try.f5.params.toList args.toList ds p := hA0
  rw [Try.params5] at hA hval
  obtain ⟨v0, vs0, d0, ds0, p0, q0, hargs, rfl, rfl, h0, r0⟩ := trodAll_cons hA
  obtain ⟨v1, vs1, d1, ds1, p1, q1, rfl, rfl, rfl, h1, r1⟩ := trodAll_cons r0
  obtain ⟨v2, vs2, d2, ds2, p2, q2, rfl, rfl, rfl, h2, r2⟩ := trodAll_cons r1
  obtain ⟨rfl, rfl, rfl⟩ := trodAll_nil r2
  obtain rfl : args = #[v0, v1, v2] := by cases args; simp_all
  obtain ⟨rfl, rfl⟩ := trodVars_none hV
  obtain ⟨a0, rfl, rfl, rfl, w0⟩ := open_int Try.underlying3 (hval 0 3 v0 rfl rfl) h0
  obtain ⟨a1, rfl, rfl, rfl, w1⟩ := open_int Try.underlying3 (hval 1 3 v1 rfl rfl) h1
  obtain ⟨a2, rfl, rfl, rfl, w2⟩ := open_int Try.underlying3 (hval 2 3 v2 rfl rfl) h2
  clear hA0 hval0
  simp only [List.append_nil] at hW'
  refine (walk a0 a1 a2 w0 w1 w2 W).mono fun e W' ⟨he, hg⟩ => ?_
  subst he
  exact ⟨_, rfl, post_of_same (pa := []) (pv := []) hW' (fun _ _ _ => (trodAll_cons_mk (shut_bool Try.underlying4 _) trodAll_mk0)) (fun sp _ => (trodAll_cons_mk (shut_int Try.underlying3 w0) (trodAll_cons_mk (shut_int Try.underlying3 w1) (trodAll_cons_mk (shut_int Try.underlying3 w2) trodAll_mk0)))) (fun _ _ => rfl) rfl
    (hg.frame _) hg.2.1 (ok_one (by kernel_rfl) rfl (okWide_bool_mk Try.underlying4 _))⟩

theorem over : Rows.checkDividesRow.holds Try.pinned (OpenSpec.ofChange Rows.checkDividesSpec) :=
  OpenClaim.holds_of_wide 5 Try.f5 rfl rfl rfl rfl rfl rfl rfl ⟨rfl, rfl, rfl, rfl, rfl⟩ rfl rfl rfl rfl rfl (by kernel_rfl) Try.func5 (by kernel_rfl)
    (of_decide_eq_true (by kernel_rfl)) (by unfold Func.isWrapper; first | (rw [if_pos (by decide +kernel)]; kernel_rfl) | (rw [if_neg (by decide +kernel)]; exact ⟨rfl, rfl⟩))
    (fun os started H enc _ => lifted os started H enc)

/-- ████ THE STATEMENT ████ -/
theorem proved : Rows.CheckDividesSaid :=
  over
#print axioms proved
end Go.Proofs.Ytnmejabmnapmpaa.CheckDivides
