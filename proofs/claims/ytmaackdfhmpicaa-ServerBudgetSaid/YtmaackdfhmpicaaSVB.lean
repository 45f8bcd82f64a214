/- The contracts of a server's and the reference's small calls. -/
import Derived.Test.YtmaackdfhmpicaaSVA
import Derived.Test.YtmaackdfhmpicaaVR
import Derived.Test.YtmaackdfhmpicaaMx
import Derived.Handy
namespace Go.Proofs.Ytmaackdfhmpicaa
open Go.RowKit

def svV (P B : Int) : Value := .agg #[.int .i64 P, .int .i64 B]
theorem svgap_any {P B : Int} (h : svR P B = true) (w : World) : Calls Try.prog 43 #[.agg #[.int .i64 P, .int .i64 B]] w fun e w' => e = .returned (.int .i64 (2 * (P - B))) ∧ Below w.heap.size w w' := by
  obtain ⟨h1, h2, h3⟩ := svR_iff.1 h
  clear h
  go_enter Try.func43, Try.ntmps43
  go_wp2
  go_ret
  exact ⟨rfl, (Below.refl _ _).alloc (Nat.le_refl _) _⟩
theorem svRight_any (P B : Int) (w : World) : Calls Try.prog 22 #[.agg #[.int .i64 P, .int .i64 B]] w fun e w' => e = .returned (.bool (svR P B)) ∧ Below w.heap.size w w' := by
  by_cases h1 : 1 ≤ B
  · by_cases h2 : B ≤ P
    · by_cases h3 : P ≤ 4096
      · have H := Lib.hid (show svR P B = true by simp [svR]; omega)
        go_enter Try.func22, Try.ntmps22
        go_wp2
        go_ret
        exact ⟨by rw [H.out]; rfl, (Below.refl _ _).alloc (Nat.le_refl _) _⟩
      · have H := Lib.hid (show svR P B = false by simp [svR]; omega)
        go_enter Try.func22, Try.ntmps22
        go_wp2
        go_ret
        exact ⟨by rw [H.out]; rfl, (Below.refl _ _).alloc (Nat.le_refl _) _⟩
    · have H := Lib.hid (show svR P B = false by simp [svR]; omega)
      go_enter Try.func22, Try.ntmps22
      go_wp2
      go_ret
      exact ⟨by rw [H.out]; rfl, (Below.refl _ _).alloc (Nat.le_refl _) _⟩
  · have H := Lib.hid (show svR P B = false by simp [svR]; omega)
    go_enter Try.func22, Try.ntmps22
    go_wp2
    go_ret
    exact ⟨by rw [H.out]; rfl, (Below.refl _ _).alloc (Nat.le_refl _) _⟩
theorem r56Right_any (P B : Int) (w : World) : Calls Try.prog 19 #[.int .i64 P, .int .i64 B] w fun e w' => e = .returned (.bool (svR P B)) ∧ w = w' := by
  by_cases h1 : 1 ≤ P
  · by_cases h2 : P ≤ 4096
    · by_cases h3 : 1 ≤ B
      · by_cases h4 : B ≤ P
        · have H := Lib.hid (show svR P B = true by simp [svR]; omega)
          go_enter Try.func19, Try.ntmps19
          go_wp2
          go_ret
          exact ⟨by rw [H.out]; rfl, rfl⟩
        · have H := Lib.hid (show svR P B = false by simp [svR]; omega)
          go_enter Try.func19, Try.ntmps19
          go_wp2
          go_ret
          exact ⟨by rw [H.out]; rfl, rfl⟩
      · have H := Lib.hid (show svR P B = false by simp [svR]; omega)
        go_enter Try.func19, Try.ntmps19
        go_wp2
        go_ret
        exact ⟨by rw [H.out]; rfl, rfl⟩
    · have H := Lib.hid (show svR P B = false by simp [svR]; omega)
      go_enter Try.func19, Try.ntmps19
      go_wp2
      go_ret
      exact ⟨by rw [H.out]; rfl, rfl⟩
  · have H := Lib.hid (show svR P B = false by simp [svR]; omega)
    go_enter Try.func19, Try.ntmps19
    go_wp2
    go_ret
    exact ⟨by rw [H.out]; rfl, rfl⟩
theorem box_of {w w1 : World} {c : Array Value} {t : TypeId} (h : Below (w.alloc (.cells c t)).heap.size (w.alloc (.cells c t)) w1) : Below w.heap.size w w1 ∧ RowAt w1 w.heap.size t c :=
  ⟨((Below.refl _ w).alloc (Nat.le_refl _) _).trans (h.mono (by simp)), (RowAt.mk w t c).new h⟩
theorem BoxOf.next {w w1 w2 : World} {b : Nat} {c : Array Value} {t : TypeId} (h : Below w.heap.size w w1 ∧ RowAt w1 b t c) (hb : Below w1.heap.size w1 w2) : Below w.heap.size w w2 ∧ RowAt w2 b t c :=
  ⟨h.1.trans (hb.mono h.1.size), h.2.new hb⟩
/-- One that may not be, and ticks ahead of the first one. -/
theorem svLeast_no {P B t : Int} (h : svR P B = false ∨ t ≤ 2 * (P - B)) (w : World) : Calls Try.prog 23 #[.agg #[.int .i64 P, .int .i64 B], .int .i64 t] w fun e w' => e = .returned (.int .i64 0) ∧ Below w.heap.size w w' := by
  have HR := Lib.hid (fun wx => svRight_any P B wx)
  cases hr : svR P B
  case false =>
    rw [hr] at HR
    clear h hr
    go_enter Try.func23, Try.ntmps23
    go_wp2_with (first
      | (go_at_call 22; refine (HR.out _).mono ?_; rintro e w1 ⟨rfl, b1⟩; have H1 := Lib.hid (box_of b1); clear b1)
      | fail)
    go_ret
    exact ⟨rfl, H1.out.1⟩
  case true =>
    have ht : t ≤ 2 * (P - B) := by
      rcases h with h | h
      · rw [hr] at h; cases h
      · exact h
    have HG := Lib.hid (fun wx => svgap_any hr wx)
    rw [hr] at HR
    obtain ⟨g, hg⟩ : ∃ g, 2 * (P - B) = g := ⟨_, rfl⟩
    rw [hg] at ht HG
    clear h hr hg
    go_enter Try.func23, Try.ntmps23
    go_wp2_with (first
      | (go_at_call 22; refine (HR.out _).mono ?_; rintro e w1 ⟨rfl, b1⟩; have H1 := Lib.hid (box_of b1); have k0 : w1.cell? ⟨w.heap.size, 0, none⟩ = some (.int .i64 P) := H1.out.2.cell 0; have k1 : w1.cell? ⟨w.heap.size, 1, none⟩ = some (.int .i64 B) := H1.out.2.cell 1; clear b1)
      | (go_at_call 43; refine (HG.out _).mono ?_; rintro e w2 ⟨rfl, b2⟩; have H2 := Lib.hid (BoxOf.next H1.out b2); clear b2)
      | fail)
    go_ret
    exact ⟨rfl, H2.out.1⟩
theorem svLeast_any {P B : Int} (h : svR P B = true) {t : Int} (ht : t ≤ 1000000) (w : World) : Calls Try.prog 23 #[.agg #[.int .i64 P, .int .i64 B], .int .i64 t] w fun e w' => e = .returned (.int .i64 (svL P B t)) ∧ Below w.heap.size w w' := by
  by_cases hc : t ≤ 2 * (P - B)
  · have := svLeast_no (.inr hc) w
    unfold svL
    rw [if_pos hc]
    exact this
  obtain ⟨hB, hP, hM⟩ := svR_iff.1 h
  have HR := Lib.hid (fun wx => svRight_any P B wx)
  have HG := Lib.hid (fun wx => svgap_any h wx)
  rw [h] at HR
  have hmn := hmin Try.prog
  have HE := Lib.hid (show svL P B t = (t - 2 * (P - B)) / P * B + min ((t - 2 * (P - B)) % P) B by unfold svL; rw [if_neg hc]; rfl)
  obtain ⟨g, hg⟩ : ∃ g, 2 * (P - B) = g := ⟨_, rfl⟩
  have g0 : 0 ≤ g := by omega
  have g1 : g ≤ 8192 := by omega
  rw [hg] at hc HG HE
  have h0 : 0 < P := by omega
  have hz : ¬ P = 0 := by omega
  have q0 : 0 ≤ (t - g) / P := Int.ediv_nonneg (by omega) (by omega)
  have q1 : (t - g) / P ≤ t - g := Int.ediv_le_self _ (by omega)
  have q2 : 0 ≤ (t - g) / P * B := Int.mul_nonneg q0 (by omega)
  have q3 : (t - g) / P * B ≤ 1000000 * 4096 := Int.mul_le_mul (by omega) (by omega) (by omega) (by omega)
  have r0 := Int.emod_nonneg (t - g) hz
  have r1 := Int.emod_lt_of_pos (t - g) h0
  clear h hg
  go_enter Try.func23, Try.ntmps23
  go_upto_region 4 with (first
    | (go_at_call 22; refine (HR.out _).mono ?_; rintro e w1 ⟨rfl, b1⟩; have H1 := Lib.hid (box_of b1); have k0 : w1.cell? ⟨w.heap.size, 0, none⟩ = some (.int .i64 P) := H1.out.2.cell 0; have k1 : w1.cell? ⟨w.heap.size, 1, none⟩ = some (.int .i64 B) := H1.out.2.cell 1; clear b1)
    | (go_at_call 43; refine (HG.out _).mono ?_; rintro e w3 ⟨rfl, b3⟩; have H3 := Lib.hid (BoxOf.next H2.out b3); have n0 : w3.cell? ⟨w.heap.size, 0, none⟩ = some (.int .i64 P) := H3.out.2.cell 0; have n1 : w3.cell? ⟨w.heap.size, 1, none⟩ = some (.int .i64 B) := H3.out.2.cell 1; clear b3 m0 m1)
    | (go_at_call 43; refine (HG.out _).mono ?_; rintro e w2 ⟨rfl, b2⟩; have H2 := Lib.hid (BoxOf.next H1.out b2); have m0 : w2.cell? ⟨w.heap.size, 0, none⟩ = some (.int .i64 P) := H2.out.2.cell 0; have m1 : w2.cell? ⟨w.heap.size, 1, none⟩ = some (.int .i64 B) := H2.out.2.cell 1; clear b2 k0 k1)
    | fail)
  go_quiet (fail)
  go_wp2
  go_ret
  exact ⟨by rw [HE.out]; rfl, below_dn H3.out.1 _⟩
end Go.Proofs.Ytmaackdfhmpicaa
