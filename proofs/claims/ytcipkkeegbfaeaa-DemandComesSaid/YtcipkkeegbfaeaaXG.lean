/- The walk of DemandComes. -/
import Derived.Test.YtcipkkeegbfaeaaXC
namespace Go.Proofs.Ytcipkkeegbfaeaa
open Go.RowKit

theorem up_count {P l : Int} (hP : 0 < P) (k : Int) : k < (l + P - 1) / P ↔ k * P < l := by
  rw [show (k < (l + P - 1) / P) ↔ (k + 1 ≤ (l + P - 1) / P) from Int.lt_iff_add_one_le, Int.le_ediv_iff_mul_le hP, Int.add_mul]
  omega
theorem jobs_good {P O t : Int} (hP : 1 ≤ P) (hP2 : P ≤ 100000) (hO : 0 ≤ O) (hO2 : O ≤ 1073741824) (ht : 0 ≤ t) (ht2 : t ≤ 1073741825) :
    jobsB P O t = true ∧ ∃ m : Nat, jobsN P O t = m ∧ ∀ k : Nat, k < m ↔ O + k * P < t := by
  have n1 : numB t = true := numB_t ht (by omega)
  have n2 : numB O = true := numB_t hO (by omega)
  have n3 : numB P = true := numB_t (by omega) (by omega)
  have hl : lessB t O = true := by simp [lessB, n1, n2]
  have hn : lessN t O = if t < O then 0 else t - O := by simp [lessN, n1, n2]
  have h0 : 0 ≤ lessN t O ∧ lessN t O ≤ t := by rw [hn]; split <;> omega
  have n4 : numB (lessN t O) = true := numB_t h0.1 (by omega)
  have hu : upB (lessN t O) P = true := by simp [upB, n3, n4]; omega
  have hv : upN (lessN t O) P = (lessN t O + P - 1) / P := by simp [upN, n3, n4]; omega
  refine ⟨by simp [jobsB, hl, hu], ?_⟩
  have hge : 0 ≤ (lessN t O + P - 1) / P := Int.ediv_nonneg (by omega) (by omega)
  obtain ⟨m, hm⟩ := Int.eq_ofNat_of_zero_le hge
  refine ⟨m, by simp only [jobsN, hl, if_true, hv, hm], fun k => ?_⟩
  have hc := up_count (P := P) (l := lessN t O) (by omega) (k : Int)
  rw [hm] at hc
  have hk0 : 0 ≤ (k : Int) * P := Int.mul_nonneg (by omega) (by omega)
  rw [hn] at hc
  constructor
  · intro h
    have := hc.1 (by omega)
    split at this <;> omega
  · intro h
    have : (k : Int) < m := hc.2 (by split <;> omega)
    omega
theorem count_le {a b : Nat} {p q : Nat → Prop} (ha : ∀ k, k < a ↔ p k) (hb : ∀ k, k < b ↔ q k) (h : ∀ k, p k → q k) : a ≤ b := by
  rcases Nat.eq_zero_or_pos a with h0 | h0
  · omega
  · have := (hb (a - 1)).2 (h _ ((ha (a - 1)).1 (by omega)))
    omega
set_option maxRecDepth 100000 in
set_option maxHeartbeats 4000000 in
theorem law_comes (P C O K t : Int) (w : World) :
    Calls Try.prog 6 #[.agg #[.int .i64 P, .int .i64 C, .int .i64 O, .int .i64 K], .int .i64 t] w fun e w' => e = .returned (.bool true) ∧ Below w.heap.size w w' := by
  obtain ⟨Z, hZ⟩ : ∃ Z, Z = w.heap.size := ⟨_, rfl⟩
  have HB := Lib.hid (show Below w.heap.size w (w.alloc (.cells #[.int .i64 P, .int .i64 C, .int .i64 O, .int .i64 K] 52)) ∧ RowAt (w.alloc (.cells #[.int .i64 P, .int .i64 C, .int .i64 O, .int .i64 K] 52)) Z 52 #[.int .i64 P, .int .i64 C, .int .i64 O, .int .i64 K] from by rw [hZ]; exact ⟨(Below.refl _ _).alloc (Nat.le_refl _) _, RowAt.mk _ _ _⟩)
  by_cases h0 : P < 1
  · clear hZ
    go_enter Try.func6, Try.ntmps6
    go_wp2
    go_ret
    exact ⟨rfl, HB.out.1⟩
  by_cases h1 : 100000 < P
  · clear hZ
    go_enter Try.func6, Try.ntmps6
    go_wp2
    go_ret
    exact ⟨rfl, HB.out.1⟩
  by_cases h2 : O < 0
  · clear hZ
    go_enter Try.func6, Try.ntmps6
    go_wp2
    go_ret
    exact ⟨rfl, HB.out.1⟩
  by_cases h3 : 1073741824 < O
  · clear hZ
    go_enter Try.func6, Try.ntmps6
    go_wp2
    go_ret
    exact ⟨rfl, HB.out.1⟩
  by_cases h4 : t < 0
  · clear hZ
    go_enter Try.func6, Try.ntmps6
    go_wp2
    go_ret
    exact ⟨rfl, HB.out.1⟩
  by_cases h5 : 1073741824 < t
  · clear hZ
    go_enter Try.func6, Try.ntmps6
    go_wp2
    go_ret
    exact ⟨rfl, HB.out.1⟩
  by_cases h6 : 2000 < t / P
  · clear hZ
    go_enter Try.func6, Try.ntmps6
    go_wp2
    go_ret
    exact ⟨rfl, HB.out.1⟩
  obtain ⟨j1, m, j2, j3⟩ := jobs_good (P := P) (O := O) (t := t) (by omega) (by omega) (by omega) (by omega) (by omega) (by omega)
  obtain ⟨i1, m2, i2, i3⟩ := jobs_good (P := P) (O := O) (t := t + 1) (by omega) (by omega) (by omega) (by omega) (by omega) (by omega)
  have HM := Lib.hid (count_le j3 i3 (fun k hk => by omega))
  have H1 := Lib.hid (fun wx => jobs_any P C O K t wx)
  have H2 := Lib.hid (fun wx => jobs_any P C O K (t + 1) wx)
  have HJ := Lib.hid j3
  rw [j1, j2] at H1
  rw [i1, i2] at H2
  clear j1 j2 j3 i1 i2 i3
  go_enter Try.func6, Try.ntmps6
  go_upto_region 1 with fail
  rw [← hZ]
  generalize hw2 : World.alloc _ _ = w2 at HB ⊢
  clear hw2 hZ
  have c0 := HB.out.2.cell 0
  have c2 := HB.out.2.cell 2
  go_wp2_with (first
    | (refine wpList_load_row rfl 52 (.tmp 2) rfl Z rfl 52 #[.int .i64 P, .int .i64 C, .int .i64 O, .int .i64 K] (0, 0) _ HB.out.2 Try.underlying52 rfl (by kernel_rfl) ?_)
    | (go_at_call 27; refine (H1.out _).mono ?_; rintro e w3 ⟨rfl, b3⟩; have H3 := Lib.hid (And.intro (HB.out.1.trans (b3.mono HB.out.1.size)) (HB.out.2.new b3)); have c0 := (HB.out.2.new b3).cell 0; have c2 := (HB.out.2.new b3).cell 2; clear b3 H1)
    | fail)
  go_loopg [7, 8] m (fun g v u wr => ∃ k : Nat, k + g = m ∧ v = .int .i64 (k : Nat) ∧ u = .int .i64 (O + k * P) ∧ w3 = wr)
  case atStart => exact ⟨0, by omega, rfl, by simp, rfl⟩
  case round =>
    obtain ⟨k, hkg, rfl, rfl, rfl⟩ := hrel
    cases gk with
    | zero =>
      obtain rfl : k = m := by omega
      have hlt : ¬ O + (k : Int) * P < t := fun h => Nat.lt_irrefl _ ((HJ.out k).2 h)
      have hmm : (k : Int) ≤ (m2 : Int) := by have := HM.out; omega
      generalize O + (k : Int) * P = z at hlt ⊢
      have ht1 : IntKind.i64.wrap (t + 1) = t + 1 := by rw [IntKind.wrap_i64]; omega
      go_wp2_with (first
        | (refine wpList_load_row rfl 52 (.tmp 2) rfl Z rfl 52 #[.int .i64 P, .int .i64 C, .int .i64 O, .int .i64 K] (0, 0) _ H3.out.2 Try.underlying52 rfl (by kernel_rfl) ?_)
        | (go_at_call 27; refine (H2.out _).mono ?_; rintro e w4 ⟨rfl, b4⟩; have H4 := Lib.hid (H3.out.1.trans (b4.mono H3.out.1.size)); clear b4 H2)
        | (go_at_call 26; refine (l16alive_any _).mono ?_; rintro e w5 ⟨rfl, b5⟩; have H5 := Lib.hid (H4.out.trans (b5.mono H4.out.size)); clear b5)
        | fail)
      go_ret
      exact ⟨by simp, H5.out⟩
    | succ g1 =>
      have hlt := (HJ.out k).1 (by omega)
      have hk0 : 0 ≤ (k : Int) * P := Int.mul_nonneg (by omega) (by omega)
      have hkP : (k : Int) ≤ (k : Int) * P := by
        have := Int.mul_le_mul_of_nonneg_left (show (1 : Int) ≤ P by omega) (show (0 : Int) ≤ k by omega)
        omega
      have hs : ((k + 1 : Nat) : Int) * P = (k : Int) * P + P := by rw [Int.natCast_add, Int.add_mul]; simp
      have HSx := Lib.hid hs
      clear hs
      have hk3 : (k : Int) + 1 ≤ 9223372036854775807 := by omega
      obtain ⟨z, hz⟩ : ∃ z, (k : Int) * P = z := ⟨_, rfl⟩
      rw [hz] at hlt hk0 hkP HSx ⊢
      clear hz
      have h5 : O + z + P ≤ 9223372036854775807 := by omega
      go_wp2
      go_roundg g1
      case measure => omega
      case rel => exact ⟨k + 1, by omega, by go_num, by rw [HSx.out]; go_num, rfl⟩
end Go.Proofs.Ytcipkkeegbfaeaa
