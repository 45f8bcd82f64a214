/- The contracts of the reference's Least and Within, and of the chapter's example. -/
import Derived.Test.YtmaackdfhmpicaaSVC
namespace Go.Proofs.Ytmaackdfhmpicaa
open Go.RowKit

set_option maxHeartbeats 1000000 in
theorem r56Least_any {P B : Int} (h : svR P B = true) (t : Int) (ht : t ≤ 5000) (w : World) : Calls Try.prog 20 #[.int .i64 P, .int .i64 B, .int .i64 t] w fun e w' => e = .returned (.int .i64 (svL P B t)) ∧ w = w' := by
  have HG := Lib.hid (fun (k : Nat) (hk : k ≤ 100000) wx => r56gets_any h k hk wx)
  have HS := Lib.hid (fun (k : Nat) => svL_succ (P := P) (B := B) (t := k) h)
  have HB := Lib.hid (fun (k : Nat) => svL_nonneg h k)
  have HN := Lib.hid (fun (x : t ≤ 0) => svL_neg h x)
  have H0 := Lib.hid (svL_neg h (t := 0) (by omega))
  clear h
  go_enter Try.func20, Try.ntmps20
  go_wp2
  go_loopg [7, 8] t.toNat (fun g n a wr => ∃ k : Nat, k + g = t.toNat ∧ a = .int .i64 (k : Nat) ∧ n = .int .i64 (svL P B k) ∧ Aside (w = wr))
  case atStart => exact ⟨0, by omega, rfl, by rw [show ((0 : Nat) : Int) = 0 from rfl, H0.out], rfl⟩
  case round =>
    obtain ⟨k, hkg, rfl, rfl, HW⟩ := hrel
    obtain rfl := HW.out
    cases gk with
    | zero =>
      have HE := Lib.hid (show svL P B (k : Int) = svL P B t by
        by_cases h0 : t ≤ 0
        · rw [HN.out h0, show (k : Int) = 0 by omega, H0.out]
        · rw [show (k : Int) = t by omega])
      have hc : t ≤ (k : Int) := by omega
      go_wp2
      go_ret
      exact ⟨by rw [HE.out]; rfl, rfl⟩
    | succ g1 =>
      have hk : (k : Int) < t := by omega
      have hs := HS.out k
      have hb := HB.out k
      have HC := Lib.hid (HG.out k (by omega))
      obtain ⟨v, hv⟩ : ∃ v, svL P B k = v := ⟨_, rfl⟩
      rw [hv] at hs hb ⊢
      cases hgt : svG P B k with
      | true =>
        rw [hgt] at HC
        rw [hgt, if_pos rfl] at hs
        have HSS := Lib.hid hs
        clear hs hgt hv HB HS HG
        go_wp2_with (first
          | (go_at_call 42; refine (HC.out _).mono ?_; rintro e w1 ⟨rfl, rfl⟩)
          | fail)
        go_roundg g1
        case measure => omega
        case rel => exact ⟨k + 1, by omega, by go_num, by rw [show ((k + 1 : Nat) : Int) = (k : Int) + 1 by omega, HSS.out], rfl⟩
      | false =>
        rw [hgt] at HC
        rw [hgt, if_neg (by decide)] at hs
        have HSS := Lib.hid hs
        clear hs hgt hv HB HS HG
        go_wp2_with (first
          | (go_at_call 42; refine (HC.out _).mono ?_; rintro e w1 ⟨rfl, rfl⟩)
          | fail)
        go_roundg g1
        case measure => omega
        case rel => exact ⟨k + 1, by omega, by go_num, by rw [show ((k + 1 : Nat) : Int) = (k : Int) + 1 by omega, HSS.out, Int.add_zero], rfl⟩
set_option maxHeartbeats 1000000 in
theorem r56Within_any {P B : Int} (h : svR P B = true) {v : Int} (h0 : 0 ≤ v) (h1 : v ≤ 65536) (w : World) : Calls Try.prog 26 #[.int .i64 P, .int .i64 B, .int .i64 v] w fun e w' => e = .returned (.tuple #[.int .i64 (wN (svW P B v)), .bool (svW P B v).isSome]) ∧ w = w' := by
  have HG := Lib.hid (fun (k : Nat) (hk : k ≤ 100000) wx => r56gets_any h k hk wx)
  have HS := Lib.hid (fun (k : Nat) => svL_succ (P := P) (B := B) (t := k) h)
  have HB := Lib.hid (fun (k : Nat) => svL_nonneg h k)
  have H0 := Lib.hid (svL_neg h (t := 0) (by omega))
  have HY := Lib.hid (show ∀ k : Nat, k ≤ 65536 → v ≤ svL P B k → (∀ j : Nat, j < k → svL P B j < v) → svW P B v = some (k : Int) by
    intro k hk hv hj
    unfold svW
    rw [if_neg (by rw [h]; simp; omega)]
    by_cases e : v = 0
    · rw [if_pos e]
      cases k with
      | zero => rfl
      | succ k =>
        have := hj 0 (by omega)
        have := svL_neg h (t := 0) (by omega)
        have e3 : svL P B ((0 : Nat) : Int) = 0 := this
        omega
    · rw [if_neg e]
      have hle := (svT_least h (show 1 ≤ v by omega)).1 hv
      obtain ⟨s1, s2, s3, -⟩ := svT_good h (show 1 ≤ v by omega)
      have e2 : svT P B v = k := by
        rcases Int.lt_or_le (svT P B v) k with c | c
        · have := hj (svT P B v).toNat (by omega)
          rw [show (((svT P B v).toNat : Nat) : Int) = svT P B v by omega] at this
          omega
        · omega
      rw [if_neg (by omega), e2])
  have HNo := Lib.hid (show (∀ j : Nat, j < 65537 → svL P B j < v) → svW P B v = none by
    intro hj
    unfold svW
    rw [if_neg (by rw [h]; simp; omega)]
    have e3 : svL P B ((0 : Nat) : Int) = 0 := svL_neg h (t := 0) (by omega)
    have := hj 0 (by omega)
    rw [if_neg (by omega), if_pos]
    obtain ⟨s1, s2, s3, -⟩ := svT_good h (show 1 ≤ v by omega)
    rcases Int.lt_or_le 65536 (svT P B v) with c | c
    · exact c
    · have := hj (svT P B v).toNat (by omega)
      rw [show (((svT P B v).toNat : Nat) : Int) = svT P B v by omega] at this
      omega)
  obtain ⟨o, ho⟩ : ∃ o, svW P B v = o := ⟨_, rfl⟩
  rw [ho] at HY HNo ⊢
  clear h ho
  go_enter Try.func26, Try.ntmps26
  go_wp2
  go_loopg [8, 9] 65537 (fun g n a wr => ∃ k : Nat, k + g = 65537 ∧ a = .int .i64 (k : Nat) ∧ n = .int .i64 (svL P B k) ∧ Aside (w = wr ∧ ∀ j : Nat, j < k → svL P B j < v))
  case atStart => exact ⟨0, by omega, rfl, by rw [show ((0 : Nat) : Int) = 0 from rfl, H0.out], rfl, fun j hj => by omega⟩
  case round =>
    obtain ⟨k, hkg, rfl, rfl, HW⟩ := hrel
    obtain rfl := HW.out.1
    cases gk with
    | zero =>
      obtain rfl : k = 65537 := by omega
      have HE := Lib.hid (HNo.out HW.out.2)
      go_wp2
      go_ret2
      exact ⟨by rw [HE.out]; rfl, rfl⟩
    | succ g1 =>
      have hk : (k : Int) ≤ 65536 := by omega
      have hs := HS.out k
      have hb := HB.out k
      have HC := Lib.hid (HG.out k (by omega))
      have HYk := Lib.hid (HY.out k (by omega))
      have HL := Lib.hid (show svL P B k < v → ∀ j : Nat, j < k + 1 → svL P B j < v by
        intro x j hj
        by_cases e : j = k
        · subst e; exact x
        · exact HW.out.2 j (by omega))
      obtain ⟨u, hu⟩ : ∃ u, svL P B k = u := ⟨_, rfl⟩
      rw [hu] at hs hb HYk HL ⊢
      by_cases hlt : v ≤ u
      · have HE := Lib.hid (HYk.out hlt HW.out.2)
        clear hs hu HB HS HG HC
        go_wp2
        go_ret2
        exact ⟨by rw [HE.out]; rfl, rfl⟩
      have HL2 := Lib.hid (HL.out (by omega))
      cases hgt : svG P B k with
      | true =>
        rw [hgt] at HC
        rw [hgt, if_pos rfl] at hs
        have HSS := Lib.hid hs
        clear hs hgt hu HB HS HG HYk HL
        go_wp2_with (first
          | (go_at_call 42; refine (HC.out _).mono ?_; rintro e w1 ⟨rfl, rfl⟩)
          | fail)
        go_roundg g1
        case measure => omega
        case rel => exact ⟨k + 1, by omega, by go_num, by rw [show ((k + 1 : Nat) : Int) = (k : Int) + 1 by omega, HSS.out], rfl, HL2.out⟩
      | false =>
        rw [hgt] at HC
        rw [hgt, if_neg (by decide)] at hs
        have HSS := Lib.hid hs
        clear hs hgt hu HB HS HG HYk HL
        go_wp2_with (first
          | (go_at_call 42; refine (HC.out _).mono ?_; rintro e w1 ⟨rfl, rfl⟩)
          | fail)
        go_roundg g1
        case measure => omega
        case rel => exact ⟨k + 1, by omega, by go_num, by rw [show ((k + 1 : Nat) : Int) = (k : Int) + 1 by omega, HSS.out, Int.add_zero], rfl, HL2.out⟩
end Go.Proofs.Ytmaackdfhmpicaa
