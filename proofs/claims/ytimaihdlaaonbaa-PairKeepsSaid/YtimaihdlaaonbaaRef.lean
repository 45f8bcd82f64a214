/- The contracts of pair's Right, Fell, Rose, Falls, Rises and of the reference's: what each answers. -/
import Derived.Test.YtimaihdlaaonbaaPair
namespace Go.Proofs.Ytimaihdlaaonbaa
open Go.RowKit

theorem right_any (x y : BitVec 32) (w : World) : Calls Try.prog 8 #[.agg #[.int .u32 (w32 x), .int .u32 (w32 y)]] w fun e w' => e = .returned (.bool (y == ~~~x)) ∧ Below w.heap.size w w' := by
  have hx := is_any x y x (w.alloc (.cells #[.int .u32 (w32 x), .int .u32 (w32 y)] 24))
  rw [show (x == x) = true by simp, Bool.true_and] at hx
  have HX := Lib.hid hx
  clear hx
  have bb : Below w.heap.size w (w.alloc (.cells #[.int .u32 (w32 x), .int .u32 (w32 y)] 24)) := (Below.refl _ _).alloc (Nat.le_refl _) _
  have BB := Lib.hid bb
  clear bb
  go_enter Try.func8, Try.ntmps8
  go_wp2_with fail
  refine HX.out.mono ?_
  rintro e w' ⟨rfl, hb⟩
  go_wp2
  go_ret
  exact ⟨rfl, BB.out.trans (hb.mono BB.out.size)⟩

theorem fell_any (a b c : BitVec 32) (w : World) : Calls Try.prog 10 #[.int .u32 (w32 a), .int .u32 (w32 b), .int .u32 (w32 c)] w fun e w' => e = .returned (.bool (within c a && within b c)) ∧ w = w' := by
  cases h1 : within c a <;> cases h2 : within b c
  all_goals
    go_enter Try.func10, Try.ntmps10
    go_wp2_with (go_at_call 22; refine (within_any _ _ _).mono ?_; rintro e w' ⟨rfl, rfl⟩)
    go_ret
    exact ⟨rfl, rfl⟩
theorem rose_any (a c : BitVec 32) (w : World) : Calls Try.prog 12 #[.int .u32 (w32 a), .int .u32 (w32 c)] w fun e w' => e = .returned (.bool (within a c)) ∧ w = w' := by
  go_enter Try.func12, Try.ntmps12
  go_wp2_with (go_at_call 22; refine (within_any _ _ _).mono ?_; rintro e w' ⟨rfl, rfl⟩)
  go_ret
  exact ⟨rfl, rfl⟩
theorem falls_any (a b c : BitVec 32) (w : World) : Calls Try.prog 14 #[.int .u32 (w32 a), .int .u32 (w32 b), .int .u32 (w32 c)] w fun e w' => e = .returned (.int .u32 (w32 (a &&& (b ||| c)))) ∧ w = w' := by
  have h1 := or32 b c
  have h2 := and32 a (b ||| c)
  go_enter Try.func14, Try.ntmps14
  go_wp2
  go_ret
  exact ⟨rfl, rfl⟩
theorem rises_any (a c : BitVec 32) (w : World) : Calls Try.prog 16 #[.int .u32 (w32 a), .int .u32 (w32 c)] w fun e w' => e = .returned (.int .u32 (w32 (a ||| c))) ∧ w = w' := by
  have h1 := or32 a c
  go_enter Try.func16, Try.ntmps16
  go_wp2
  go_ret
  exact ⟨rfl, rfl⟩
theorem other_any (x : BitVec 32) (w : World) : Calls Try.prog 7 #[.int .u32 (w32 x)] w fun e w' => e = .returned (.int .u32 (w32 (~~~x))) ∧ w = w' := by
  have h1 := other_int x
  go_enter Try.func7, Try.ntmps7
  go_wp2
  go_ret
  exact ⟨congrArg (fun z => Ending.returned (.int .u32 z)) h1, rfl⟩

set_option maxHeartbeats 2000000 in
theorem reffell_any (a b c : BitVec 32) (w : World) : Calls Try.prog 11 #[.int .u32 (w32 a), .int .u32 (w32 b), .int .u32 (w32 c)] w fun e w' => e = .returned (.bool (allB (fellP a b c) 32)) ∧ w = w' := by
  go_enter Try.func11, Try.ntmps11
  go_wp2
  go_loopg [7] 32 (fun g i wr => ∃ (k : Nat), k + g = 32 ∧ i = .int .u64 k ∧ Aside (allB (fellP a b c) k = true) ∧ Aside (w = wr))
  case atStart => exact ⟨0, by omega, rfl, rfl, rfl⟩
  case round =>
    obtain ⟨k, hkg, rfl, HA, hw⟩ := hrel
    obtain rfl := hw.out
    clear hw
    cases gk with
    | zero =>
      obtain rfl : k = 32 := by omega
      go_wp2
      go_ret
      exact ⟨by rw [HA.out]; rfl, rfl⟩
    | succ g1 =>
      have hk : k < 32 := by omega
      have HF : Hid (fellP a b c k = !((bt c k && !bt a k) || (bt b k && !bt c k))) := Lib.hid rfl
      cases ha : bt a k <;> cases hb : bt b k <;> cases hc : bt c k
      all_goals rw [ha, hb, hc] at HF
      all_goals go_wp2_with (go_at_call 23; refine (bit_any _ _ hk _).mono ?_; rintro e w' ⟨rfl, rfl⟩)
      all_goals first
        | (go_ret
           exact ⟨by rw [allB_no _ 32 k hk HF.out]; rfl, rfl⟩)
        | (go_roundg g1
           case measure => omega
           case rel => exact ⟨k + 1, by omega, by go_num, by show (allB _ k && fellP a b c k) = true; rw [HA.out, HF.out]; rfl, rfl⟩)
set_option maxHeartbeats 2000000 in
theorem refrose_any (a c : BitVec 32) (w : World) : Calls Try.prog 13 #[.int .u32 (w32 a), .int .u32 (w32 c)] w fun e w' => e = .returned (.bool (allB (roseP a c) 32)) ∧ w = w' := by
  go_enter Try.func13, Try.ntmps13
  go_wp2
  go_loopg [5] 32 (fun g i wr => ∃ (k : Nat), k + g = 32 ∧ i = .int .u64 k ∧ Aside (allB (roseP a c) k = true) ∧ Aside (w = wr))
  case atStart => exact ⟨0, by omega, rfl, rfl, rfl⟩
  case round =>
    obtain ⟨k, hkg, rfl, HA, hw⟩ := hrel
    obtain rfl := hw.out
    clear hw
    cases gk with
    | zero =>
      obtain rfl : k = 32 := by omega
      go_wp2
      go_ret
      exact ⟨by rw [HA.out]; rfl, rfl⟩
    | succ g1 =>
      have hk : k < 32 := by omega
      have HF : Hid (roseP a c k = !(bt a k && !bt c k)) := Lib.hid rfl
      cases ha : bt a k <;> cases hc : bt c k
      all_goals rw [ha, hc] at HF
      all_goals go_wp2_with (go_at_call 23; refine (bit_any _ _ hk _).mono ?_; rintro e w' ⟨rfl, rfl⟩)
      all_goals first
        | (go_ret
           exact ⟨by rw [allB_no _ 32 k hk HF.out]; rfl, rfl⟩)
        | (go_roundg g1
           case measure => omega
           case rel => exact ⟨k + 1, by omega, by go_num, by show (allB _ k && roseP a c k) = true; rw [HA.out, HF.out]; rfl, rfl⟩)
set_option maxHeartbeats 2000000 in
theorem reffalls_any (a b c : BitVec 32) (w : World) : Calls Try.prog 15 #[.int .u32 (w32 a), .int .u32 (w32 b), .int .u32 (w32 c)] w fun e w' => e = .returned (.int .u32 (w32 (pre (fallsP a b c) 32))) ∧ w = w' := by
  go_enter Try.func15, Try.ntmps15
  go_wp2
  go_loopg [7, 8] 32 (fun g v i wr => ∃ (k : Nat), k + g = 32 ∧ i = .int .u64 k ∧ v = .int .u32 (w32 (pre (fallsP a b c) k)) ∧ Aside (w = wr))
  case atStart => exact ⟨0, by omega, rfl, rfl, rfl⟩
  case round =>
    obtain ⟨k, hkg, rfl, rfl, hw⟩ := hrel
    obtain rfl := hw.out
    clear hw
    cases gk with
    | zero =>
      obtain rfl : k = 32 := by omega
      go_wp2
      go_ret
      exact ⟨rfl, rfl⟩
    | succ g1 =>
      have hk : k < 32 := by omega
      have hs := shl_one k (by omega)
      have HF : Hid (fallsP a b c k = (bt a k && (bt b k || bt c k))) := Lib.hid rfl
      cases ha : bt a k <;> cases hb : bt b k <;> cases hc : bt c k
      all_goals rw [ha, hb, hc] at HF
      all_goals go_wp2_with (go_at_call 23; refine (bit_any _ _ hk _).mono ?_; rintro e w' ⟨rfl, rfl⟩)
      all_goals
        go_roundg g1
        case measure => omega
        case rel => exact ⟨k + 1, by omega, by go_num, by rw [pre]; simp only [HF.out]; first | rfl | exact congrArg (Value.int .u32) (pre_add _ k hk), rfl⟩
set_option maxHeartbeats 2000000 in
theorem refrises_any (a c : BitVec 32) (w : World) : Calls Try.prog 17 #[.int .u32 (w32 a), .int .u32 (w32 c)] w fun e w' => e = .returned (.int .u32 (w32 (pre (risesP a c) 32))) ∧ w = w' := by
  go_enter Try.func17, Try.ntmps17
  go_wp2
  go_loopg [5, 6] 32 (fun g v i wr => ∃ (k : Nat), k + g = 32 ∧ i = .int .u64 k ∧ v = .int .u32 (w32 (pre (risesP a c) k)) ∧ Aside (w = wr))
  case atStart => exact ⟨0, by omega, rfl, rfl, rfl⟩
  case round =>
    obtain ⟨k, hkg, rfl, rfl, hw⟩ := hrel
    obtain rfl := hw.out
    clear hw
    cases gk with
    | zero =>
      obtain rfl : k = 32 := by omega
      go_wp2
      go_ret
      exact ⟨rfl, rfl⟩
    | succ g1 =>
      have hk : k < 32 := by omega
      have hs := shl_one k (by omega)
      have HF : Hid (risesP a c k = (bt a k || bt c k)) := Lib.hid rfl
      cases ha : bt a k <;> cases hc : bt c k
      all_goals rw [ha, hc] at HF
      all_goals go_wp2_with (go_at_call 23; refine (bit_any _ _ hk _).mono ?_; rintro e w' ⟨rfl, rfl⟩)
      all_goals
        go_roundg g1
        case measure => omega
        case rel => exact ⟨k + 1, by omega, by go_num, by rw [pre]; simp only [HF.out]; first | rfl | exact congrArg (Value.int .u32) (pre_add _ k hk), rfl⟩
end Go.Proofs.Ytimaihdlaaonbaa
