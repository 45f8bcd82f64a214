/- HeaderCut: plain maths of a header of which the last word is cut off; the contract of the reference's Falls. -/
import Derived.Test.YtdfknobohgncaaaHN
namespace Go.Proofs.Ytdfknobohgncaaa
open Go.RowKit

/-- A header's words when the power goes in word Y, of which x is left. -/
def cutW (s l c : BitVec 32) (Y : Nat) (x : BitVec 32) (i : Nat) : BitVec 32 := if i < Y then wantW s l c i else if i = Y then x else BitVec.allOnes 32
theorem cut_facts (s l c x : BitVec 32) (Y wh : Nat) (hY : Y ≤ 10) (hw : wh = if Y < 10 ∧ x = wantW s l c Y then Y + 1 else Y) :
    validH (cutW s l c Y x) = decide (8 ≤ wh) ∧ confH (cutW s l c Y x) = decide (10 ≤ wh) ∧ (8 ≤ wh → headH (cutW s l c Y x) 0 = s ∧ headH (cutW s l c Y x) 2 = l ∧ headH (cutW s l c Y x) 4 = c) := by
  have n7 : (BitVec.allOnes 32 == ~~~comW) = false := by decide
  have n9 : (BitVec.allOnes 32 == ~~~conW) = false := by decide
  have cs : ∀ (y : Nat), y < 7 → Y = y → validH (cutW s l c Y x) = false := by
    intro y hy e
    have h7 : cutW s l c Y x 7 = BitVec.allOnes 32 := by unfold cutW; rw [if_neg (by omega), if_neg (by omega)]
    unfold validH
    rw [h7, n7]
    simp
  by_cases h6 : Y < 7
  · have hv := cs Y h6 rfl
    have hwl : wh ≤ 7 := by rw [hw]; split <;> omega
    refine ⟨by rw [hv]; symm; rw [decide_eq_false_iff_not]; omega, ?_, fun h => by omega⟩
    unfold confH
    rw [hv]
    symm
    rw [Bool.false_and, decide_eq_false_iff_not]; omega
  · have a : ∀ i, i < Y → cutW s l c Y x i = wantW s l c i := fun i hi => by unfold cutW; rw [if_pos hi]
    have z0 := a 0 (by omega)
    have z1 := a 1 (by omega)
    have z2 := a 2 (by omega)
    have z3 := a 3 (by omega)
    have z4 := a 4 (by omega)
    have z5 := a 5 (by omega)
    have z6 := a 6 (by omega)
    have w6 : wantW s l c 6 = comW := rfl
    have w7 : wantW s l c 7 = ~~~comW := rfl
    have w8 : wantW s l c 8 = conW := rfl
    have w9 : wantW s l c 9 = ~~~conW := rfl
    have hv : validH (cutW s l c Y x) = (cutW s l c Y x 7 == ~~~comW) := by
      unfold validH
      rw [z0, z1, z2, z3, z4, z5, z6, w6, show wantW s l c 1 = ~~~wantW s l c 0 from rfl, show wantW s l c 3 = ~~~wantW s l c 2 from rfl, show wantW s l c 5 = ~~~wantW s l c 4 from rfl]
      simp
    have hh : validH (cutW s l c Y x) = true → headH (cutW s l c Y x) 0 = s ∧ headH (cutW s l c Y x) 2 = l ∧ headH (cutW s l c Y x) 4 = c := fun h => by
      unfold headH
      rw [if_pos h, if_pos h, if_pos h, z0, z2, z4]
      exact ⟨rfl, rfl, rfl⟩
    by_cases h7 : Y = 7
    · subst h7
      have e7 : cutW s l c 7 x 7 = x := rfl
      have e9 : cutW s l c 7 x 9 = BitVec.allOnes 32 := rfl
      have hc : confH (cutW s l c 7 x) = false := by unfold confH; rw [e9, n9]; simp
      rw [hc]
      rw [w7] at hw
      by_cases hx : x = ~~~comW
      · rw [if_pos ⟨by omega, hx⟩] at hw
        have hvt : validH (cutW s l c 7 x) = true := by rw [hv, e7, hx]; simp
        exact ⟨by rw [hvt, hw]; rfl, by rw [hw]; rfl, fun _ => hh hvt⟩
      · rw [if_neg (fun h => hx h.2)] at hw
        have hvt : validH (cutW s l c 7 x) = false := by rw [hv, e7]; simpa using hx
        exact ⟨by rw [hvt, hw]; rfl, by rw [hw]; rfl, fun h => by omega⟩
    · have hvt : validH (cutW s l c Y x) = true := by rw [hv, a 7 (by omega), w7]; simp
      have hwg : 8 ≤ wh := by rw [hw]; split <;> omega
      refine ⟨by rw [hvt]; symm; rw [decide_eq_true_iff]; exact hwg, ?_, fun _ => hh hvt⟩
      unfold confH
      rw [hvt, Bool.true_and]
      by_cases h8 : Y = 8
      · subst h8
        rw [show cutW s l c 8 x 9 = BitVec.allOnes 32 from rfl, n9, Bool.and_false]
        symm
        rw [decide_eq_false_iff_not, hw]; split <;> omega
      · rw [a 8 (by omega), w8]
        by_cases h9 : Y = 9
        · subst h9
          rw [show cutW s l c 9 x 9 = x from rfl]
          rw [w9] at hw
          by_cases hx : x = ~~~conW
          · rw [if_pos ⟨by omega, hx⟩] at hw
            rw [hw, hx]; simp
          · rw [if_neg (fun h => hx h.2)] at hw
            rw [hw]; simpa using hx
        · rw [a 9 (by omega), w9]
          have hY10 : Y = 10 := by omega
          subst hY10
          rw [if_neg (by omega)] at hw
          rw [hw]; simp
theorem bit_int (x : BitVec 32) (k : Nat) : (w32 x / 2 ^ k % 2 == 1) = x.getLsbD k := by
  have e : w32 x / 2 ^ k = ((x.toNat / 2 ^ k : Nat) : Int) := by unfold w32; simp
  rw [e]
  show _ = x.toNat.testBit k
  rw [Nat.testBit_eq_decide_div_mod_eq]
  by_cases h : x.toNat / 2 ^ k % 2 = 1
  · have : ((x.toNat / 2 ^ k : Nat) : Int) % 2 = 1 := by omega
    rw [this]; simp [h]
  · have : ((x.toNat / 2 ^ k : Nat) : Int) % 2 = 0 := by omega
    rw [this]; simp [h]
theorem bit_tmod (x : BitVec 32) (k : Nat) (b : Bool) (hb : x.getLsbD k = b) : ((w32 x / 2 ^ k).tmod 2 == 1) = b := by
  rw [← hb, ← bit_int, Int.tmod_eq_emod_of_nonneg]
  exact Int.ediv_nonneg (w32_lt x).1 (Int.le_of_lt (Int.pow_pos (by decide)))
def bt (x : BitVec 32) (i : Nat) : Bool := x.getLsbD i
def fallsP (a b c : BitVec 32) (i : Nat) : Bool := bt a i && (bt b i || bt c i)
theorem bit_any (x : BitVec 32) (k : Nat) (hk : k < 32) (w : World) : Calls Try.prog 41 #[.int .u32 (w32 x), .int .u64 k] w fun e w' => e = .returned (.bool (bt x k)) ∧ w = w' := by
  obtain ⟨b, h⟩ : ∃ b, bt x k = b := ⟨_, rfl⟩
  rw [h]
  have hb := bit_tmod x k b h
  clear h
  go_enter Try.func41, Try.ntmps41
  go_wp2
  go_ret
  exact ⟨rfl, rfl⟩
set_option maxHeartbeats 2000000 in
theorem reffalls_any (a b c : BitVec 32) (w : World) : Calls Try.prog 19 #[.int .u32 (w32 a), .int .u32 (w32 b), .int .u32 (w32 c)] w fun e w' => e = .returned (.int .u32 (w32 (pre (fallsP a b c) 32))) ∧ w = w' := by
  go_enter Try.func19, Try.ntmps19
  go_wp2
  go_loopg [7, 8] 32 (fun g v i wr => ∃ (k : Nat), k + g = 32 ∧ i = .int .u64 k ∧ v = .int .u32 (w32 (pre (fallsP a b c) k)) ∧ Aside (w = wr))
  case atStart => exact ⟨0, by omega, rfl, rfl, rfl⟩
  case round =>
    obtain ⟨k, hkg, rfl, rfl, hw⟩ := hrel
    obtain rfl := hw.out
    clear hw
    cases gk with
    | zero =>
      obtain rfl : k = 32 := by omega
      go_wp2
      go_ret
      exact ⟨rfl, rfl⟩
    | succ g1 =>
      have hk : k < 32 := by omega
      have hs := shl_one k (by omega)
      have HF : Hid (fallsP a b c k = (bt a k && (bt b k || bt c k))) := Lib.hid rfl
      cases ha : bt a k <;> cases hb : bt b k <;> cases hc : bt c k
      all_goals rw [ha, hb, hc] at HF
      all_goals go_wp2_with (go_at_call 41; refine (bit_any _ _ hk _).mono ?_; rintro e w' ⟨rfl, rfl⟩)
      all_goals
        go_roundg g1
        case measure => omega
        case rel => exact ⟨k + 1, by omega, by go_num, by rw [pre]; simp only [HF.out]; first | rfl | exact congrArg (Value.int .u32) (pre_add _ k hk), rfl⟩
end Go.Proofs.Ytdfknobohgncaaa
