/- The contracts of check.Common, check.Multiple, remontoirref02.Divides and the law's alive: each returns what a plain function on integers says, for every argument; the world is as it was, but that draws may have been made. -/
import Derived.Test.YtnmejabmnapmpaaChk
import Derived.LoopTactic
import Derived.RegionTactic
import Derived.Deep.QuietTactic
import Derived.BigQuiet
import Derived.Below
import Derived.Outline
namespace Go.Proofs.Ytnmejabmnapmpaa
open Go.RowKit

def comN (a b : Int) : Int := if numB a && numB b then (Nat.gcd a.toNat b.toNat : Int) else 0
def comB (a b : Int) : Bool := numB a && numB b

/-- The world but for draws. -/
def Drewn (w w' : World) : Prop := ∃ n, w' = w.drewN n

theorem gcd_step (x y : Nat) : Nat.gcd y (x % y) = Nat.gcd x y := by
  rw [Nat.gcd_comm, ← Nat.gcd_rec, Nat.gcd_comm]

theorem common_any (a b : Int) (w : World) : Calls Try.prog 19 #[.int .i64 a, .int .i64 b] w fun e w' => e = .returned (.tuple #[.int .i64 (comN a b), .bool (comB a b)]) ∧ Drewn w w' := by
  unfold comN comB
  rcases numB_cases a with ⟨ha, ha1, ha2⟩ | ⟨ha, ha1⟩
  · rcases numB_cases b with ⟨hb, hb1, hb2⟩ | ⟨hb, hb1⟩
    · rw [ha, hb]
      obtain ⟨x, rfl⟩ := Int.eq_ofNat_of_zero_le ha1
      obtain ⟨y, rfl⟩ := Int.eq_ofNat_of_zero_le hb1
      go_enter Try.func19, Try.ntmps19
      go_wp2_with (go_at_call 22; refine (number_any _ _).mono ?_; rintro e w' ⟨rfl, rfl⟩)
      go_loopw [0, 1] (fun a b wr => ∃ p q : Nat, p ≤ 1099511627776 ∧ q ≤ 1099511627776 ∧ a = .int .i64 p ∧ b = .int .i64 q ∧ Nat.gcd p q = Nat.gcd x y ∧ Drewn w wr) (fun _ b _ => (intOf b).toNat)
      case atStart => exact ⟨x, y, by omega, by omega, rfl, rfl, rfl, 0, rfl⟩
      case round =>
        obtain ⟨p, q, hp, hq, rfl, rfl, hg, n, hn⟩ := hrel
        have HG := Lib.hid hg
        have HN := Lib.hid hn
        clear hg hn
        by_cases hlt : 0 < q
        · have h0 : (q : Int) ≠ 0 := by omega
          go_wp2
          go_quiet (fail)
          go_wp2
          go_roundw
          case rel => exact ⟨q, p % q, hq, by have := Nat.mod_le p q; omega, rfl, by go_num, (gcd_step p q).trans HG.out, ⟨_, by rw [HN.out]; exact World.drewN_drewN _ _ _⟩⟩
          case measure => simp [intOf]; have := Nat.mod_lt p hlt; omega
        · obtain rfl : q = 0 := by omega
          go_wp2
          go_ret2
          exact ⟨by have h := HG.out; simp at h; simp [h], n, HN.out⟩
    · rw [ha, hb]
      go_enter Try.func19, Try.ntmps19
      go_wp2_with (go_at_call 22; refine (number_any _ _).mono ?_; rintro e w' ⟨rfl, rfl⟩)
      go_ret2
      exact ⟨by simp, 0, rfl⟩
  · rw [ha]
    go_enter Try.func19, Try.ntmps19
    go_wp2_with (go_at_call 22; refine (number_any _ _).mono ?_; rintro e w' ⟨rfl, rfl⟩)
    go_ret2
    exact ⟨by simp, 0, rfl⟩

theorem Drewn.refl (w : World) : Drewn w w := ⟨0, rfl⟩
theorem Drewn.trans {a b c : World} (h : Drewn a b) (h' : Drewn b c) : Drewn a c := by
  obtain ⟨n, rfl⟩ := h; obtain ⟨m, rfl⟩ := h'
  exact ⟨_, World.drewN_drewN _ _ _⟩
theorem Drewn.grown {a b : World} (h : Drewn a b) : Grown a b := by
  obtain ⟨n, rfl⟩ := h
  exact Grown.refl a

def mupB (a b : Int) : Bool := comB a b && !(a == 0) && !(b == 0) && mulB (a / comN a b) b
def mupN (a b : Int) : Int := if comB a b && !(a == 0) && !(b == 0) then mulN (a / comN a b) b else 0

theorem com_pos {a b : Int} (h : comB a b = true) (ha : a ≠ 0) : 1 ≤ comN a b ∧ comN a b ≤ a ∧ comN a b ≤ 1099511627776 := by
  unfold comB at h; unfold comN; rw [if_pos h]
  rcases numB_cases a with ⟨h1, h2, h3⟩ | ⟨h1, h2⟩
  · have hp : 0 < a.toNat := by omega
    have := Nat.gcd_pos_of_pos_left b.toNat hp
    have := Nat.gcd_le_left b.toNat hp
    omega
  · rw [h1] at h; cases h

theorem com_bds {a b : Int} (h : comB a b = true) : 0 ≤ a ∧ a ≤ 1099511627776 ∧ 0 ≤ b ∧ b ≤ 1099511627776 := by
  unfold comB at h
  rcases numB_cases a with ⟨h1, h2, h3⟩ | ⟨h1, h2⟩
  · rcases numB_cases b with ⟨h4, h5, h6⟩ | ⟨h4, h5⟩
    · exact ⟨h2, h3, h5, h6⟩
    · rw [h1, h4] at h; cases h
  · rw [h1] at h; cases h

theorem multiple_any (a b : Int) (w : World) : Calls Try.prog 20 #[.int .i64 a, .int .i64 b] w fun e w' => e = .returned (.tuple #[.int .i64 (mupN a b), .bool (mupB a b)]) ∧ Drewn w w' := by
  cases hc : comB a b
  · have e1 : mupN a b = 0 := by simp [mupN, hc]
    have e2 : mupB a b = false := by simp [mupB, hc]
    rw [e1, e2]
    clear e1 e2
    go_enter Try.func20, Try.ntmps20
    go_wp2_with (go_at_call 19; refine (common_any _ _ _).mono ?_; rintro e w' ⟨rfl, hd⟩)
    go_ret2
    exact ⟨rfl, hd⟩
  · by_cases ha : a = 0
    · subst ha
      have e1 : mupN 0 b = 0 := by simp [mupN]
      have e2 : mupB 0 b = false := by simp [mupB]
      rw [e1, e2]
      clear e1 e2
      go_enter Try.func20, Try.ntmps20
      go_wp2_with (go_at_call 19; refine (common_any _ _ _).mono ?_; rintro e w' ⟨rfl, hd⟩)
      go_ret2
      exact ⟨rfl, hd⟩
    · have ea : (a == 0) = false := by simp; omega
      by_cases hb : b = 0
      · subst hb
        have e1 : mupN a 0 = 0 := by simp [mupN]
        have e2 : mupB a 0 = false := by simp [mupB]
        rw [e1, e2]
        clear e1 e2
        go_enter Try.func20, Try.ntmps20
        go_wp2_with (go_at_call 19; refine (common_any _ _ _).mono ?_; rintro e w' ⟨rfl, hd⟩)
        go_ret2
        exact ⟨rfl, hd⟩
      · have eb : (b == 0) = false := by simp; omega
        obtain ⟨h1, h2, h3⟩ := com_pos hc ha
        obtain ⟨h4, h5, h6, h7⟩ := com_bds hc
        have e1 : mupN a b = mulN (a / comN a b) b := by simp [mupN, hc, ea, eb]
        have e2 : mupB a b = mulB (a / comN a b) b := by simp [mupB, hc, ea, eb]
        rw [e1, e2]
        clear e1 e2
        have hq := quo_bds h4 (by omega : 0 < comN a b)
        obtain ⟨q1, q2, -, -, -⟩ := hq
        go_enter Try.func20, Try.ntmps20
        go_wp2_with (first | (go_at_call 19; refine (common_any _ _ _).mono ?_; rintro e w' ⟨rfl, hd⟩) | (go_at_call 7; refine (mul_any _ _ _).mono ?_; rintro e w' ⟨rfl, rfl⟩))
        go_ret2
        exact ⟨rfl, hd⟩

def divB (a b : Int) : Bool := (!(a == 0) && (b % a == 0)) || ((a == 0) && (b == 0))
theorem divides_any (a b : Int) (w : World) (ha : 0 ≤ a) (hb : 0 ≤ b) : Calls Try.prog 21 #[.int .i64 a, .int .i64 b] w fun e w' => e = .returned (.bool (divB a b)) ∧ w = w' := by
  unfold divB
  by_cases h0 : a = 0
  · subst h0
    go_enter Try.func21, Try.ntmps21
    go_wp2
    go_ret
    exact ⟨by simp, rfl⟩
  · have ea : (a == 0) = false := by simp; omega
    cases he : (b % a == 0)
    · go_enter Try.func21, Try.ntmps21
      go_wp2
      go_ret
      exact ⟨by simp [ea], rfl⟩
    · go_enter Try.func21, Try.ntmps21
      go_wp2
      go_ret
      exact ⟨by simp [ea], rfl⟩

theorem up_72 (w : World) : Calls Try.prog 8 #[.int .i64 7, .int .i64 2] w fun e w' => e = .returned (.tuple #[.int .i64 4, .bool true]) ∧ w = w' := up_any 7 2 w
theorem common_1218 (w : World) : Calls Try.prog 19 #[.int .i64 12, .int .i64 18] w fun e w' => e = .returned (.tuple #[.int .i64 6, .bool true]) ∧ Drewn w w' := common_any 12 18 w
theorem multiple_46 (w : World) : Calls Try.prog 20 #[.int .i64 4, .int .i64 6] w fun e w' => e = .returned (.tuple #[.int .i64 12, .bool true]) ∧ Drewn w w' := multiple_any 4 6 w

theorem alive_any (w : World) : Calls Try.prog 14 #[] w fun e w' => e = .returned (.bool true) ∧ Drewn w w' := by
  go_enter Try.func14, Try.ntmps14
  go_wp2_with (first | (go_at_call 8; refine (up_72 _).mono ?_; rintro e w' ⟨rfl, rfl⟩) | (go_at_call 19; refine (common_1218 _).mono ?_; rintro e w' ⟨rfl, hd⟩) | (go_at_call 20; refine (multiple_46 _).mono ?_; rintro e w' ⟨rfl, hd'⟩))
  go_ret
  exact ⟨rfl, hd.trans hd'⟩

end Go.Proofs.Ytnmejabmnapmpaa
