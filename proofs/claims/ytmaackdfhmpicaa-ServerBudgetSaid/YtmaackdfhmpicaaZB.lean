/- The contracts of check.Common, check.Multiple and fix.together. -/
import Derived.Test.YtmaackdfhmpicaaXE
import Derived.Test.YtmaackdfhmpicaaZA
namespace Go.Proofs.Ytmaackdfhmpicaa
open Go.RowKit

def comN (a b : Int) : Int := if numB a && numB b then (Nat.gcd a.toNat b.toNat : Int) else 0
def comB (a b : Int) : Bool := numB a && numB b
theorem gcd_step (x y : Nat) : Nat.gcd y (x % y) = Nat.gcd x y := by
  rw [Nat.gcd_comm, ← Nat.gcd_rec, Nat.gcd_comm]
theorem common_any (a b : Int) (w : World) : Calls Try.prog 82 #[.int .i64 a, .int .i64 b] w fun e w' => e = .returned (.tuple #[.int .i64 (comN a b), .bool (comB a b)]) ∧ Below w.heap.size w w' := by
  unfold comN comB
  rcases numB_cases a with ⟨ha, ha1, ha2⟩ | ⟨ha, ha1⟩
  · rcases numB_cases b with ⟨hb, hb1, hb2⟩ | ⟨hb, hb1⟩
    · rw [ha, hb]
      obtain ⟨x, rfl⟩ := Int.eq_ofNat_of_zero_le ha1
      obtain ⟨y, rfl⟩ := Int.eq_ofNat_of_zero_le hb1
      go_enter Try.func82, Try.ntmps82
      go_wp2_with (go_at_call 65; refine (number_any _ _).mono ?_; rintro e w' ⟨rfl, rfl⟩)
      go_loopw [0, 1] (fun a b wr => ∃ p q : Nat, p ≤ 1099511627776 ∧ q ≤ 1099511627776 ∧ a = .int .i64 p ∧ b = .int .i64 q ∧ Nat.gcd p q = Nat.gcd x y ∧ Below w.heap.size w wr) (fun _ b _ => (intOf b).toNat)
      case atStart => exact ⟨x, y, by omega, by omega, rfl, rfl, rfl, Below.refl _ _⟩
      case round =>
        obtain ⟨p, q, hp, hq, rfl, rfl, hg, hn⟩ := hrel
        have HG := Lib.hid hg
        have HN := Lib.hid hn
        clear hg hn
        by_cases hlt : 0 < q
        · have h0 : (q : Int) ≠ 0 := by omega
          go_wp2
          go_quiet (fail)
          go_wp2
          go_roundw
          case rel => exact ⟨q, p % q, hq, by have := Nat.mod_le p q; omega, rfl, by go_num, (gcd_step p q).trans HG.out, below_dn HN.out _⟩
          case measure => simp [intOf]; have := Nat.mod_lt p hlt; omega
        · obtain rfl : q = 0 := by omega
          go_wp2
          go_ret2
          exact ⟨by have h := HG.out; simp at h; simp [h], HN.out⟩
    · rw [ha, hb]
      go_enter Try.func82, Try.ntmps82
      go_wp2_with (go_at_call 65; refine (number_any _ _).mono ?_; rintro e w' ⟨rfl, rfl⟩)
      go_ret2
      exact ⟨by simp, Below.refl _ _⟩
  · rw [ha]
    go_enter Try.func82, Try.ntmps82
    go_wp2_with (go_at_call 65; refine (number_any _ _).mono ?_; rintro e w' ⟨rfl, rfl⟩)
    go_ret2
    exact ⟨by simp, Below.refl _ _⟩
def mupB (a b : Int) : Bool := comB a b && !(a == 0) && !(b == 0) && mulB (a / comN a b) b
def mupN (a b : Int) : Int := if comB a b && !(a == 0) && !(b == 0) then mulN (a / comN a b) b else 0
theorem com_pos {a b : Int} (h : comB a b = true) (ha : a ≠ 0) : 1 ≤ comN a b ∧ comN a b ≤ a ∧ comN a b ≤ 1099511627776 := by
  unfold comB at h; unfold comN; rw [if_pos h]
  rcases numB_cases a with ⟨h1, h2, h3⟩ | ⟨h1, h2⟩
  · have hp : 0 < a.toNat := by omega
    have := Nat.gcd_pos_of_pos_left b.toNat hp
    have := Nat.gcd_le_left b.toNat hp
    omega
  · rw [h1] at h; cases h
theorem com_bds {a b : Int} (h : comB a b = true) : 0 ≤ a ∧ a ≤ 1099511627776 ∧ 0 ≤ b ∧ b ≤ 1099511627776 := by
  unfold comB at h
  rcases numB_cases a with ⟨h1, h2, h3⟩ | ⟨h1, h2⟩
  · rcases numB_cases b with ⟨h4, h5, h6⟩ | ⟨h4, h5⟩
    · exact ⟨h2, h3, h5, h6⟩
    · rw [h1, h4] at h; cases h
  · rw [h1] at h; cases h
theorem multiple_any (a b : Int) (w : World) : Calls Try.prog 77 #[.int .i64 a, .int .i64 b] w fun e w' => e = .returned (.tuple #[.int .i64 (mupN a b), .bool (mupB a b)]) ∧ Below w.heap.size w w' := by
  cases hc : comB a b
  · have e1 : mupN a b = 0 := by simp [mupN, hc]
    have e2 : mupB a b = false := by simp [mupB, hc]
    rw [e1, e2]
    clear e1 e2
    go_enter Try.func77, Try.ntmps77
    go_wp2_with (go_at_call 82; refine (common_any _ _ _).mono ?_; rintro e w' ⟨rfl, hd⟩)
    go_ret2
    exact ⟨rfl, hd⟩
  · by_cases ha : a = 0
    · subst ha
      have e1 : mupN 0 b = 0 := by simp [mupN]
      have e2 : mupB 0 b = false := by simp [mupB]
      rw [e1, e2]
      clear e1 e2
      go_enter Try.func77, Try.ntmps77
      go_wp2_with (go_at_call 82; refine (common_any _ _ _).mono ?_; rintro e w' ⟨rfl, hd⟩)
      go_ret2
      exact ⟨rfl, hd⟩
    · have ea : (a == 0) = false := by simp; omega
      by_cases hb : b = 0
      · subst hb
        have e1 : mupN a 0 = 0 := by simp [mupN]
        have e2 : mupB a 0 = false := by simp [mupB]
        rw [e1, e2]
        clear e1 e2
        go_enter Try.func77, Try.ntmps77
        go_wp2_with (go_at_call 82; refine (common_any _ _ _).mono ?_; rintro e w' ⟨rfl, hd⟩)
        go_ret2
        exact ⟨rfl, hd⟩
      · have eb : (b == 0) = false := by simp; omega
        obtain ⟨h1, h2, h3⟩ := com_pos hc ha
        obtain ⟨h4, h5, h6, h7⟩ := com_bds hc
        have e1 : mupN a b = mulN (a / comN a b) b := by simp [mupN, hc, ea, eb]
        have e2 : mupB a b = mulB (a / comN a b) b := by simp [mupB, hc, ea, eb]
        rw [e1, e2]
        clear e1 e2
        have hq := quo_bds h4 (by omega : 0 < comN a b)
        obtain ⟨q1, q2, -, -, -⟩ := hq
        go_enter Try.func77, Try.ntmps77
        go_wp2_with (first | (go_at_call 82; refine (common_any _ _ _).mono ?_; rintro e w' ⟨rfl, hd⟩) | (go_at_call 76; refine (mul_any _ _ _).mono ?_; rintro e w' ⟨rfl, rfl⟩))
        go_ret2
        exact ⟨rfl, hd⟩
theorem mup_no {a b : Int} (h : mupB a b = false) : mupN a b = 0 := by
  unfold mupB at h; unfold mupN
  split
  · rename_i hc
    rw [hc] at h
    simp only [Bool.true_and] at h
    unfold mulN mulB at *
    rw [h]; rfl
  · rfl
/-- A common multiple is one of both; 0: there is none. -/
theorem mup_good (a b : Int) : 0 ≤ mupN a b ∧ mupN a b ≤ 1099511627776 ∧ (mupN a b = 0 ∨ (a ∣ mupN a b ∧ b ∣ mupN a b)) := by
  cases h : mupB a b with
  | false => rw [mup_no h]; exact ⟨Int.le_refl _, by omega, .inl rfl⟩
  | true =>
    have h' := h
    simp only [mupB, Bool.and_eq_true, Bool.not_eq_true', beq_eq_false_iff_ne] at h
    obtain ⟨⟨⟨hc, ha⟩, hb⟩, hm⟩ := h
    have e1 : mupN a b = mulN (a / comN a b) b := by unfold mupN; rw [if_pos]; simp [hc, ha, hb]
    have e2 : mulN (a / comN a b) b = a / comN a b * b := by unfold mulN; rw [if_pos (by simpa [mulB] using hm)]
    simp only [mulB, Bool.and_eq_true, numB_iff] at hm
    rw [e1, e2]
    refine ⟨hm.2.1, hm.2.2, .inr ⟨?_, Int.dvd_mul_left _ _⟩⟩
    obtain ⟨p1, p2, p3⟩ := com_pos hc ha
    obtain ⟨h4, h5, h6, h7⟩ := com_bds hc
    have hg : comN a b = (Nat.gcd a.toNat b.toNat : Int) := by unfold comN; rw [if_pos (by simpa [comB] using hc)]
    have da : comN a b ∣ a := by
      rw [hg]
      have := Int.natCast_dvd_natCast.2 (Nat.gcd_dvd_left a.toNat b.toNat)
      rwa [Int.toNat_of_nonneg h4] at this
    have db : comN a b ∣ b := by
      rw [hg]
      have := Int.natCast_dvd_natCast.2 (Nat.gcd_dvd_right a.toNat b.toNat)
      rwa [Int.toNat_of_nonneg h6] at this
    obtain ⟨q, hq⟩ := db
    have : a / comN a b * b = a * q := by
      have e : a / comN a b * comN a b = a := Int.ediv_mul_cancel da
      calc a / comN a b * b = a / comN a b * (comN a b * q) := by rw [← hq]
        _ = a / comN a b * comN a b * q := by rw [Int.mul_assoc]
        _ = a * q := by rw [e]
    rw [this]
    exact Int.dvd_mul_right _ _
theorem tog_any {w : World} {V : Nat → Prop} {S : Src} {L : List Tm} (h : TermsAt w V S L) (hl : L.length ≤ 1000) (own n : Int) :
    Calls Try.prog 70 #[.int .i64 own, .int .i64 n, .slice S.sp L.length S.c] w fun e w' => e = .returned (.tuple #[.int .i64 (togN own L n), .bool (togB own L n)]) ∧ Below w.heap.size w w' := by
  have HW := Lib.hid (show Calls Try.prog 54 #[.int .i64 n, .slice S.sp L.length S.c] w fun e w' => e = .returned (.tuple #[.int .i64 (valL L n), .bool (okL L n)]) ∧ Below w.heap.size w w' from dwork_any h hl n)
  unfold togN togB
  clear h hl
  generalize valL L n = v at HW ⊢
  cases hk : okL L n with
  | false =>
    rw [hk] at HW
    clear hk
    go_enter Try.func70, Try.ntmps70
    go_wp2_with (go_at_call 54; refine HW.out.mono ?_; rintro e w3 ⟨rfl, b3⟩; have H3 := Lib.hid b3; clear b3)
    go_ret2
    exact ⟨rfl, H3.out⟩
  | true =>
    rw [hk] at HW
    clear hk
    go_enter Try.func70, Try.ntmps70
    go_wp2_with (first
      | (go_at_call 54; refine HW.out.mono ?_; rintro e w3 ⟨rfl, b3⟩; have H3 := Lib.hid b3; clear b3)
      | (go_at_call 55; refine (add_any _ _ _).mono ?_; rintro e w4 ⟨rfl, rfl⟩)
      | fail)
    go_ret2
    exact ⟨by simp, H3.out⟩
end Go.Proofs.Ytmaackdfhmpicaa
