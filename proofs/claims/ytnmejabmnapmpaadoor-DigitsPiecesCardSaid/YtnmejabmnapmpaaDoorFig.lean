/- The contract of digits.figures: the value of a text of figures, wrapped round, or none. -/
import Derived.Test.YtnmejabmnapmpaaDoorProg
import Derived.WalkKit
import Derived.ProofKit
import Derived.WalkLawsBesides
import Derived.WalkSpells
import Derived.WalkMore
import Derived.Lib.Hide
import Derived.LoopTactic
import Derived.RegionTactic
import Derived.Deep.QuietTactic
import Derived.Deep.LoopGhost
import Derived.BigQuiet
import Derived.Below
import Derived.Outline
import Derived.Deep.Draws
namespace Go.Proofs.YtnmejabmnapmpaaDoor
open Go.RowKit

def dv (c : UInt8) : Nat := if 48 ≤ c.toNat ∧ c.toNat ≤ 57 then c.toNat - 48 else if 97 ≤ c.toNat ∧ c.toNat ≤ 102 then c.toNat - 87 else 99
def figN (b : Nat) : Int → List UInt8 → Option Int
  | n, [] => some n
  | n, c :: r => if dv c < b then figN b (wrap64 (wrap64 (n * b) + dv c)) r else none

def Drewn (w w' : World) : Prop := ∃ n, w' = w.drewN n
theorem Drewn.refl (w : World) : Drewn w w := ⟨0, rfl⟩
theorem Drewn.trans {a b c : World} (h : Drewn a b) (h' : Drewn b c) : Drewn a c := by
  obtain ⟨n, rfl⟩ := h; obtain ⟨m, rfl⟩ := h'
  exact ⟨_, World.drewN_drewN _ _ _⟩
theorem Drewn.below {a b : World} {B : Nat} (h : Drewn a b) : Below B a b := by
  obtain ⟨n, rfl⟩ := h; exact ⟨rfl, rfl, rfl, Nat.le_refl _, fun _ _ => rfl⟩

def figEnd (b : Nat) (l : List UInt8) : Ending := .returned (.tuple #[.int .i64 ((figN b 0 l).getD 0), .bool (figN b 0 l).isSome])

theorem sig_at (q : Nat) (h : q < 16) : ((⟨#[48, 49, 50, 51, 52, 53, 54, 55, 56, 57, 97, 98, 99, 100, 101, 102]⟩ : ByteArray)[q]'h).toNat = if q < 10 then 48 + q else 87 + q := by
  have : ∀ q : Fin 16, ((⟨#[48, 49, 50, 51, 52, 53, 54, 55, 56, 57, 97, 98, 99, 100, 101, 102]⟩ : ByteArray)[q.1]'q.2).toNat = if q.1 < 10 then 48 + q.1 else 87 + q.1 := by decide
  exact this ⟨q, h⟩
theorem sig_eq (c : UInt8) (q : Nat) (h : q < 16) :
    ((c.toNat : Int) == (((⟨#[48, 49, 50, 51, 52, 53, 54, 55, 56, 57, 97, 98, 99, 100, 101, 102]⟩ : ByteArray)[q]'h).toNat : Int)) = decide (dv c = q) := by
  rw [sig_at q h, Bool.eq_iff_iff]
  simp only [beq_iff_eq, decide_eq_true_eq]
  unfold dv
  split <;> split <;> (try split) <;> omega
theorem drop_cons (s : ByteArray) (k : Nat) (h : k < s.size) : s.data.toList.drop k = s[k] :: s.data.toList.drop (k + 1) := by
  rw [List.drop_eq_getElem_cons (by simpa using h)]; rfl

theorem figures_any (s : ByteArray) (b : Nat) (hb : b = 10 ∨ b = 16) (w : World) (hs : s.size ≤ 9223372036854775807) :
    Calls Tryd.prog 22 #[.string s, .int .i64 b] w fun e w' => e = figEnd b s.data.toList ∧ Drewn w w' := by
  unfold figEnd
  go_enter Tryd.func22, Tryd.ntmps22
  go_wp2
  go_step3
  go_wp2
  go_step3
  go_wp2
  go_loopg [6, 11] s.size (fun g n i wr => ∃ (k : Nat) (m : Int), k + g = s.size ∧ i = .int .i64 k ∧ n = .int .i64 m ∧ Aside (figN b 0 s.data.toList = figN b m (s.data.toList.drop k)) ∧ Aside (Drewn w wr))
  case atStart => exact ⟨0, 0, by omega, rfl, rfl, rfl, Drewn.refl _⟩
  case round =>
    obtain ⟨k, m, hkg, rfl, rfl, HI, hd⟩ := hrel
    cases gk with
    | zero =>
      obtain rfl : k = s.size := by omega
      go_wp2
      rw [Exit.noGoto_ret]
      go_ret2
      have h := HI.out
      rw [List.drop_of_length_le (by simp)] at h
      exact ⟨by rw [h]; rfl, hd.out⟩
    | succ g1 =>
      have hlt : k < s.size := by omega
      have hk1 : (k : Int) < (s.size : Int) := by omega
      go_wp2
      go_loopg [6, 15] b (fun g n v wx => ∃ (q : Nat), q + g = b ∧ v = .int .i64 q ∧ n = .int .i64 m ∧ Aside (Drewn w wx ∧ q ≤ dv s[k]))
      case atStart => exact ⟨0, by omega, rfl, rfl, hd.out, Nat.zero_le _⟩
      case round =>
        obtain ⟨q, hqg, rfl, rfl, hdx⟩ := hrel
        cases gk with
        | zero =>
          obtain rfl : q = b := by omega
          go_wp2
          rw [Exit.noGoto_ret]
          go_ret2
          have h := HI.out
          rw [drop_cons s k hlt, figN, if_neg (by have := hdx.out.2; omega)] at h
          exact ⟨by rw [h]; rfl, hdx.out.1⟩
        | succ g2 =>
          have hq16 : q < 16 := by omega
          have hq1 : (q : Int) < (16 : Int) := by omega
          have hq2 : (q : Int) < (b : Int) := by omega
          have hse := sig_eq s[k] q hq16
          by_cases hq : dv s[k] = q
          · rw [decide_eq_true hq] at hse
            have HQ : Aside (dv s[k] = q) := hq
            clear hq
            go_wp2
            go_quiet (fail)
            go_wp2
            go_roundg g1
            case measure => omega
            case rel =>
              refine ⟨k + 1, _, by omega, by go_num, rfl, ?_, hdx.out.1.trans ⟨_, rfl⟩⟩
              have h := HI.out
              rw [drop_cons s k hlt, figN, if_pos (by have := HQ.out; omega), HQ.out] at h
              exact h
          · rw [decide_eq_false hq] at hse
            have HQ : Aside (dv s[k] ≠ q) := hq
            clear hq
            go_wp2
            go_quiet (fail)
            go_wp2
            go_roundg g2
            case measure => omega
            case rel => exact ⟨q + 1, by omega, by go_num, rfl, hdx.out.1.trans ⟨_, rfl⟩, by have := HQ.out; have := hdx.out.2; omega⟩

end Go.Proofs.YtnmejabmnapmpaaDoor
