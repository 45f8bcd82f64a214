/- The contract of ready's Set: all that is ready. -/
import Derived.Test.YtimaihdlaaonbaaDoorLev
namespace Go.Proofs.YtimaihdlaaonbaaDoor
open Go.RowKit

/-- All that is ready at the levels below k. -/
def accU (q : Nat → Nat) : Nat → BitVec 32
  | 0 => 0#32
  | k + 1 => accU q k ||| lv q k
theorem accU_bit (q : Nat → Nat) (k i : Nat) (hi : i < 32) : (accU q k).getLsbD i = decide (q i ≠ 0 ∧ q i ≤ k) := by
  induction k with
  | zero => simp [accU]
  | succ k ih =>
    unfold accU
    rw [BitVec.getLsbD_or, ih, lv_bit q k i hi, Bool.eq_iff_iff, Bool.or_eq_true, decide_eq_true_iff, decide_eq_true_iff, decide_eq_true_iff]
    omega
theorem mem_allP (q : Nat → Nat) (k n l : Nat) : (n, l) ∈ allP q k ↔ l < k ∧ n < 32 ∧ q n = l + 1 := by
  induction k with
  | zero => simp [allP]
  | succ k ih =>
    unfold allP
    rw [List.mem_append, ih, List.mem_map]
    constructor
    · rintro (⟨h1, h2, h3⟩ | ⟨m, hm, he⟩)
      · exact ⟨by omega, h2, h3⟩
      · injection he with e1 e2
        subst e1; subst e2
        rw [mem_lst] at hm
        have := hm.2
        rw [lv_bit q k m hm.1] at this
        exact ⟨by omega, hm.1, by simpa using this⟩
    · rintro ⟨h1, h2, h3⟩
      by_cases e : l = k
      · subst e
        exact .inr ⟨n, by rw [mem_lst]; exact ⟨h2, by rw [lv_bit q l n h2]; simpa using h3⟩, rfl⟩
      · exact .inl ⟨by omega, h2, h3⟩
/-- The numbers of all that is ready. -/
def numsP (q : Nat → Nat) : List Int := (allP q 32).map fun x => (x.1 : Int)
theorem ofR_nums (q : Nat → Nat) (_hb : ∀ i, q i ≤ 32) : ofR (numsP q) = accU q 32 := by
  apply BitVec.eq_of_getLsbD_eq; intro i hi
  rw [ofR_bit _ i hi, accU_bit q 32 i hi, Bool.eq_iff_iff, decide_eq_true_iff, decide_eq_true_iff]
  unfold numsP
  rw [List.mem_map]
  constructor
  · rintro ⟨⟨n, l⟩, hm, he⟩
    rw [mem_allP] at hm
    have he' : (n : Int) = (i : Int) := he
    obtain rfl : n = i := by omega
    omega
  · rintro ⟨h1, h2⟩
    exact ⟨(i, q i - 1), by rw [mem_allP]; omega, rfl⟩

theorem set_any (B : Nat) (q : Nat → Nat) (w : World) (h : QAt w B q) :
    Calls Tryd.prog 13 #[.pointer (some ⟨B, 0, none⟩)] w fun e w' => e = .returned (.int .u32 (w32 (accU q 32))) ∧ w = w' := by
  have H := Lib.hid h
  clear h
  go_enter Tryd.func13, Tryd.ntmps13
  go_wp2_with (refine wpList_load_mid rfl 26 (.tmp 8) rfl B 0 rfl (lvs q) _ H.out.range Tryd.underlying26 rfl (by rw [info26, lvs_len]) ?_)
  go_loopg [3, 5, 10] 32 (fun g a s i wr => ∃ (k : Nat), k + g = 32 ∧ i = .int .i64 k ∧ a = .int .u32 (w32 (accU q k)) ∧ Aside (w = wr))
  case atStart => exact ⟨0, by omega, rfl, rfl, rfl⟩
  case round =>
    obtain ⟨k, hkg, rfl, rfl, hw⟩ := hrel
    obtain rfl := hw.out
    clear hw
    cases gk with
    | zero =>
      obtain rfl : k = 32 := by omega
      go_wp2
      go_ret
      exact ⟨rfl, rfl⟩
    | succ g1 =>
      have hk : k < 32 := by omega
      have hix := index_lvs q k hk
      have ho := or32 (accU q k) (lv q k)
      go_wp2
      go_roundg g1
      case measure => omega
      case rel => exact ⟨k + 1, by omega, by go_num, rfl, rfl⟩
end Go.Proofs.YtimaihdlaaonbaaDoor
