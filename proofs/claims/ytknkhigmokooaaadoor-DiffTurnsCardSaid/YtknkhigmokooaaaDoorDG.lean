/- The contracts of digits' Text and of the reference's. -/
import Derived.Test.YtknkhigmokooaaaDoorShelf
import Derived.Lib.ItoaNum
import Derived.OpenVars
import Derived.Laws.BytesArg
import Derived.RangeFuncRecord
import Derived.WalkKit
import Derived.ProofKit
import Derived.WalkLawsBesides
import Derived.WalkSpells
import Derived.WalkMore
import Derived.Lib.Hide
import Derived.LoopTactic
import Derived.RegionTactic
import Derived.Deep.QuietTactic
import Derived.Deep.LoopGhost
import Derived.BigQuiet
import Derived.Below
import Derived.Outline
import Derived.Deep.Draws
namespace Go.Proofs.YtknkhigmokooaaaDoor
open Go.RowKit Go.Lib

theorem dec_step {m : Nat} (h : ¬ m < 10) : decDigits m = decDigits (m / 10) ++ [UInt8.ofNat (48 + m % 10)] := by rw [decDigits, dif_neg h]
def clamp (n : Int) : Nat := (min (max n 0) 2147483647).toNat
theorem clamp_le (n : Int) : clamp n ≤ 2147483647 := by unfold clamp; omega
theorem clamp_in {n : Int} (h : 0 ≤ n) (h' : n ≤ 2147483647) : (clamp n : Int) = n := by unfold clamp; omega

/-- What lies below stays; the table too. -/
def PTab (w : World) : Prop := Lib.TabIs Tryd.prog w "internal/strconv.uint64pow10" .u64 Lib.pow10Tab
theorem PTab.below {w w' : World} (h : PTab w) (hb : Below w.heap.size w w') : PTab w' := by
  unfold PTab Lib.TabIs at h ⊢
  unfold World.var? at h ⊢
  cases hg : Tryd.prog.globalNamed "internal/strconv.uint64pow10" with
  | none => rw [hg] at h; simp at h
  | some g =>
    rw [hg] at h
    simp only [Option.bind_some] at h ⊢
    have h0 : g < w.heap.size := by
      cases hh : w.heap[g]? with
      | none => rw [hh] at h; cases h
      | some o => exact (Array.getElem?_eq_some_iff.1 hh).1
    rw [hb.block g h0]; exact h
theorem below_grow (w : World) (k : Nat) (os : Array Obj) : Below w.heap.size w (Sort.grow (w.drewN k) os) := by
  refine ⟨rfl, rfl, rfl, ?_, fun j hj => ?_⟩
  · simp [Sort.grow]
  · simp [Sort.grow, Array.getElem?_append, hj]

theorem text_any (n : Int) (w : World) (ht : PTab w) : Calls Tryd.prog 58 #[.int .i64 n] w fun e w' => e = .returned (.string ⟨(decDigits (clamp n)).toArray⟩) ∧ Below w.heap.size w w' := by
  have hi : Calls Tryd.prog 78 #[.int .i64 (min (max n 0) 2147483647)] w fun e w' => e = .returned (.string ⟨(decDigits (clamp n)).toArray⟩) ∧ Below w.heap.size w w' := by
    refine (Tryd.strconv_Itoa _ (by omega) (by omega) w ht).mono ?_
    rintro e w' ⟨rfl, k, os, rfl⟩
    exact ⟨by rw [itoa, if_neg (by omega)]; rfl, below_grow w k os⟩
  go_enter Tryd.func58, Tryd.ntmps58
  go_wp2_with (go_at_call 78; refine hi.mono ?_; rintro e w' ⟨rfl, hb⟩)
  go_ret
  exact ⟨rfl, hb⟩

theorem app_bytes (x : UInt8) (acc : List UInt8) : (⟨#[x]⟩ : ByteArray) ++ (⟨acc.toArray⟩ : ByteArray) = ⟨(x :: acc).toArray⟩ := by
  apply ByteArray.ext
  rw [ByteArray.data_append]
  simp
theorem dec_len (m : Nat) : (decDigits m).length ≤ m + 1 := by
  induction m using Nat.strongRecOn with
  | ind m ih =>
    by_cases h10 : m < 10
    · rw [decDigits_one h10]; simp
    · rw [dec_step h10]
      have := ih (m / 10) (by omega)
      simp; omega
/-- The digits of a number; none of 0. -/
def dd (r : Nat) : List UInt8 := if r = 0 then [] else decDigits r
theorem dd_step (r : Nat) (h : 0 < r) : dd r = dd (r / 10) ++ [UInt8.ofNat (48 + r % 10)] := by
  unfold dd
  rw [if_neg (by omega)]
  by_cases h10 : r < 10
  · rw [if_pos (by omega), decDigits_one h10, Nat.mod_eq_of_lt h10]; rfl
  · rw [if_neg (by omega), dec_step h10]
theorem dec_dd (r : Nat) : decDigits r = dd (r / 10) ++ [UInt8.ofNat (48 + r % 10)] := by
  by_cases h : r = 0
  · subst h; rw [decDigits_one (by omega)]; rfl
  · rw [← dd_step r (by omega)]; unfold dd; rw [if_neg h]

theorem conv_one (W : World) (x : Int) : (convert 114 9 (.slice (some ⟨W.heap.size, 0, none⟩) 1 1)).run Tryd.prog (W.alloc (.cells #[.int .u8 x] 5)) = .ok (.string ⟨#[UInt8.ofNat x.toNat]⟩) (W.alloc (.cells #[.int .u8 x] 5)) := by
  rw [run_convert_bytes_arg _ 114 5 Tryd.underlying114 Tryd.underlying5 W.heap.size 0 1 1 [x] rfl (by
    intro i hi
    have h0 : i = 0 := by omega
    subst h0
    unfold World.cell?
    rw [show (⟨W.heap.size, 0 + 0, none⟩ : Addr).block = W.heap.size from rfl, World.alloc_heap_new]
    rfl) 9 Tryd.underlying9]
  rfl

set_option maxHeartbeats 800000 in
theorem reftext_any (n : Int) (w : World) (hlo : -9223372036854775808 ≤ n) (hhi : n ≤ 9223372036854775807) : Calls Tryd.prog 29 #[.int .i64 n] w fun e w' => e = .returned (.string ⟨(decDigits (clamp n)).toArray⟩) ∧ Below w.heap.size w w' := by
  obtain ⟨c, hc⟩ : ∃ c, c = clamp n := ⟨_, rfl⟩
  have hcl := clamp_le n
  rw [← hc] at hcl ⊢
  have HC : Hid (c = clamp n) := Lib.hid hc
  have hcv := conv_one
  clear hc
  go_enter Tryd.func29, Tryd.ntmps29
  go_wp2
  all_goals
    go_loopg [0, 3] c (fun g n s wr => ∃ (r : Nat) (acc : List UInt8), r ≤ g ∧ n = .int .i64 r ∧ s = .string ⟨acc.toArray⟩ ∧ Aside (dd r ++ acc = decDigits c ∧ r ≤ 2147483647) ∧ Aside (Below w.heap.size w wr))
  case atStart =>
    have h0 := HC.out
    have hc0 : c = 0 := by unfold clamp at h0; omega
    subst hc0
    exact ⟨0, [48], by omega, rfl, rfl, ⟨(dec_dd 0).symm, by omega⟩, (Below.refl _ _).alloc (Nat.le_refl _) _⟩
  case round =>
    obtain ⟨r, acc, hr, rfl, rfl, HI, HB⟩ := hrel
    cases gk with
    | zero =>
      obtain rfl : r = 0 := by omega
      go_wp2
      go_ret
      have h1 := HI.out.1
      exact ⟨by rw [← h1]; rfl, HB.out⟩
    | succ g1 =>
      by_cases h0 : 0 < r
      · have hmx : Aside (r ≤ 2147483647) := HI.out.2
        have hr0 : (0 : Int) < (r : Int) := by omega
        have hr1 : (r : Int) ≤ 2147483647 := by have := HI.out.2; omega
        have hal : acc.length ≤ 2147483648 := by
          have h1 := congrArg List.length HI.out.1
          have h2 := dec_len c
          simp at h1; omega
        go_wp2
        go_roundg g1
        case measure => omega
        case rel =>
          refine ⟨r / 10, UInt8.ofNat (48 + r % 10) :: acc, by omega, by go_num, ?_, ⟨?_, by have := hmx.out; omega⟩, HB.out.alloc HB.out.size _⟩
          · simp [app_bytes]
          · have h1 := HI.out.1
            rw [dd_step r h0, List.append_assoc] at h1
            exact h1
      · obtain rfl : r = 0 := by omega
        go_wp2
        go_ret
        have h1 := HI.out.1
        exact ⟨by rw [← h1]; rfl, HB.out⟩
  case atStart =>
    have h0 := HC.out
    have hc0 : c = 2147483647 := by unfold clamp at h0; omega
    subst hc0
    exact ⟨214748364, [55], by omega, rfl, rfl, ⟨(dec_dd 2147483647).symm, by omega⟩, (Below.refl _ _).alloc (Nat.le_refl _) _⟩
  case round =>
    obtain ⟨r, acc, hr, rfl, rfl, HI, HB⟩ := hrel
    cases gk with
    | zero =>
      obtain rfl : r = 0 := by omega
      go_wp2
      go_ret
      have h1 := HI.out.1
      exact ⟨by rw [← h1]; rfl, HB.out⟩
    | succ g1 =>
      by_cases h0 : 0 < r
      · have hmx : Aside (r ≤ 2147483647) := HI.out.2
        have hr0 : (0 : Int) < (r : Int) := by omega
        have hr1 : (r : Int) ≤ 2147483647 := by have := HI.out.2; omega
        have hal : acc.length ≤ 2147483648 := by
          have h1 := congrArg List.length HI.out.1
          have h2 := dec_len c
          simp at h1; omega
        go_wp2
        go_roundg g1
        case measure => omega
        case rel =>
          refine ⟨r / 10, UInt8.ofNat (48 + r % 10) :: acc, by omega, by go_num, ?_, ⟨?_, by have := hmx.out; omega⟩, HB.out.alloc HB.out.size _⟩
          · simp [app_bytes]
          · have h1 := HI.out.1
            rw [dd_step r h0, List.append_assoc] at h1
            exact h1
      · obtain rfl : r = 0 := by omega
        go_wp2
        go_ret
        have h1 := HI.out.1
        exact ⟨by rw [← h1]; rfl, HB.out⟩
  case atStart =>
    have h0 := HC.out
    have hc0 : n = (c : Int) := by unfold clamp at h0; omega
    subst hc0
    refine ⟨c / 10, [UInt8.ofNat (48 + c % 10)], by omega, by go_num, ?_, ⟨(dec_dd c).symm, by omega⟩, (Below.refl _ _).alloc (Nat.le_refl _) _⟩
    have e : (48 + (c : Int) % 10).toNat = 48 + c % 10 := by omega
    rw [e]
  case round =>
    obtain ⟨r, acc, hr, rfl, rfl, HI, HB⟩ := hrel
    cases gk with
    | zero =>
      obtain rfl : r = 0 := by omega
      go_wp2
      go_ret
      have h1 := HI.out.1
      exact ⟨by rw [← h1]; rfl, HB.out⟩
    | succ g1 =>
      by_cases h0 : 0 < r
      · have hmx : Aside (r ≤ 2147483647) := HI.out.2
        have hr0 : (0 : Int) < (r : Int) := by omega
        have hr1 : (r : Int) ≤ 2147483647 := by have := HI.out.2; omega
        have hal : acc.length ≤ 2147483648 := by
          have h1 := congrArg List.length HI.out.1
          have h2 := dec_len c
          simp at h1; omega
        go_wp2
        go_roundg g1
        case measure => omega
        case rel =>
          refine ⟨r / 10, UInt8.ofNat (48 + r % 10) :: acc, by omega, by go_num, ?_, ⟨?_, by have := hmx.out; omega⟩, HB.out.alloc HB.out.size _⟩
          · simp [app_bytes]
          · have h1 := HI.out.1
            rw [dd_step r h0, List.append_assoc] at h1
            exact h1
      · obtain rfl : r = 0 := by omega
        go_wp2
        go_ret
        have h1 := HI.out.1
        exact ⟨by rw [← h1]; rfl, HB.out⟩

end Go.Proofs.YtknkhigmokooaaaDoor
