/- The contracts of mask's First, Len and Of, and of the reference's In, Of, List and Between. -/
import Derived.Test.YtjgbbgemoobjjaaDoorMFew
import Derived.Test.YtjgbbgemoobjjaaDoorOwn
import Derived.Laws.AppendOwn
import Derived.Carry
import Derived.Maps.AppendAt
import Derived.Deep.AppendLies
import Derived.RangeFuncRecord
namespace Go.Proofs.YtjgbbgemoobjjaaDoor
open Go.RowKit

theorem ctz_bits {n : Nat} (h0 : n ≠ 0) (h : n < 2 ^ 32) : Lib.ctz 32 n < 32 ∧ n.testBit (Lib.ctz 32 n) = true ∧ ∀ i, i < Lib.ctz 32 n → n.testBit i = false := by
  have hc : Lib.ctz 32 n = Lib.ctzFrom 32 n := by unfold Lib.ctz; rw [if_neg h0]
  obtain ⟨m, hm, hl⟩ := Lib.ctzFrom_spec 32 n (by omega) h
  rw [← hc] at hm hl
  clear hc
  generalize Lib.ctz 32 n = c at hm hl ⊢
  refine ⟨hl, ?_, ?_⟩
  · rw [hm, Nat.testBit_two_pow_mul]; simp
  · intro i hi
    rw [hm, Nat.testBit_two_pow_mul]; simp; omega
theorem lst_zero : lst 0#32 32 = [] := by decide
theorem lst_head {x : BitVec 32} (h0 : x.toNat ≠ 0) : (lst x 32).headD 0 = Lib.ctz 32 x.toNat ∧ 0 < (lst x 32).length := by
  obtain ⟨h1, h2, h3⟩ := ctz_bits h0 x.isLt
  have hh : (lst x 32).head? = some (Lib.ctz 32 x.toNat) := by
    unfold lst
    rw [List.head?_filter, List.find?_range_eq_some]
    refine ⟨h2, by simpa using h1, fun j hj => ?_⟩
    show (!x.toNat.testBit j) = true
    rw [h3 j hj]; rfl
  cases hl : lst x 32 with
  | nil => rw [hl] at hh; cases hh
  | cons a l => rw [hl] at hh; simp at hh; simp [hh]

theorem first_any (x : BitVec 32) (w : World) (ht : Tab w) : Calls Tryd.prog 41 #[.int .u32 (w32 x)] w fun e w' => e = .returned (.tuple #[.int .i64 ((lst x 32).headD 0 : Nat), .bool (decide (0 < (lst x 32).length))]) ∧ w = w' := by
  by_cases h0 : x.toNat = 0
  · obtain rfl : x = 0#32 := by apply BitVec.eq_of_toNat_eq; simpa using h0
    rw [lst_zero]
    go_enter Tryd.func41, Tryd.ntmps41
    go_wp2
    go_ret2
    exact ⟨rfl, rfl⟩
  · have hne : (w32 x == 0) = false := by unfold w32; simpa using h0
    obtain ⟨h1, h2⟩ := lst_head h0
    rw [h1]
    have h3 : decide (0 < (lst x 32).length) = true := by simpa using h2
    rw [h3]
    clear h1 h2 h3
    go_enter Tryd.func41, Tryd.ntmps41
    go_wp2_with (go_at_call 53; refine (tz_any _ _ ht).mono ?_; rintro e w' ⟨rfl, rfl⟩)
    go_ret2
    exact ⟨rfl, rfl⟩

/-- Where a slice's ints lie. -/
def Lies (w : World) (sp : Option Addr) (b off : Nat) (l : List Int) : Prop :=
  (0 < l.length → sp = some ⟨b, off, none⟩ ∧ b < w.heap.size) ∧ ∀ k, k < l.length → w.cell? ⟨b, off + k, none⟩ = some (.int .i64 (nth l k))
theorem Lies.below {w w' : World} {sp : Option Addr} {b off n : Nat} {l : List Int} (h : Lies w sp b off l) (hb : Below n w w') (hn : 0 < l.length → b < n) : Lies w' sp b off l :=
  ⟨fun h0 => ⟨(h.1 h0).1, Nat.lt_of_lt_of_le (h.1 h0).2 hb.size⟩, fun k hk => by rw [hb.cell (p := ⟨b, off + k, none⟩) (hn (by omega))]; exact h.2 k hk⟩

theorem in_any (sp : Option Addr) (b off cap : Nat) (l : List Int) (n : Int) (w : World) (hl : l.length ≤ 9223372036854775807) (h : Lies w sp b off l) :
    Calls Tryd.prog 20 #[.slice sp l.length cap, .int .i64 n] w fun e w' => e = .returned (.bool (decide (n ∈ l))) ∧ w = w' := by
  have HL := Lib.hid h
  clear h
  go_enter Tryd.func20, Tryd.ntmps20
  go_wp2
  go_loopg [5] l.length (fun g i wr => ∃ (k : Nat), k + g = l.length ∧ i = .int .i64 k ∧ Aside (n ∉ l.take k) ∧ Aside (w = wr))
  case atStart => exact ⟨0, by omega, rfl, by show _ ∉ _; simp, rfl⟩
  case round =>
    obtain ⟨k, hkg, rfl, HN, hw⟩ := hrel
    obtain rfl := hw.out
    clear hw
    cases gk with
    | zero =>
      obtain rfl : k = l.length := by omega
      go_wp2
      go_ret
      have := HN.out
      rw [List.take_length] at this
      exact ⟨by simp [this], rfl⟩
    | succ g1 =>
      have hlt : k < l.length := by omega
      obtain ⟨rfl, hbl⟩ := HL.out.1 (by omega)
      have hc := HL.out.2 k hlt
      by_cases he : nth l k = n
      · have he' : (nth l k == n) = true := by simpa using he
        have hmem : decide (n ∈ l) = true := by
          rw [decide_eq_true_iff, ← he]
          simp [nth, hlt]
        have HM := Lib.hid hmem
        clear he hmem
        go_wp2
        go_ret
        exact ⟨by rw [HM.out]; rfl, rfl⟩
      · have he' : (nth l k == n) = false := by simpa using he
        have hni : n ∉ l.take (k + 1) := by
          rw [take_succ_nth l k hlt]
          intro hm
          rcases List.mem_append.1 hm with hm | hm
          · exact HN.out hm
          · simp at hm; exact he hm.symm
        have HM := Lib.hid hni
        clear he hni
        go_wp2
        go_roundg g1
        case measure => omega
        case rel => exact ⟨k + 1, by omega, by go_num, HM.out, rfl⟩

theorem refof_any (sp : Option Addr) (b off cap : Nat) (l : List Int) (w : World) (hl : l.length ≤ 9223372036854775807) (h : Lies w sp b off l) :
    Calls Tryd.prog 28 #[.slice sp l.length cap] w fun e w' => e = .returned (.int .u32 (w32 (ofR l))) ∧ w = w' := by
  have HL := Lib.hid h
  clear h
  go_enter Tryd.func28, Tryd.ntmps28
  go_wp2
  go_loopg [3, 4] 32 (fun g v i wr => ∃ (k : Nat), k + g = 32 ∧ i = .int .i64 k ∧ v = .int .u32 (w32 (pre (fun k => decide ((k : Int) ∈ l)) k)) ∧ Aside (w = wr))
  case atStart => exact ⟨0, by omega, rfl, rfl, rfl⟩
  case round =>
    obtain ⟨k, hkg, rfl, rfl, hw⟩ := hrel
    obtain rfl := hw.out
    clear hw
    cases gk with
    | zero =>
      obtain rfl : k = 32 := by omega
      go_wp2
      go_ret
      exact ⟨rfl, rfl⟩
    | succ g1 =>
      have hk : k < 32 := by omega
      have hi := Lib.hid (in_any sp b off cap l k w hl HL.out)
      have hs := shl_one k (by omega)
      cases hd : decide ((k : Int) ∈ l)
      · have HD := Lib.hid hd
        rw [hd] at hi
        clear hd
        go_wp2_with (go_at_call 20; refine hi.out.mono ?_; rintro e w' ⟨rfl, rfl⟩)
        go_roundg g1
        case measure => omega
        case rel => exact ⟨k + 1, by omega, by go_num, by rw [pre]; simp [HD.out], rfl⟩
      · have HD := Lib.hid hd
        rw [hd] at hi
        clear hd
        go_wp2_with (go_at_call 20; refine hi.out.mono ?_; rintro e w' ⟨rfl, rfl⟩)
        go_roundg g1
        case measure => omega
        case rel => exact ⟨k + 1, by omega, by go_num, by rw [pre]; simp only [HD.out, if_true]; exact congrArg (Value.int .u32) (pre_add _ k hk), rfl⟩

end Go.Proofs.YtjgbbgemoobjjaaDoor
