/- The contracts of pair's functions and of the reference's on single words. -/
import Derived.Test.YthpagbfabpfngaaProg
import Derived.Test.YthpagbfabpfngaaFM
import Derived.WalkKit
import Derived.ProofKit
import Derived.LoopTactic
import Derived.RegionTactic
import Derived.Deep.LoopGhost
import Derived.Deep.RegionWith
import Derived.Below
import Derived.Lib.Hide
import Derived.Handy
import Derived.Laws.AppendOwn
import Derived.Carry
import Derived.Maps.AppendAt
import Derived.RangeFuncRecord
namespace Go.Proofs.Ythpagbfabpfngaa
open Go.RowKit

theorem bit_any (x : BitVec 32) (k : Nat) (hk : k < 32) (w : World) : Calls Try.prog 125 #[.int .u32 (w32 x), .int .u64 k] w fun e w' => e = .returned (.bool (bt x k)) ∧ w = w' := by
  obtain ⟨b, h⟩ : ∃ b, bt x k = b := ⟨_, rfl⟩
  rw [h]
  have hb := bit_tmod x k b h
  clear h
  go_enter Try.func125, Try.ntmps125
  go_wp2
  go_ret
  exact ⟨rfl, rfl⟩

theorem within_any (x y : BitVec 32) (w : World) : Calls Try.prog 126 #[.int .u32 (w32 x), .int .u32 (w32 y)] w fun e w' => e = .returned (.bool (within x y)) ∧ w = w' := by
  have hb := andNot32 x y
  go_enter Try.func126, Try.ntmps126
  go_wp2
  go_ret
  exact ⟨by rw [← within_int]; rfl, rfl⟩

theorem rose_any (a c : BitVec 32) (w : World) : Calls Try.prog 119 #[.int .u32 (w32 a), .int .u32 (w32 c)] w fun e w' => e = .returned (.bool (within a c)) ∧ w = w' := by
  go_enter Try.func119, Try.ntmps119
  go_wp2_with (go_at_call 126; refine (within_any _ _ _).mono ?_; rintro e w' ⟨rfl, rfl⟩)
  go_ret
  exact ⟨rfl, rfl⟩

theorem falls_any (a b c : BitVec 32) (w : World) : Calls Try.prog 121 #[.int .u32 (w32 a), .int .u32 (w32 b), .int .u32 (w32 c)] w fun e w' => e = .returned (.int .u32 (w32 (a &&& (b ||| c)))) ∧ w = w' := by
  have h1 := or32 b c
  have h2 := and32 a (b ||| c)
  go_enter Try.func121, Try.ntmps121
  go_wp2
  go_ret
  exact ⟨rfl, rfl⟩

theorem rises_any (a c : BitVec 32) (w : World) : Calls Try.prog 123 #[.int .u32 (w32 a), .int .u32 (w32 c)] w fun e w' => e = .returned (.int .u32 (w32 (a ||| c))) ∧ w = w' := by
  have h1 := or32 a c
  go_enter Try.func123, Try.ntmps123
  go_wp2
  go_ret
  exact ⟨rfl, rfl⟩

set_option maxHeartbeats 2000000 in
theorem reffalls_any (a b c : BitVec 32) (w : World) : Calls Try.prog 115 #[.int .u32 (w32 a), .int .u32 (w32 b), .int .u32 (w32 c)] w fun e w' => e = .returned (.int .u32 (w32 (pre (fallsP a b c) 32))) ∧ w = w' := by
  go_enter Try.func115, Try.ntmps115
  go_wp2
  go_loopg [7, 8] 32 (fun g v i wr => ∃ (k : Nat), k + g = 32 ∧ i = .int .u64 k ∧ v = .int .u32 (w32 (pre (fallsP a b c) k)) ∧ Aside (w = wr))
  case atStart => exact ⟨0, by omega, rfl, rfl, rfl⟩
  case round =>
    obtain ⟨k, hkg, rfl, rfl, hw⟩ := hrel
    obtain rfl := hw.out
    clear hw
    cases gk with
    | zero =>
      obtain rfl : k = 32 := by omega
      go_wp2
      go_ret
      exact ⟨rfl, rfl⟩
    | succ g1 =>
      have hk : k < 32 := by omega
      have hs := shl_one k (by omega)
      have HF : Hid (fallsP a b c k = (bt a k && (bt b k || bt c k))) := Lib.hid rfl
      cases ha : bt a k <;> cases hb : bt b k <;> cases hc : bt c k
      all_goals rw [ha, hb, hc] at HF
      all_goals go_wp2_with (go_at_call 125; refine (bit_any _ _ hk _).mono ?_; rintro e w' ⟨rfl, rfl⟩)
      all_goals
        go_roundg g1
        case measure => omega
        case rel => exact ⟨k + 1, by omega, by go_num, by rw [pre]; simp only [HF.out]; first | rfl | exact congrArg (Value.int .u32) (pre_add _ k hk), rfl⟩

set_option maxHeartbeats 2000000 in
theorem refrises_any (a c : BitVec 32) (w : World) : Calls Try.prog 117 #[.int .u32 (w32 a), .int .u32 (w32 c)] w fun e w' => e = .returned (.int .u32 (w32 (pre (risesP a c) 32))) ∧ w = w' := by
  go_enter Try.func117, Try.ntmps117
  go_wp2
  go_loopg [5, 6] 32 (fun g v i wr => ∃ (k : Nat), k + g = 32 ∧ i = .int .u64 k ∧ v = .int .u32 (w32 (pre (risesP a c) k)) ∧ Aside (w = wr))
  case atStart => exact ⟨0, by omega, rfl, rfl, rfl⟩
  case round =>
    obtain ⟨k, hkg, rfl, rfl, hw⟩ := hrel
    obtain rfl := hw.out
    clear hw
    cases gk with
    | zero =>
      obtain rfl : k = 32 := by omega
      go_wp2
      go_ret
      exact ⟨rfl, rfl⟩
    | succ g1 =>
      have hk : k < 32 := by omega
      have hs := shl_one k (by omega)
      have HF : Hid (risesP a c k = (bt a k || bt c k)) := Lib.hid rfl
      cases ha : bt a k <;> cases hc : bt c k
      all_goals rw [ha, hc] at HF
      all_goals go_wp2_with (go_at_call 125; refine (bit_any _ _ hk _).mono ?_; rintro e w' ⟨rfl, rfl⟩)
      all_goals
        go_roundg g1
        case measure => omega
        case rel => exact ⟨k + 1, by omega, by go_num, by rw [pre]; simp only [HF.out]; first | rfl | exact congrArg (Value.int .u32) (pre_add _ k hk), rfl⟩

/-- The steps from a mask to the next one, as the walk meets them. -/
theorem nxt_steps (x : BitVec 32) : ∃ a y b z c : Int, w32 x * 8192 % (4294967296 : Int) = a ∧ bits .xor .u32 (w32 x) a = y ∧ y / (131072 : Int) = b ∧ bits .xor .u32 y b = z ∧ z * 32 % (4294967296 : Int) = c ∧ bits .xor .u32 z c = w32 (nxt x) := by
  have e2 : w32 (x ^^^ x <<< 13) / (131072 : Int) = w32 ((x ^^^ x <<< 13) >>> 17) := shr_int _ 17
  exact ⟨_, _, _, _, _, shl_int x 13, xor32 _ _, e2, xor32 _ _, shl_int _ 5, by rw [xor32]; rfl⟩

theorem behind_any (x : BitVec 32) (w : World) : Calls Try.prog 128 #[.int .u32 (w32 x)] w fun e w' => e = .returned (.int .u32 (w32 (nxt x))) ∧ w = w' := by
  obtain ⟨a, y, b, z, c, h1, h2, h3, h4, h5, h6⟩ := nxt_steps x
  go_enter Try.func128, Try.ntmps128
  go_wp2
  go_ret
  exact ⟨rfl, rfl⟩
/-- The seed: of 0 it is 1. -/
def sd (x : BitVec 32) : BitVec 32 := if x = 0#32 then 1#32 else x
theorem sd_lt (x : BitVec 32) (h : w32 x < 1) : w32 (sd x) = 1 := by
  have e : x = 0#32 := BitVec.eq_of_toNat_eq (by unfold w32 at h; simp; omega)
  subst e; decide
theorem sd_ge (x : BitVec 32) (h : 1 ≤ w32 x) : w32 (sd x) = w32 x := by
  have e : x ≠ 0#32 := by rintro rfl; exact absurd h (by decide)
  unfold sd; rw [if_neg e]
theorem seeded_any (x : BitVec 32) (w : World) : Calls Try.prog 127 #[.int .u32 (w32 x)] w fun e w' => e = .returned (.agg #[.int .u32 (w32 (sd x))]) ∧ w' = w.alloc (.cells #[.int .u32 (w32 (sd x))] 186) := by
  go_enter Try.func127, Try.ntmps127
  go_wp2
  · rw [sd_lt x h]
    go_returns
    exact ⟨rfl, rfl⟩
  · rw [sd_ge x h]
    go_returns
    exact ⟨rfl, rfl⟩
theorem next_any (B : Nat) (x : BitVec 32) (w : World) (h0 : w.cell? ⟨B, 0, none⟩ = some (.int .u32 (w32 x))) (f0 : w.frozen? ⟨B, 0, none⟩ = false) :
    Calls Try.prog 122 #[.pointer (some ⟨B, 0, none⟩)] w fun e w' => e = .returned (.int .u32 (w32 x)) ∧ w' = w.setCell ⟨B, 0, none⟩ (.int .u32 (w32 (nxt x))) := by
  go_enter Try.func122, Try.ntmps122
  go_wp2_with (go_at_call 128; refine (behind_any _ _).mono ?_; rintro e w' ⟨rfl, rfl⟩)
  go_ret
  exact ⟨rfl, rfl⟩

/-- The masks of a seed. -/
def it (x : BitVec 32) : Nat → BitVec 32
  | 0 => x
  | k + 1 => nxt (it x k)
def ms (x : BitVec 32) : Nat → List (BitVec 32)
  | 0 => []
  | k + 1 => ms x k ++ [it x k]
theorem ms_len (x : BitVec 32) (n : Nat) : (ms x n).length = n := by
  induction n with
  | zero => rfl
  | succ n ih => simp [ms, ih]
theorem ms_at (x : BitVec 32) (n k : Nat) (h : k < n) : (ms x n)[k]? = some (it x k) := by
  induction n with
  | zero => omega
  | succ n ih =>
    unfold ms
    by_cases e : k = n
    · subst e
      rw [List.getElem?_append_right (by rw [ms_len]; omega), ms_len]; simp
    · rw [List.getElem?_append_left (by rw [ms_len]; omega)]
      exact ih (by omega)
def rowB (l : List (BitVec 32)) : List Value := l.map fun x => .int .u32 (w32 x)
theorem infoB : (Try.prog.info? 26).map (fun i => (i.zero, i.size, i.bytes)) = some (some (.int .u32 0), 1, 4) := by kernel_rfl
theorem one_cell (n : Int) : ∀ u ∈ [Value.int .u32 n], u.oneCell' = true := by intro u hu; simp at hu; subst hu; rfl

set_option maxHeartbeats 1000000 in
set_option maxRecDepth 100000 in
theorem refmasks_any (x : BitVec 32) (many : Int) (hm : many ≤ 500) (w : World) : Calls Try.prog 116 #[.int .u32 (w32 x), .int .i64 many] w fun e w' =>
    ∃ v, e = .returned v ∧ w'.ownsRow w.heap.size 26 1 v many.toNat (rowB (ms (sd x) many.toNat)) ∧ Below w.heap.size w w' := by
  obtain ⟨i0, hi, hz0, hz1, hz2⟩ := info_parts infoB
  obtain ⟨n, hn⟩ : ∃ n, many.toNat = n := ⟨_, rfl⟩
  rw [hn]
  have hn5 : n ≤ 500 := by omega
  have start : ∀ s : BitVec 32, s = sd x → w32 s = w32 (it (sd x) 0) := fun s h => by rw [h]; rfl
  obtain ⟨X, hX⟩ : ∃ X, X = sd x := ⟨_, rfl⟩
  rw [← hX]
  have st : (w32 x == 0) = true ∧ (1 : Int) = w32 (it X 0) ∨ (w32 x == 0) = false ∧ w32 x = w32 (it X 0) := by
    by_cases hx : x = 0#32
    · subst hx; left; rw [hX]; decide
    · right
      have : x.toNat ≠ 0 := fun e => hx (BitVec.eq_of_toNat_eq (by simpa using e))
      refine ⟨by unfold w32; simpa using this, ?_⟩
      rw [hX]; unfold sd; rw [if_neg hx]; rfl
  have ST := fun (v : Int) (h : v = w32 (it X 0)) => h
  rcases st with ⟨hz, hs⟩ | ⟨hz, hs⟩
  all_goals
    have HS := Lib.hid hs
    clear hs ST start hX
    go_enter Try.func116, Try.ntmps116
    go_wp2
    go_loopg [0, 5, 6] n (fun g s v i wr => ∃ (k : Nat), k + g = n ∧ s = .int .u32 (w32 (it X k)) ∧ i = .int .i64 k ∧ wr.ownsRow w.heap.size 26 1 v k (rowB (ms X k)) ∧ Below w.heap.size w wr)
    case atStart => exact ⟨0, by omega, by rw [HS.out], rfl, World.ownsRow_nil _ _ _ _, Below.refl _ _⟩
    case round =>
      obtain ⟨k, hkg, rfl, rfl, hown, hB⟩ := hrel
      have HO := Lib.hid hown
      have HB := Lib.hid hB
      clear hown hB
      cases gk with
      | zero =>
        obtain rfl : k = n := by omega
        have hge : many ≤ (k : Int) := by omega
        go_wp2
        go_ret
        exact ⟨_, rfl, HO.out, HB.out⟩
      | succ g1 =>
        have hlt : (k : Int) < many := by omega
        have hk5 : k < 500 := by omega
        obtain ⟨ia, iy, ib, iz, ic, e1, e2, e3, e4, e5, e6⟩ := nxt_steps (it X k)
        go_wp2_with (at_builtin; refine wpList_append_own _ rfl (.tmp 14) (.tmp 16) 24 rfl w.heap.size 26 i0 (.int .u32 0) 1 4 Try.underlying24 hi hz0 hz1 hz2 rfl Nat.one_pos _ k (rowB (ms X k)) rfl (HO.out.alloc _) ⟨wr.heap.size, 0, none⟩ 1 1 [.int .u32 (w32 (it X k))] rfl rfl (cell_one_new _ _ _) (one_cell _) (by unfold maxLen; omega) (by omega) (by rw [World.size_alloc]; exact Nat.le_succ_of_le HB.out.size) ?_; intro v1 w1 hown1 hg1 _; have HO1 := Lib.hid hown1; have HB1 := Lib.hid (Below.grown (Below.alloc HB.out HB.out.size _) hg1 (by rw [World.size_alloc]; exact Nat.le_succ_of_le HB.out.size) (fun j e => (HO.out.lt j e).1)); clear hown1 hg1)
        go_roundg g1
        case measure => omega
        case rel =>
          have h := HO1.out
          refine ⟨k + 1, by omega, rfl, by go_num, ?_, HB1.out⟩
          unfold rowB at h ⊢
          unfold ms
          rw [List.map_append]
          exact h
end Go.Proofs.Ythpagbfabpfngaa
