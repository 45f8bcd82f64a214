/- Several texts in one: FP, FD, FE, FF. -/
import Derived.Test.YthpagbfabpfngaaProg
import Derived.Test.YthpagbfabpfngaaPk01
import Derived.WalkKit
import Derived.ProofKit
import Derived.LoopTactic
import Derived.RegionTactic
import Derived.Deep.LoopGhost
import Derived.Deep.RegionWith
import Derived.Below
import Derived.Lib.Hide
import Derived.Handy
import Derived.Laws.AppendOwn
import Derived.Carry
import Derived.Maps.AppendAt
import Derived.RangeFuncRecord
import Derived.Test.YthpagbfabpfngaaPk02
import Derived.BigQuiet
import Derived.Deep.QuietTactic
import Derived.IntWalk
import Derived.StillTail
import Derived.StillTactics
import Derived.StillTailTactics
import Derived.Deep.RegionHeld3
/- The contracts of pair's functions and of the reference's on single words. -/
namespace Go.Proofs.Ythpagbfabpfngaa
open Go.RowKit

theorem bit_any (x : BitVec 32) (k : Nat) (hk : k < 32) (w : World) : Calls Try.prog 125 #[.int .u32 (w32 x), .int .u64 k] w fun e w' => e = .returned (.bool (bt x k)) ∧ w = w' := by
  obtain ⟨b, h⟩ : ∃ b, bt x k = b := ⟨_, rfl⟩
  rw [h]
  have hb := bit_tmod x k b h
  clear h
  go_enter Try.func125, Try.ntmps125
  go_wp2
  go_ret
  exact ⟨rfl, rfl⟩

theorem within_any (x y : BitVec 32) (w : World) : Calls Try.prog 126 #[.int .u32 (w32 x), .int .u32 (w32 y)] w fun e w' => e = .returned (.bool (within x y)) ∧ w = w' := by
  have hb := andNot32 x y
  go_enter Try.func126, Try.ntmps126
  go_wp2
  go_ret
  exact ⟨by rw [← within_int]; rfl, rfl⟩

theorem rose_any (a c : BitVec 32) (w : World) : Calls Try.prog 119 #[.int .u32 (w32 a), .int .u32 (w32 c)] w fun e w' => e = .returned (.bool (within a c)) ∧ w = w' := by
  go_enter Try.func119, Try.ntmps119
  go_wp2_with (go_at_call 126; refine (within_any _ _ _).mono ?_; rintro e w' ⟨rfl, rfl⟩)
  go_ret
  exact ⟨rfl, rfl⟩

theorem falls_any (a b c : BitVec 32) (w : World) : Calls Try.prog 121 #[.int .u32 (w32 a), .int .u32 (w32 b), .int .u32 (w32 c)] w fun e w' => e = .returned (.int .u32 (w32 (a &&& (b ||| c)))) ∧ w = w' := by
  have h1 := or32 b c
  have h2 := and32 a (b ||| c)
  go_enter Try.func121, Try.ntmps121
  go_wp2
  go_ret
  exact ⟨rfl, rfl⟩

theorem rises_any (a c : BitVec 32) (w : World) : Calls Try.prog 123 #[.int .u32 (w32 a), .int .u32 (w32 c)] w fun e w' => e = .returned (.int .u32 (w32 (a ||| c))) ∧ w = w' := by
  have h1 := or32 a c
  go_enter Try.func123, Try.ntmps123
  go_wp2
  go_ret
  exact ⟨rfl, rfl⟩

set_option maxHeartbeats 2000000 in
theorem reffalls_any (a b c : BitVec 32) (w : World) : Calls Try.prog 115 #[.int .u32 (w32 a), .int .u32 (w32 b), .int .u32 (w32 c)] w fun e w' => e = .returned (.int .u32 (w32 (pre (fallsP a b c) 32))) ∧ w = w' := by
  go_enter Try.func115, Try.ntmps115
  go_wp2
  go_loopg [7, 8] 32 (fun g v i wr => ∃ (k : Nat), k + g = 32 ∧ i = .int .u64 k ∧ v = .int .u32 (w32 (pre (fallsP a b c) k)) ∧ Aside (w = wr))
  case atStart => exact ⟨0, by omega, rfl, rfl, rfl⟩
  case round =>
    obtain ⟨k, hkg, rfl, rfl, hw⟩ := hrel
    obtain rfl := hw.out
    clear hw
    cases gk with
    | zero =>
      obtain rfl : k = 32 := by omega
      go_wp2
      go_ret
      exact ⟨rfl, rfl⟩
    | succ g1 =>
      have hk : k < 32 := by omega
      have hs := shl_one k (by omega)
      have HF : Hid (fallsP a b c k = (bt a k && (bt b k || bt c k))) := Lib.hid rfl
      cases ha : bt a k <;> cases hb : bt b k <;> cases hc : bt c k
      all_goals rw [ha, hb, hc] at HF
      all_goals go_wp2_with (go_at_call 125; refine (bit_any _ _ hk _).mono ?_; rintro e w' ⟨rfl, rfl⟩)
      all_goals
        go_roundg g1
        case measure => omega
        case rel => exact ⟨k + 1, by omega, by go_num, by rw [pre]; simp only [HF.out]; first | rfl | exact congrArg (Value.int .u32) (pre_add _ k hk), rfl⟩

set_option maxHeartbeats 2000000 in
theorem refrises_any (a c : BitVec 32) (w : World) : Calls Try.prog 117 #[.int .u32 (w32 a), .int .u32 (w32 c)] w fun e w' => e = .returned (.int .u32 (w32 (pre (risesP a c) 32))) ∧ w = w' := by
  go_enter Try.func117, Try.ntmps117
  go_wp2
  go_loopg [5, 6] 32 (fun g v i wr => ∃ (k : Nat), k + g = 32 ∧ i = .int .u64 k ∧ v = .int .u32 (w32 (pre (risesP a c) k)) ∧ Aside (w = wr))
  case atStart => exact ⟨0, by omega, rfl, rfl, rfl⟩
  case round =>
    obtain ⟨k, hkg, rfl, rfl, hw⟩ := hrel
    obtain rfl := hw.out
    clear hw
    cases gk with
    | zero =>
      obtain rfl : k = 32 := by omega
      go_wp2
      go_ret
      exact ⟨rfl, rfl⟩
    | succ g1 =>
      have hk : k < 32 := by omega
      have hs := shl_one k (by omega)
      have HF : Hid (risesP a c k = (bt a k || bt c k)) := Lib.hid rfl
      cases ha : bt a k <;> cases hc : bt c k
      all_goals rw [ha, hc] at HF
      all_goals go_wp2_with (go_at_call 125; refine (bit_any _ _ hk _).mono ?_; rintro e w' ⟨rfl, rfl⟩)
      all_goals
        go_roundg g1
        case measure => omega
        case rel => exact ⟨k + 1, by omega, by go_num, by rw [pre]; simp only [HF.out]; first | rfl | exact congrArg (Value.int .u32) (pre_add _ k hk), rfl⟩

/-- The steps from a mask to the next one, as the walk meets them. -/
theorem nxt_steps (x : BitVec 32) : ∃ a y b z c : Int, w32 x * 8192 % (4294967296 : Int) = a ∧ bits .xor .u32 (w32 x) a = y ∧ y / (131072 : Int) = b ∧ bits .xor .u32 y b = z ∧ z * 32 % (4294967296 : Int) = c ∧ bits .xor .u32 z c = w32 (nxt x) := by
  have e2 : w32 (x ^^^ x <<< 13) / (131072 : Int) = w32 ((x ^^^ x <<< 13) >>> 17) := shr_int _ 17
  exact ⟨_, _, _, _, _, shl_int x 13, xor32 _ _, e2, xor32 _ _, shl_int _ 5, by rw [xor32]; rfl⟩

theorem behind_any (x : BitVec 32) (w : World) : Calls Try.prog 128 #[.int .u32 (w32 x)] w fun e w' => e = .returned (.int .u32 (w32 (nxt x))) ∧ w = w' := by
  obtain ⟨a, y, b, z, c, h1, h2, h3, h4, h5, h6⟩ := nxt_steps x
  go_enter Try.func128, Try.ntmps128
  go_wp2
  go_ret
  exact ⟨rfl, rfl⟩
/-- The seed: of 0 it is 1. -/
def sd (x : BitVec 32) : BitVec 32 := if x = 0#32 then 1#32 else x
theorem sd_lt (x : BitVec 32) (h : w32 x < 1) : w32 (sd x) = 1 := by
  have e : x = 0#32 := BitVec.eq_of_toNat_eq (by unfold w32 at h; simp; omega)
  subst e; decide
theorem sd_ge (x : BitVec 32) (h : 1 ≤ w32 x) : w32 (sd x) = w32 x := by
  have e : x ≠ 0#32 := by rintro rfl; exact absurd h (by decide)
  unfold sd; rw [if_neg e]
theorem seeded_any (x : BitVec 32) (w : World) : Calls Try.prog 127 #[.int .u32 (w32 x)] w fun e w' => e = .returned (.agg #[.int .u32 (w32 (sd x))]) ∧ w' = w.alloc (.cells #[.int .u32 (w32 (sd x))] 186) := by
  go_enter Try.func127, Try.ntmps127
  go_wp2
  · rw [sd_lt x h]
    go_returns
    exact ⟨rfl, rfl⟩
  · rw [sd_ge x h]
    go_returns
    exact ⟨rfl, rfl⟩
theorem next_any (B : Nat) (x : BitVec 32) (w : World) (h0 : w.cell? ⟨B, 0, none⟩ = some (.int .u32 (w32 x))) (f0 : w.frozen? ⟨B, 0, none⟩ = false) :
    Calls Try.prog 122 #[.pointer (some ⟨B, 0, none⟩)] w fun e w' => e = .returned (.int .u32 (w32 x)) ∧ w' = w.setCell ⟨B, 0, none⟩ (.int .u32 (w32 (nxt x))) := by
  go_enter Try.func122, Try.ntmps122
  go_wp2_with (go_at_call 128; refine (behind_any _ _).mono ?_; rintro e w' ⟨rfl, rfl⟩)
  go_ret
  exact ⟨rfl, rfl⟩

/-- The masks of a seed. -/
def it (x : BitVec 32) : Nat → BitVec 32
  | 0 => x
  | k + 1 => nxt (it x k)
def ms (x : BitVec 32) : Nat → List (BitVec 32)
  | 0 => []
  | k + 1 => ms x k ++ [it x k]
theorem ms_len (x : BitVec 32) (n : Nat) : (ms x n).length = n := by
  induction n with
  | zero => rfl
  | succ n ih => simp [ms, ih]
theorem ms_at (x : BitVec 32) (n k : Nat) (h : k < n) : (ms x n)[k]? = some (it x k) := by
  induction n with
  | zero => omega
  | succ n ih =>
    unfold ms
    by_cases e : k = n
    · subst e
      rw [List.getElem?_append_right (by rw [ms_len]; omega), ms_len]; simp
    · rw [List.getElem?_append_left (by rw [ms_len]; omega)]
      exact ih (by omega)
def rowB (l : List (BitVec 32)) : List Value := l.map fun x => .int .u32 (w32 x)
theorem infoB : (Try.prog.info? 26).map (fun i => (i.zero, i.size, i.bytes)) = some (some (.int .u32 0), 1, 4) := by kernel_rfl
theorem one_cell (n : Int) : ∀ u ∈ [Value.int .u32 n], u.oneCell' = true := by intro u hu; simp at hu; subst hu; rfl

set_option maxHeartbeats 1000000 in
set_option maxRecDepth 100000 in
theorem refmasks_any (x : BitVec 32) (many : Int) (hm : many ≤ 500) (w : World) : Calls Try.prog 116 #[.int .u32 (w32 x), .int .i64 many] w fun e w' =>
    ∃ v, e = .returned v ∧ w'.ownsRow w.heap.size 26 1 v many.toNat (rowB (ms (sd x) many.toNat)) ∧ Below w.heap.size w w' := by
  obtain ⟨i0, hi, hz0, hz1, hz2⟩ := info_parts infoB
  obtain ⟨n, hn⟩ : ∃ n, many.toNat = n := ⟨_, rfl⟩
  rw [hn]
  have hn5 : n ≤ 500 := by omega
  have start : ∀ s : BitVec 32, s = sd x → w32 s = w32 (it (sd x) 0) := fun s h => by rw [h]; rfl
  obtain ⟨X, hX⟩ : ∃ X, X = sd x := ⟨_, rfl⟩
  rw [← hX]
  have st : (w32 x == 0) = true ∧ (1 : Int) = w32 (it X 0) ∨ (w32 x == 0) = false ∧ w32 x = w32 (it X 0) := by
    by_cases hx : x = 0#32
    · subst hx; left; rw [hX]; decide
    · right
      have : x.toNat ≠ 0 := fun e => hx (BitVec.eq_of_toNat_eq (by simpa using e))
      refine ⟨by unfold w32; simpa using this, ?_⟩
      rw [hX]; unfold sd; rw [if_neg hx]; rfl
  have ST := fun (v : Int) (h : v = w32 (it X 0)) => h
  rcases st with ⟨hz, hs⟩ | ⟨hz, hs⟩
  all_goals
    have HS := Lib.hid hs
    clear hs ST start hX
    go_enter Try.func116, Try.ntmps116
    go_wp2
    go_loopg [0, 5, 6] n (fun g s v i wr => ∃ (k : Nat), k + g = n ∧ s = .int .u32 (w32 (it X k)) ∧ i = .int .i64 k ∧ wr.ownsRow w.heap.size 26 1 v k (rowB (ms X k)) ∧ Below w.heap.size w wr)
    case atStart => exact ⟨0, by omega, by rw [HS.out], rfl, World.ownsRow_nil _ _ _ _, Below.refl _ _⟩
    case round =>
      obtain ⟨k, hkg, rfl, rfl, hown, hB⟩ := hrel
      have HO := Lib.hid hown
      have HB := Lib.hid hB
      clear hown hB
      cases gk with
      | zero =>
        obtain rfl : k = n := by omega
        have hge : many ≤ (k : Int) := by omega
        go_wp2
        go_ret
        exact ⟨_, rfl, HO.out, HB.out⟩
      | succ g1 =>
        have hlt : (k : Int) < many := by omega
        have hk5 : k < 500 := by omega
        obtain ⟨ia, iy, ib, iz, ic, e1, e2, e3, e4, e5, e6⟩ := nxt_steps (it X k)
        go_wp2_with (at_builtin; refine wpList_append_own _ rfl (.tmp 14) (.tmp 16) 24 rfl w.heap.size 26 i0 (.int .u32 0) 1 4 Try.underlying24 hi hz0 hz1 hz2 rfl Nat.one_pos _ k (rowB (ms X k)) rfl (HO.out.alloc _) ⟨wr.heap.size, 0, none⟩ 1 1 [.int .u32 (w32 (it X k))] rfl rfl (cell_one_new _ _ _) (one_cell _) (by unfold maxLen; omega) (by omega) (by rw [World.size_alloc]; exact Nat.le_succ_of_le HB.out.size) ?_; intro v1 w1 hown1 hg1 _; have HO1 := Lib.hid hown1; have HB1 := Lib.hid (Below.grown (Below.alloc HB.out HB.out.size _) hg1 (by rw [World.size_alloc]; exact Nat.le_succ_of_le HB.out.size) (fun j e => (HO.out.lt j e).1)); clear hown1 hg1)
        go_roundg g1
        case measure => omega
        case rel =>
          have h := HO1.out
          refine ⟨k + 1, by omega, rfl, by go_num, ?_, HB1.out⟩
          unfold rowB at h ⊢
          unfold ms
          rw [List.map_append]
          exact h
end Go.Proofs.Ythpagbfabpfngaa
/- Where a flash device lies; the contracts of its small calls. -/
namespace Go.Proofs.Ythpagbfabpfngaa
open Go.RowKit

/-- A device's state. -/
structure Dev where
  ns : Nat
  nw : Nat
  limit : Int
  on : Bool
  ops : Int
  armed : Bool
  after : Int
  seed : BitVec 32
  word : Nat → Nat → BitVec 32
  worn : Nat → Int
/-- Where a device lies: its own block, its sectors', the words' of each. -/
structure DevAt (w : World) (q S : Nat) (g : Nat → Nat) (d : Dev) : Prop where
  c0 : w.cell? ⟨q, 0, none⟩ = some (.slice (some ⟨S, 0, none⟩) d.ns d.ns)
  c1 : w.cell? ⟨q, 1, none⟩ = some (.int .i64 d.nw)
  c2 : w.cell? ⟨q, 2, none⟩ = some (.int .i64 d.limit)
  c3 : w.cell? ⟨q, 3, none⟩ = some (.bool d.on)
  c4 : w.cell? ⟨q, 4, none⟩ = some (.int .i64 d.ops)
  c5 : w.cell? ⟨q, 5, none⟩ = some (.bool d.armed)
  c6 : w.cell? ⟨q, 6, none⟩ = some (.int .i64 d.after)
  c7 : w.cell? ⟨q, 7, none⟩ = some (.int .u32 (w32 d.seed))
  fq : ∀ j, w.frozen? ⟨q, j, none⟩ = false
  cs : ∀ i, i < d.ns → w.cell? ⟨S, i * 2, none⟩ = some (.slice (some ⟨g i, 0, none⟩) d.nw d.nw)
  cw : ∀ i, i < d.ns → w.cell? ⟨S, i * 2 + 1, none⟩ = some (.int .i64 (d.worn i))
  fs : ∀ j, w.frozen? ⟨S, j, none⟩ = false
  cg : ∀ i k, i < d.ns → k < d.nw → w.cell? ⟨g i, k, none⟩ = some (.int .u32 (w32 (d.word i k)))
  fg : ∀ i k, i < d.ns → k < d.nw → w.frozen? ⟨g i, k, none⟩ = false
  qs : q ≠ S
  gq : ∀ i, i < d.ns → g i ≠ q ∧ g i ≠ S
  gi : ∀ i j, i < d.ns → j < d.ns → g i = g j → i = j
  zn : d.ns ≤ 64 ∧ d.nw ≤ 1024 ∧ 0 < d.ns ∧ 0 < d.nw
/-- Which blocks are a device's. -/
def OwnD (q S : Nat) (g : Nat → Nat) (ns j : Nat) : Prop := j = q ∨ j = S ∨ ∃ i, i < ns ∧ j = g i
section
variable {w w' : World} {q S : Nat} {g : Nat → Nat} {d : Dev}
theorem DevAt.drewN (h : DevAt w q S g d) (n : Nat) : DevAt (w.drewN n) q S g d := ⟨h.c0, h.c1, h.c2, h.c3, h.c4, h.c5, h.c6, h.c7, h.fq, h.cs, h.cw, h.fs, h.cg, h.fg, h.qs, h.gq, h.gi, h.zn⟩
theorem DevAt.keep {T : Nat → Prop} (h : DevAt w q S g d) (c : Ch T w w') (hT : ∀ j, OwnD q S g d.ns j → ¬ T j) : DevAt w' q S g d := by
  have tq := hT q (.inl rfl)
  have tS := hT S (.inr (.inl rfl))
  have tg : ∀ i, i < d.ns → ¬ T (g i) := fun i hi => hT _ (.inr (.inr ⟨i, hi, rfl⟩))
  have hS : S < w.heap.size := by have := World.block_lt_of_cell? w _ (h.cs 0 h.zn.2.2.1); simpa using this
  have hq : q < w.heap.size := by have := World.block_lt_of_cell? w _ h.c0; simpa using this
  exact ⟨c.cell h.c0 tq, c.cell h.c1 tq, c.cell h.c2 tq, c.cell h.c3 tq, c.cell h.c4 tq, c.cell h.c5 tq, c.cell h.c6 tq, c.cell h.c7 tq, fun j => (c.frozen (p := ⟨q, j, none⟩) hq tq).trans (h.fq j),
    fun i hi => c.cell (h.cs i hi) tS, fun i hi => c.cell (h.cw i hi) tS, fun j => (c.frozen (p := ⟨S, j, none⟩) hS tS).trans (h.fs j),
    fun i k hi hk => c.cell (h.cg i k hi hk) (tg i hi), fun i k hi hk => (c.frozenCell (h.cg i k hi hk) (tg i hi)).trans (h.fg i k hi hk), h.qs, h.gq, h.gi, h.zn⟩
theorem DevAt.new (h : DevAt w q S g d) (c : Below w.heap.size w w') : DevAt w' q S g d := h.keep (T := fun _ => False) (Ch.new c) (fun _ _ h => h)

/-- The cells of a device's own block. -/
def rowQ (d : Dev) (S : Nat) : List Value := [.slice (some ⟨S, 0, none⟩) d.ns d.ns, .int .i64 d.nw, .int .i64 d.limit, .bool d.on, .int .i64 d.ops, .bool d.armed, .int .i64 d.after, .int .u32 (w32 d.seed)]
theorem DevAt.row (h : DevAt w q S g d) (j : Nat) (u : Value) (hu : (rowQ d S)[j]? = some u) : w.cell? ⟨q, j, none⟩ = some u := by
  match j, hu with
  | 0, hu => rw [← hu]; exact h.c0
  | 1, hu => rw [← hu]; exact h.c1
  | 2, hu => rw [← hu]; exact h.c2
  | 3, hu => rw [← hu]; exact h.c3
  | 4, hu => rw [← hu]; exact h.c4
  | 5, hu => rw [← hu]; exact h.c5
  | 6, hu => rw [← hu]; exact h.c6
  | 7, hu => rw [← hu]; exact h.c7
  | j + 8, hu => simp [rowQ] at hu
/-- A store into a device's own block. -/
theorem DevAt.setQ (h : DevAt w q S g d) (j0 : Nat) (v : Value) (d' : Dev) (hj : j0 < 8) (hr : rowQ d' S = (rowQ d S).set j0 v) (h1 : d'.ns = d.ns) (h2 : d'.nw = d.nw) (h3 : d'.word = d.word) (h4 : d'.worn = d.worn) :
    DevAt (w.setCell ⟨q, j0, none⟩ v) q S g d' := by
  have hl : (rowQ d S).length = 8 := rfl
  have row : ∀ j u, (rowQ d' S)[j]? = some u → (w.setCell ⟨q, j0, none⟩ v).cell? ⟨q, j, none⟩ = some u := by
    intro j u hu
    rw [hr] at hu
    by_cases e : j = j0
    · subst e
      rw [List.getElem?_set_self (by omega)] at hu
      rw [← hu]
      exact World.cell?_setCell_same _ _ _ (h.row j _ (List.getElem?_eq_getElem (by omega)))
    · rw [List.getElem?_set_ne (fun e' => e e'.symm)] at hu
      rw [World.cell?_setCell_other _ _ _ _ (fun e' => e (by injection e' with _ e'; exact e'.symm))]
      exact h.row j u hu
  have far : ∀ b k, b ≠ q → (w.setCell ⟨q, j0, none⟩ v).cell? ⟨b, k, none⟩ = w.cell? ⟨b, k, none⟩ := fun b k hb =>
    World.cell?_setCell_other _ _ _ _ (fun e' => hb (by injection e' with e' _; exact e'.symm))
  refine ⟨row 0 _ rfl, row 1 _ rfl, row 2 _ rfl, row 3 _ rfl, row 4 _ rfl, row 5 _ rfl, row 6 _ rfl, row 7 _ rfl, fun j => by rw [World.frozen?_setCell]; exact h.fq j,
    fun i hi => ?_, fun i hi => ?_, fun j => by rw [World.frozen?_setCell]; exact h.fs j, fun i k hi hk => ?_, fun i k hi hk => ?_, h.qs, fun i hi => h.gq i (by rw [← h1]; exact hi), fun i j hi hj => h.gi i j (by rw [← h1]; exact hi) (by rw [← h1]; exact hj), by rw [h1, h2]; exact h.zn⟩
  · rw [far _ _ h.qs.symm, h2]; exact h.cs i (by rw [← h1]; exact hi)
  · rw [far _ _ h.qs.symm, h4]; exact h.cw i (by rw [← h1]; exact hi)
  · rw [far _ _ (h.gq i (by rw [← h1]; exact hi)).1, h3]; exact h.cg i k (by rw [← h1]; exact hi) (by rw [← h2]; exact hk)
  · rw [World.frozen?_setCell]; exact h.fg i k (by rw [← h1]; exact hi) (by rw [← h2]; exact hk)
theorem ownD_q {ns : Nat} (v : Value) (j0 : Nat) : Ch (OwnD q S g ns) w (w.setCell ⟨q, j0, none⟩ v) := (Ch.refl _ _).setCell _ _ (.inl (.inl rfl))
/-- Is there such a sector? -/
def Dev.has (d : Dev) (s : Int) : Bool := decide (0 ≤ s) && decide (s < (d.ns : Int))
theorem hasD_any (h : DevAt w q S g d) (s : Int) : Calls Try.prog 66 #[.pointer (some ⟨q, 0, none⟩), .int .i64 s] w fun e w' => e = .returned (.bool (d.has s)) ∧ w = w' := by
  have c0 := h.c0
  clear h
  unfold Dev.has
  have HN := Lib.hid (fun h1 : ¬ 0 ≤ s => decide_eq_false h1)
  by_cases h1 : 0 ≤ s
  · by_cases h2 : s < (d.ns : Int)
    all_goals
      go_enter Try.func66, Try.ntmps66
      go_wp2
      go_ret
      exact ⟨by simp [h2], rfl⟩
  · rw [HN.out h1]
    go_enter Try.func66, Try.ntmps66
    go_wp2
    go_ret
    exact ⟨rfl, rfl⟩
theorem sectors_any (h : DevAt w q S g d) : Calls Try.prog 42 #[.pointer (some ⟨q, 0, none⟩)] w fun e w' => e = .returned (.int .i64 d.ns) ∧ w = w' := by
  have c0 := h.c0
  clear h
  go_enter Try.func42, Try.ntmps42
  go_wp2
  go_ret
  exact ⟨rfl, rfl⟩
theorem words_any (h : DevAt w q S g d) : Calls Try.prog 41 #[.pointer (some ⟨q, 0, none⟩)] w fun e w' => e = .returned (.int .i64 d.nw) ∧ w = w' := by
  have c0 := h.c1
  clear h
  go_enter Try.func41, Try.ntmps41
  go_wp2
  go_ret
  exact ⟨rfl, rfl⟩
theorem limit_any (h : DevAt w q S g d) : Calls Try.prog 53 #[.pointer (some ⟨q, 0, none⟩)] w fun e w' => e = .returned (.int .i64 d.limit) ∧ w = w' := by
  have c0 := h.c2
  clear h
  go_enter Try.func53, Try.ntmps53
  go_wp2
  go_ret
  exact ⟨rfl, rfl⟩
theorem on_any (h : DevAt w q S g d) : Calls Try.prog 46 #[.pointer (some ⟨q, 0, none⟩)] w fun e w' => e = .returned (.bool d.on) ∧ w = w' := by
  have c0 := h.c3
  clear h
  go_enter Try.func46, Try.ntmps46
  go_wp2
  go_ret
  exact ⟨rfl, rfl⟩
/-- How often a sector was erased. -/
def Dev.wornS (d : Dev) (s : Int) : Int := if d.has s then d.worn s.toNat else 0
theorem worn_any (h : DevAt w q S g d) (s : Int) : Calls Try.prog 52 #[.pointer (some ⟨q, 0, none⟩), .int .i64 s] w fun e w' => e = .returned (.int .i64 (d.wornS s)) ∧ w = w' := by
  have hh := hasD_any h s
  unfold Dev.wornS
  cases hs : d.has s with
  | true =>
    rw [hs] at hh
    have HH := Lib.hid hh
    unfold Dev.has at hs
    simp at hs
    obtain ⟨i, rfl⟩ : ∃ i : Nat, s = i := ⟨s.toNat, by omega⟩
    have c0 := h.c0
    have c1 := h.cw i (by omega)
    have i0 : (0 : Int) ≤ (i : Int) := by omega
    have i1 : (i : Int) < (d.ns : Int) := hs.2
    obtain ⟨x, hx⟩ : ∃ x, d.worn i = x := ⟨_, rfl⟩
    rw [hx] at c1
    simp only [Int.toNat_natCast, hx, if_true]
    clear h hh hs hx
    go_enter Try.func52, Try.ntmps52
    go_wp2_with (go_at_call 66; refine HH.out.mono ?_; rintro e w' ⟨rfl, rfl⟩)
    go_ret
    exact ⟨rfl, rfl⟩
  | false =>
    rw [hs] at hh
    have HH := Lib.hid hh
    clear h hh hs
    go_enter Try.func52, Try.ntmps52
    go_wp2_with (go_at_call 66; refine HH.out.mono ?_; rintro e w' ⟨rfl, rfl⟩)
    go_ret
    exact ⟨rfl, rfl⟩
/-- What is read. -/
def Dev.okK (d : Dev) (s k : Int) : Bool := d.has s && (decide (0 ≤ k) && decide (k < (d.nw : Int)))
def Dev.readW (d : Dev) (s k : Int) : BitVec 32 := if d.on && d.okK s k then d.word s.toNat k.toNat else 0#32
def Dev.readE (d : Dev) (s k : Int) : Int := if d.on then (if d.okK s k then 0 else 60) else 63
theorem read_any (h : DevAt w q S g d) (s k : Int) : Calls Try.prog 84 #[.pointer (some ⟨q, 0, none⟩), .int .i64 s, .int .i64 k] w fun e w' => e = .returned (.tuple #[.int .u32 (w32 (d.readW s k)), .int .i64 (d.readE s k)]) ∧ w = w' := by
  have hh := hasD_any h s
  have c3 := h.c3
  unfold Dev.readW Dev.readE
  cases hon : d.on with
  | false =>
    rw [hon] at c3
    clear hh h
    go_enter Try.func84, Try.ntmps84
    go_wp2
    go_ret2
    exact ⟨rfl, rfl⟩
  | true =>
    rw [hon] at c3
    unfold Dev.okK
    cases hs : d.has s with
    | false =>
      rw [hs] at hh
      have HH := Lib.hid hh
      clear h hh hs hon
      go_enter Try.func84, Try.ntmps84
      go_wp2_with (go_at_call 66; refine HH.out.mono ?_; rintro e w' ⟨rfl, rfl⟩)
      go_ret2
      exact ⟨rfl, rfl⟩
    | true =>
      rw [hs] at hh
      have HH := Lib.hid hh
      have c1 := h.c1
      by_cases h1 : 0 ≤ k
      · by_cases h2 : k < (d.nw : Int)
        · unfold Dev.has at hs
          simp at hs
          obtain ⟨i, rfl⟩ : ∃ i : Nat, s = i := ⟨s.toNat, by omega⟩
          obtain ⟨j, rfl⟩ : ∃ j : Nat, k = j := ⟨k.toNat, by omega⟩
          have c0 := h.c0
          have c4 := h.cs i (by omega)
          have c5 := h.cg i j (by omega) (by omega)
          have i0 : (0 : Int) ≤ (i : Int) := by omega
          have i1 : (i : Int) < (d.ns : Int) := hs.2
          obtain ⟨x, hx⟩ : ∃ x, d.word i j = x := ⟨_, rfl⟩
          rw [hx] at c5
          have e1 : decide ((0 : Int) ≤ (j : Int)) = true := by simp
          have e2 : decide ((j : Int) < (d.nw : Int)) = true := by simpa using h2
          simp only [Int.toNat_natCast, hx, e1, e2, Bool.and_self, if_true]
          clear h hh hs hx hon e1 e2
          go_enter Try.func84, Try.ntmps84
          go_wp2_with (go_at_call 66; refine HH.out.mono ?_; rintro e w' ⟨rfl, rfl⟩)
          go_ret2
          exact ⟨rfl, rfl⟩
        · rw [decide_eq_false h2, Bool.and_false, Bool.and_false, Bool.and_false]
          have e1 : decide (k < 0) = false := by rw [decide_eq_false_iff_not]; omega
          have e2 : decide ((d.nw : Int) ≤ k) = true := by simp; omega
          simp only [Bool.false_eq_true, if_false, if_true]
          clear h hh hs hon h1 h2
          go_enter Try.func84, Try.ntmps84
          go_wp2_with (go_at_call 66; refine HH.out.mono ?_; rintro e w' ⟨rfl, rfl⟩)
          go_ret2
          exact ⟨rfl, rfl⟩
      · rw [decide_eq_false h1, Bool.false_and, Bool.and_false, Bool.and_false]
        have e1 : decide (k < 0) = true := by simp; omega
        simp only [Bool.false_eq_true, if_false, if_true]
        clear h hh hs hon h1
        go_enter Try.func84, Try.ntmps84
        go_wp2_with (go_at_call 66; refine HH.out.mono ?_; rintro e w' ⟨rfl, rfl⟩)
        go_ret2
        exact ⟨rfl, rfl⟩
/-- The power is to go. -/
def Dev.arm (d : Dev) (after : Int) (seed : BitVec 32) : Dev := { d with armed := true, after := after, seed := seed }
def Dev.power (d : Dev) (on : Bool) : Dev := { d with on := on }
theorem power_any (h : DevAt w q S g d) (on : Bool) : Calls Try.prog 61 #[.pointer (some ⟨q, 0, none⟩), .bool on] w fun e w' => e = .returned (.tuple #[]) ∧ DevAt w' q S g (d.power on) ∧ Ch (OwnD q S g d.ns) w w' := by
  have c3 := h.c3
  have f3 := h.fq 3
  have HH := Lib.hid h
  clear h
  go_enter Try.func61, Try.ntmps61
  go_wp2
  refine ⟨rfl, .tuple #[], by simp [results, Try.results61, go_sem], rfl, ?_⟩
  exact ⟨HH.out.setQ 3 _ _ (by omega) rfl rfl rfl rfl rfl, ownD_q _ _⟩
theorem arm_any (h : DevAt w q S g d) (after : Int) (seed : BitVec 32) : Calls Try.prog 59 #[.pointer (some ⟨q, 0, none⟩), .agg #[.int .i64 after, .int .u32 (w32 seed)]] w fun e w' => e = .returned (.tuple #[]) ∧ DevAt w' q S g (d.arm after seed) ∧ Ch (OwnD q S g d.ns) w w' := by
  have HH := Lib.hid h
  clear h
  go_enter Try.func59, Try.ntmps59
  go_wp2
  obtain ⟨N, hN⟩ : ∃ N, w.heap.size = N := ⟨_, rfl⟩
  generalize hwa : World.alloc w _ = wa
  rw [hN]
  have hb : Below w.heap.size w wa := by rw [← hwa]; exact (Below.refl _ w).alloc (Nat.le_refl _) _
  have hd := HH.out.new hb
  have p0 : wa.cell? ⟨N, 0, none⟩ = some (.int .i64 after) := by rw [← hwa, ← hN]; simp [go_sem]
  have p1 : wa.cell? ⟨N, 1, none⟩ = some (.int .u32 (w32 seed)) := by rw [← hwa, ← hN]; simp [go_sem]
  have hqN : q < N := by rw [← hN]; have := World.block_lt_of_cell? w _ HH.out.c0; simpa using this
  have HW := Lib.hid (And.intro hd (And.intro hb hN))
  have c5 := hd.c5
  have c6 := hd.c6
  have c7 := hd.c7
  have f5 := hd.fq 5
  have f6 := hd.fq 6
  have f7 := hd.fq 7
  have hne : q ≠ N := by omega
  have hne2 : N ≠ q := by omega
  clear hwa hd hb hN
  go_region_held3 (fun w' => w'.cell? ⟨N, 0, none⟩ = some (.int .i64 after) ∧ w'.cell? ⟨N, 1, none⟩ = some (.int .u32 (w32 seed))) (first | exact ⟨p0, p1⟩ | go_keep) (fail)
  refine ⟨rfl, .tuple #[], by simp [results, Try.results59, go_sem], rfl, ?_⟩
  have h1 := HW.out.1.setQ 5 (.bool true) { d with armed := true } (by omega) rfl rfl rfl rfl rfl
  have h2 := h1.setQ 6 (.int .i64 after) { d with armed := true, after := after } (by omega) rfl rfl rfl rfl rfl
  have h3 := h2.setQ 7 (.int .u32 (w32 seed)) (d.arm after seed) (by omega) rfl rfl rfl rfl rfl
  refine ⟨h3.drewN 1, ?_⟩
  have hc : Ch (OwnD q S g d.ns) w wa := Ch.new HW.out.2.1
  exact (((hc.trans (ownD_q _ _)).trans (ownD_q _ _)).trans (ownD_q _ _)).drewN 1
end
end Go.Proofs.Ythpagbfabpfngaa
/- The contract of flash's operate. -/
namespace Go.Proofs.Ythpagbfabpfngaa
open Go.RowKit

/-- An operation: the device behind it, and whether the power goes in it. -/
def Dev.goes (d : Dev) : Dev × Bool :=
  if d.armed then (if 0 < d.after then ({ d with ops := d.ops + 1, after := d.after - 1 }, false) else ({ d with ops := d.ops + 1, on := false, armed := false }, true))
  else ({ d with ops := d.ops + 1 }, false)
def Dev.mask (d : Dev) : BitVec 32 := if d.goes.2 then sd d.seed else 0#32
/-- Its numbers are such that nothing wraps. -/
def Dev.ok (d : Dev) : Prop := 0 ≤ d.ops ∧ d.ops ≤ 1000000 ∧ -9223372036854775808 ≤ d.after ∧ d.after ≤ 9223372036854775807
variable {w w' : World} {q S : Nat} {g : Nat → Nat} {d : Dev}

theorem DevAt.own_lt (h : DevAt w q S g d) : ∀ j, OwnD q S g d.ns j → j < w.heap.size := by
  intro j hj
  rcases hj with rfl | rfl | ⟨i, hi, rfl⟩
  · have := World.block_lt_of_cell? w _ h.c0; simpa using this
  · have := World.block_lt_of_cell? w _ (h.cs 0 h.zn.2.2.1); simpa using this
  · have := World.block_lt_of_cell? w _ (h.cg i 0 hi h.zn.2.2.2); simpa using this
/-- A store into a block that is none of a device's. -/
theorem DevAt.aside (h : DevAt w q S g d) {N : Nat} {u : Value} (hc : w.cell? ⟨N, 0, none⟩ = some u) (hN : ¬ OwnD q S g d.ns N) (v : Value) : DevAt (w.setCell ⟨N, 0, none⟩ v) q S g d ∧ (w.setCell ⟨N, 0, none⟩ v).cell? ⟨N, 0, none⟩ = some v :=
  ⟨h.keep (T := fun j => j = N) ((Ch.refl _ _).setCell _ _ (.inl rfl)) (fun _ hj e => hN (e ▸ hj)), World.cell?_setCell_same _ _ _ hc⟩

theorem operate_any (h : DevAt w q S g d) (ho : d.ok) : Calls Try.prog 120 #[.pointer (some ⟨q, 0, none⟩)] w fun e w' => e = .returned (.tuple #[.agg #[.int .u32 (w32 d.mask)], .bool d.goes.2]) ∧ DevAt w' q S g d.goes.1 ∧ Ch (OwnD q S g d.ns) w w' := by
  obtain ⟨o1, o2, o3, o4⟩ := ho
  have hA := h.new ((Below.refl w.heap.size w).alloc (Nat.le_refl _) (.cells #[.int .u32 0] 186))
  have c4 := hA.c4
  have c5 := hA.c5
  have c6 := hA.c6
  have f3 := hA.fq 3
  have f4 := hA.fq 4
  have f5 := hA.fq 5
  have f6 := hA.fq 6
  have hqN : ¬ q = w.heap.size := by have h1 := World.block_lt_of_cell? w _ h.c0; have h2 : q < w.heap.size := by simpa using h1
                                     omega
  have hqN2 : ¬ w.heap.size = q := fun e => hqN e.symm
  have p0 : (w.alloc (.cells #[.int .u32 0] 186)).cell? ⟨w.heap.size, 0, none⟩ = some (.int .u32 0) := by simp [go_sem]
  have HA := Lib.hid (And.intro hA (And.intro (fun (e : OwnD q S g d.ns w.heap.size) => Nat.lt_irrefl _ (h.own_lt _ e)) p0))
  clear hA p0
  have w1 : IntKind.i64.wrap (d.ops + 1) = d.ops + 1 := by rw [IntKind.wrap_i64]; omega
  have HH := Lib.hid h
  unfold Dev.mask Dev.goes
  cases ha : d.armed with
  | false =>
    rw [ha] at c5
    clear h o1 o2 o3 o4
    go_enter Try.func120, Try.ntmps120
    go_wp2
    have h1 := HA.out.1.setQ 4 (.int .i64 (d.ops + 1)) { d with ops := d.ops + 1 } (by omega) rfl rfl rfl rfl rfl
    have h2 := h1.aside (N := w.heap.size) (World.cell?_setCell_other _ _ _ _ (fun e => hqN (by injection e)) |>.trans HA.out.2.2) HA.out.2.1 (.int .u32 0)
    refine ⟨rfl, .tuple #[.agg #[.int .u32 0], .bool false], ?_, rfl, ?_, ?_⟩
    · simp [results, Try.results120, go_sem, h2.2]
    · rw [← ha]; exact h2.1
    · exact (((Ch.new ((Below.refl w.heap.size w).alloc (Nat.le_refl _) _)).trans (ownD_q _ _)).setCell _ _ (.inr (Nat.le_refl _)))
  | true =>
    rw [ha] at c5
    by_cases h0 : 0 < d.after
    · have w2 : IntKind.i64.wrap (d.after - 1) = d.after - 1 := by rw [IntKind.wrap_i64]; omega
      rw [if_pos rfl, if_pos h0]
      clear h o1 o2 o3 o4
      go_enter Try.func120, Try.ntmps120
      go_wp2
      have h1 := HA.out.1.setQ 4 (.int .i64 (d.ops + 1)) { d with ops := d.ops + 1 } (by omega) rfl rfl rfl rfl rfl
      have h1b := h1.setQ 6 (.int .i64 (d.after - 1)) { d with ops := d.ops + 1, after := d.after - 1 } (by omega) rfl rfl rfl rfl rfl
      have h2 := h1b.aside (N := w.heap.size) (World.cell?_setCell_other _ _ _ _ (fun e => hqN (by injection e)) |>.trans (World.cell?_setCell_other _ _ _ _ (fun e => hqN (by injection e)) |>.trans HA.out.2.2)) HA.out.2.1 (.int .u32 0)
      refine ⟨rfl, .tuple #[.agg #[.int .u32 0], .bool false], ?_, rfl, ?_, ?_⟩
      · simp [results, Try.results120, go_sem, h2.2]
      · rw [← ha]; exact h2.1
      · exact ((((Ch.new ((Below.refl w.heap.size w).alloc (Nat.le_refl _) _)).trans (ownD_q _ _)).trans (ownD_q _ _)).setCell _ _ (.inr (Nat.le_refl _)))
    · rw [if_pos rfl, if_neg h0]
      have c3 := HA.out.1.c3
      have c7 := HA.out.1.c7
      clear h o1 o2 o3 o4
      go_enter Try.func120, Try.ntmps120
      go_wp2_with (go_at_call 127; refine (seeded_any _ _).mono ?_; rintro e w' ⟨rfl, rfl⟩)
      have h1 := HA.out.1.setQ 4 (.int .i64 (d.ops + 1)) { d with ops := d.ops + 1 } (by omega) rfl rfl rfl rfl rfl
      have h1b := h1.setQ 3 (.bool false) { d with ops := d.ops + 1, on := false } (by omega) rfl rfl rfl rfl rfl
      have h1c := h1b.setQ 5 (.bool false) { d with ops := d.ops + 1, on := false, armed := false } (by omega) rfl rfl rfl rfl rfl
      have h2 := h1c.aside (N := w.heap.size) (World.cell?_setCell_other _ _ _ _ (fun e => hqN (by injection e)) |>.trans (World.cell?_setCell_other _ _ _ _ (fun e => hqN (by injection e)) |>.trans (World.cell?_setCell_other _ _ _ _ (fun e => hqN (by injection e)) |>.trans HA.out.2.2))) HA.out.2.1 (.int .u32 (w32 (sd d.seed)))
      have hb := (Below.refl _ _).alloc (Nat.le_refl _) (w := ((((w.alloc (.cells #[.int .u32 0] 186)).setCell ⟨q, 4, none⟩ (.int .i64 (d.ops + 1))).setCell ⟨q, 3, none⟩ (.bool false)).setCell ⟨q, 5, none⟩ (.bool false)).setCell ⟨w.heap.size, 0, none⟩ (.int .u32 (w32 (sd d.seed)))) (.cells #[.int .u32 (w32 (sd d.seed))] 186)
      have h3 := h2.1.new hb
      refine ⟨rfl, .tuple #[.agg #[.int .u32 (w32 (sd d.seed))], .bool true], ?_, rfl, h3, ?_⟩
      · simp [results, Try.results120, go_sem]
      · exact ((((((Ch.new ((Below.refl w.heap.size w).alloc (Nat.le_refl _) _)).trans (ownD_q _ _)).trans (ownD_q _ _)).trans (ownD_q _ _)).setCell _ _ (.inr (Nat.le_refl _))).trans (Ch.new hb))
end Go.Proofs.Ythpagbfabpfngaa
/- The contract of flash's Program. -/
namespace Go.Proofs.Ythpagbfabpfngaa
open Go.RowKit

def upd (f : Nat → Nat → BitVec 32) (i j : Nat) (x : BitVec 32) : Nat → Nat → BitVec 32 := fun a b => if a = i ∧ b = j then x else f a b
def Dev.put (d : Dev) (i j : Nat) (x : BitVec 32) : Dev := { d with word := upd d.word i j x }
variable {w w' : World} {q S : Nat} {g : Nat → Nat} {d : Dev}
/-- A store into a word. -/
theorem DevAt.setW (h : DevAt w q S g d) (i j : Nat) (x : BitVec 32) (hi : i < d.ns) (hj : j < d.nw) : DevAt (w.setCell ⟨g i, j, none⟩ (Value.int .u32 (w32 x))) q S g (d.put i j x) ∧ Ch (OwnD q S g d.ns) w (w.setCell ⟨g i, j, none⟩ (Value.int .u32 (w32 x))) := by
  have far : ∀ b k, b ≠ g i → (w.setCell ⟨g i, j, none⟩ (Value.int .u32 (w32 x))).cell? ⟨b, k, none⟩ = w.cell? ⟨b, k, none⟩ := fun b k hb =>
    World.cell?_setCell_other w _ _ _ (fun e' => hb (by injection e' with e' _; exact e'.symm))
  have hq := (h.gq i hi).1.symm
  have hS := (h.gq i hi).2.symm
  refine ⟨⟨(far _ _ hq).trans h.c0, (far _ _ hq).trans h.c1, (far _ _ hq).trans h.c2, (far _ _ hq).trans h.c3, (far _ _ hq).trans h.c4, (far _ _ hq).trans h.c5, (far _ _ hq).trans h.c6, (far _ _ hq).trans h.c7, fun j => by rw [World.frozen?_setCell]; exact h.fq j,
    fun i' hi' => (far _ _ hS).trans (h.cs i' hi'), fun i' hi' => (far _ _ hS).trans (h.cw i' hi'), fun j => by rw [World.frozen?_setCell]; exact h.fs j, fun a b ha hb => ?_, fun a b ha hb => by rw [World.frozen?_setCell]; exact h.fg a b ha hb, h.qs, h.gq, h.gi, h.zn⟩, (Ch.refl _ _).setCell _ _ (.inl (.inr (.inr ⟨i, hi, rfl⟩)))⟩
  show _ = some (Value.int .u32 (w32 (upd d.word i j x a b)))
  unfold upd
  by_cases e : a = i
  · subst e
    by_cases e2 : b = j
    · subst e2
      rw [if_pos ⟨rfl, rfl⟩]
      exact World.cell?_setCell_same _ _ _ (h.cg a b ha hb)
    · rw [if_neg (fun e => e2 e.2), World.cell?_setCell_other _ _ _ _ (fun e' => e2 (by injection e' with _ e'; exact e'.symm))]
      exact h.cg a b ha hb
  · rw [if_neg (fun e' => e e'.1), far _ _ (fun e' => e (h.gi a i ha hi e'))]
    exact h.cg a b ha hb

/-- What programming a word does. -/
def Dev.program (d : Dev) (s k : Int) (x : BitVec 32) : Dev × Int :=
  if d.readE s k = 0 then
    (if within x (d.readW s k) then
      (if d.goes.2 then (d.goes.1.put s.toNat k.toNat (d.readW s k &&& (x ||| d.mask)), 63) else (d.goes.1.put s.toNat k.toNat x, 0))
    else (d, 61))
  else (d, d.readE s k)
theorem readE_ok {d : Dev} {s k : Int} (h : d.readE s k = 0) : 0 ≤ s ∧ s < (d.ns : Int) ∧ 0 ≤ k ∧ k < (d.nw : Int) ∧ d.readW s k = d.word s.toNat k.toNat := by
  unfold Dev.readE at h
  split at h
  · rename_i h1
    split at h
    · rename_i h2
      have h3 := h2
      unfold Dev.okK Dev.has at h3
      simp at h3
      refine ⟨h3.1.1, h3.1.2, h3.2.1, h3.2.2, ?_⟩
      unfold Dev.readW
      rw [h1, h2]; rfl
    · cases h
  · cases h
theorem goes_same (d : Dev) : d.goes.1.ns = d.ns ∧ d.goes.1.nw = d.nw ∧ d.goes.1.word = d.word ∧ d.goes.1.worn = d.worn ∧ d.goes.1.limit = d.limit := by
  unfold Dev.goes
  split
  · split <;> exact ⟨rfl, rfl, rfl, rfl, rfl⟩
  · exact ⟨rfl, rfl, rfl, rfl, rfl⟩

set_option maxHeartbeats 1000000 in
theorem program_any (h : DevAt w q S g d) (ho : d.ok) (s k : Int) (x : BitVec 32) : Calls Try.prog 98 #[.pointer (some ⟨q, 0, none⟩), .int .i64 s, .int .i64 k, .int .u32 (w32 x)] w fun e w' =>
    e = .returned (.int .i64 (d.program s k x).2) ∧ DevAt w' q S g (d.program s k x).1 ∧ Ch (OwnD q S g d.ns) w w' := by
  have hr := fun w2 (h2 : DevAt w2 q S g d) => read_any h2 s k
  unfold Dev.program
  by_cases he : d.readE s k = 0
  · rw [if_pos he]
    obtain ⟨s0, s1, k0, k1, hw⟩ := readE_ok he
    obtain ⟨i, rfl⟩ : ∃ i : Nat, s = i := ⟨s.toNat, by omega⟩
    obtain ⟨j, rfl⟩ : ∃ j : Nat, k = j := ⟨k.toNat, by omega⟩
    rw [he] at hr
    simp only [Int.toNat_natCast] at hw ⊢
    obtain ⟨y, hy⟩ : ∃ y, d.readW i j = y := ⟨_, rfl⟩
    rw [hy] at hr ⊢
    have HR := Lib.hid hr
    have HH := Lib.hid h
    have HO := Lib.hid (fun w2 (h2 : DevAt w2 q S g d) => operate_any h2 ho)
    clear hr
    have hro := rose_any x y
    cases hin : within x y with
    | false =>
      rw [hin] at hro
      have HI := Lib.hid hro
      simp only [Bool.false_eq_true, if_false]
      clear h hro
      go_enter Try.func98, Try.ntmps98
      go_wp2_with (first
        | (go_at_call 84; refine (HR.out _ HH.out).mono ?_; rintro e w' ⟨rfl, rfl⟩)
        | (go_at_call 119; refine (HI.out _).mono ?_; rintro e w' ⟨rfl, rfl⟩)
        | fail)
      go_ret
      exact ⟨rfl, HH.out, Ch.refl _ _⟩
    | true =>
      rw [hin] at hro
      have HI := Lib.hid hro
      have c0 := h.c0
      have c4 := h.cs i (by omega)
      simp only [if_true]
      clear h hro
      obtain ⟨e1, e2, e3, -, -⟩ := goes_same d
      obtain ⟨D1, hD1⟩ : ∃ D1, d.goes.1 = D1 := ⟨_, rfl⟩
      obtain ⟨M, hM⟩ : ∃ M, d.mask = M := ⟨_, rfl⟩
      rw [hD1] at e1 e2 e3
      have hi1 : i < D1.ns := by omega
      have hj1 : j < D1.nw := by omega
      rw [hD1, hM]
      rw [hD1, hM] at HO
      have HE := Lib.hid (And.intro e1 (And.intro hi1 hj1))
      cases hcut : d.goes.2 with
      | false =>
        rw [hcut] at HO
        simp only [Bool.false_eq_true, if_false]
        clear hD1 hM e1 e2 e3 hcut
        go_enter Try.func98, Try.ntmps98
        go_wp2_with (first
          | (go_at_call 84; refine (HR.out _ HH.out).mono ?_; rintro e w' ⟨rfl, rfl⟩)
          | (go_at_call 119; refine (HI.out _).mono ?_; rintro e w' ⟨rfl, rfl⟩)
          | (go_at_call 120; refine (HO.out _ HH.out).mono ?_; rintro e w2 ⟨rfl, hd2, hc2⟩; have hdA := hd2.new ((Below.refl w2.heap.size w2).alloc (Nat.le_refl _) (.cells #[.int .u32 (w32 M)] 186)); have HD := Lib.hid (And.intro hdA (And.intro (hc2.trans (Ch.new ((Below.refl w2.heap.size w2).alloc (Nat.le_refl _) (.cells #[.int .u32 (w32 M)] 186)))) (fun (e : OwnD q S g D1.ns w2.heap.size) => Nat.lt_irrefl _ (hd2.own_lt _ e)))); have p1 := hdA.cg i j hi1 hj1; have p2 := hdA.fg i j hi1 hj1; have p3 : (w2.alloc (.cells #[.int .u32 (w32 M)] 186)).cell? ⟨w2.heap.size, 0, none⟩ = some (.int .u32 (w32 M)) := by simp [go_sem]
             have p4 : (w2.alloc (.cells #[.int .u32 (w32 M)] 186)).frozen? ⟨w2.heap.size, 0, none⟩ = false := by simp [go_sem]
             have gN : ¬ g i = w2.heap.size := fun e => Nat.lt_irrefl _ (hd2.own_lt _ (.inr (.inr ⟨i, hi1, e.symm⟩)))
             have gN2 : ¬ w2.heap.size = g i := fun e => gN e.symm
             clear hd2 hc2 hi1 hj1 hdA)
          | fail)
        have h1 := HD.out.1.setW i j x HE.out.2.1 HE.out.2.2
        refine ⟨rfl, .int .i64 0, by simp [results, Try.results98, go_sem], rfl, h1.1, ?_⟩
        rw [← HE.out.1]
        exact (by rw [HE.out.1]; exact HD.out.2.1 : Ch (OwnD q S g D1.ns) w _).setCell _ _ (.inl (.inr (.inr ⟨i, HE.out.2.1, rfl⟩)))
      | true =>
        rw [hcut] at HO
        simp only [if_true]
        clear hD1 hM e1 e2 e3 hcut
        go_enter Try.func98, Try.ntmps98
        go_wp2_with (first
          | (go_at_call 84; refine (HR.out _ HH.out).mono ?_; rintro e w' ⟨rfl, rfl⟩)
          | (go_at_call 119; refine (HI.out _).mono ?_; rintro e w' ⟨rfl, rfl⟩)
          | (go_at_call 120; refine (HO.out _ HH.out).mono ?_; rintro e w2 ⟨rfl, hd2, hc2⟩; have hdA := hd2.new ((Below.refl w2.heap.size w2).alloc (Nat.le_refl _) (.cells #[.int .u32 (w32 M)] 186)); have HD := Lib.hid (And.intro hdA (And.intro (hc2.trans (Ch.new ((Below.refl w2.heap.size w2).alloc (Nat.le_refl _) (.cells #[.int .u32 (w32 M)] 186)))) (fun (e : OwnD q S g D1.ns w2.heap.size) => Nat.lt_irrefl _ (hd2.own_lt _ e)))); have p1 := hdA.cg i j hi1 hj1; have p2 := hdA.fg i j hi1 hj1; have p3 : (w2.alloc (.cells #[.int .u32 (w32 M)] 186)).cell? ⟨w2.heap.size, 0, none⟩ = some (.int .u32 (w32 M)) := by simp [go_sem]
             have p4 : (w2.alloc (.cells #[.int .u32 (w32 M)] 186)).frozen? ⟨w2.heap.size, 0, none⟩ = false := by simp [go_sem]
             have gN : ¬ g i = w2.heap.size := fun e => Nat.lt_irrefl _ (hd2.own_lt _ (.inr (.inr ⟨i, hi1, e.symm⟩)))
             have gN2 : ¬ w2.heap.size = g i := fun e => gN e.symm
             have hdB := hd2.new ((Below.refl w2.heap.size w2).alloc (Nat.le_refl _) (.cells #[.int .u32 (w32 (nxt M))] 186))
             have p5 := hdB.cg i j hi1 hj1
             have p6 := hdB.fg i j hi1 hj1
             have HD2 := Lib.hid (And.intro hdB (hc2.trans (Ch.new ((Below.refl w2.heap.size w2).alloc (Nat.le_refl _) (.cells #[.int .u32 (w32 (nxt M))] 186)))))
             clear hd2 hc2 hi1 hj1 hdA hdB)
          | (go_at_call 122; refine (next_any w2.heap.size M _ p3 p4).mono ?_; rintro e w3 ⟨rfl, rfl⟩)
          | (go_at_call 121; refine (falls_any y x M _).mono ?_; rintro e w3 ⟨rfl, rfl⟩)
          | fail)
        have h1 := HD2.out.1.setW i j (y &&& (x ||| M)) HE.out.2.1 HE.out.2.2
        refine ⟨rfl, .int .i64 63, by simp [results, Try.results98, go_sem], rfl, h1.1, ?_⟩
        rw [← HE.out.1]
        exact (by rw [HE.out.1]; exact HD2.out.2 : Ch (OwnD q S g D1.ns) w _).setCell _ _ (.inl (.inr (.inr ⟨i, HE.out.2.1, rfl⟩)))
  · rw [if_neg he]
    have HR := Lib.hid (hr w h)
    have HH := Lib.hid h
    obtain ⟨z, hz⟩ : ∃ z, d.readE s k = z := ⟨_, rfl⟩
    rw [hz] at HR he ⊢
    clear h hr
    go_enter Try.func98, Try.ntmps98
    go_wp2_with (first
      | (go_at_call 84; refine HR.out.mono ?_; rintro e w' ⟨rfl, rfl⟩)
      | fail)
    go_ret
    exact ⟨rfl, HH.out, Ch.refl _ _⟩
end Go.Proofs.Ythpagbfabpfngaa
