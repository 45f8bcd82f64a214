/- The contracts of crc's Byte, Word, Value, Many and Words: each leaves the sum that the plain function says. -/
import Derived.Test.YthpagbfabpfngaaProg
import Derived.Test.YthpagbfabpfngaaKM
import Derived.Test.YthpagbfabpfngaaFM
import Derived.WalkKit
import Derived.ProofKit
import Derived.LoopTactic
import Derived.RegionTactic
import Derived.LoopN
import Derived.Below
import Derived.Outline
import Derived.Lib.Hide
import Derived.Laws.BitsAllLaws
import Derived.Deep.LoopGhost
namespace Go.Proofs.Ythpagbfabpfngaa
open Go.RowKit

def w8 (x : BitVec 8) : Int := (x.toNat : Int)

theorem w8_lt (x : BitVec 8) : 0 ≤ w8 x ∧ w8 x < 256 := by unfold w8; have := x.isLt; omega
theorem half32 (x : BitVec 32) : w32 x / (2 : Int) = w32 (x >>> (1 : Nat)) := by
  unfold w32; rw [BitVec.toNat_ushiftRight, Nat.shiftRight_eq_div_pow]; omega
theorem bit_nat (n k : Nat) : (n / 2 ^ k) % 2 = (n.testBit k).toNat := by
  rw [Nat.testBit_eq_decide_div_mod_eq]
  have : n / 2 ^ k % 2 < 2 := Nat.mod_lt _ (by omega)
  by_cases h : n / 2 ^ k % 2 = 1 <;> simp [h]
  omega
theorem shr8 (b : BitVec 8) (k : Nat) : w8 b / 2 ^ k = ((b.toNat / 2 ^ k : Nat) : Int) := by
  unfold w8; simp
theorem bit_test (r : BitVec 32) (b : BitVec 8) (k : Nat) :
    (bits .and .u32 (bits .xor .u32 (w32 r) (w8 b / 2 ^ k % 4294967296)) 1 == 1) = (r.getLsbD 0 != b.getLsbD k) := by
  have e1 : w8 b / 2 ^ k % 4294967296 = w32 ((b >>> k).setWidth 32) := by
    rw [shr8]; unfold w32
    rw [BitVec.toNat_setWidth, BitVec.toNat_ushiftRight, Nat.shiftRight_eq_div_pow]
    omega
  rw [e1, xor32, bits_and32, ofInt_w32]
  have e2 : (BitVec.ofInt 32 1) = 1#32 := by decide
  rw [e2]
  have e3 : (1 : Int) = w32 1#32 := by decide
  rw [e3]
  have e4 : ∀ z : BitVec 32, (w32 (z &&& 1#32) == w32 1#32) = z.getLsbD 0 := by
    intro z
    cases hz : z.getLsbD 0
    · have : z &&& 1#32 = 0#32 := by
        apply BitVec.eq_of_getLsbD_eq; intro i hi
        cases i with
        | zero => simpa using hz
        | succ i => simp
      rw [this]; decide
    · have : z &&& 1#32 = 1#32 := by
        apply BitVec.eq_of_getLsbD_eq; intro i hi
        cases i with
        | zero => simpa using hz
        | succ i => simp
      rw [this]; decide
  rw [e4]
  have e5 : b.getLsbD k = true → k < 32 := fun h => by
    by_cases hk : k < 8
    · omega
    · rw [BitVec.getLsbD_of_ge _ _ (by omega)] at h; cases h
  cases h : b.getLsbD k
  · simp [h]
  · simp [h, e5 h]

theorem poly_int : (3988292384 : Int) = w32 poly := by decide

/-- Where a sum lies: its value and how many bytes there were. -/
def SumAt (w : World) (B : Nat) (r : BitVec 32) (m : Int) : Prop :=
  (w.cell? ⟨B, 0, none⟩ = some (.int .u32 (w32 (~~~r))) ∧ w.cell? ⟨B, 1, none⟩ = some (.int .i64 m)) ∧ (w.frozen? ⟨B, 0, none⟩ = false ∧ w.frozen? ⟨B, 1, none⟩ = false)

theorem byte_any (B : Nat) (r : BitVec 32) (b : BitVec 8) (m : Int) (hm : 0 ≤ m ∧ m < 9223372036854775807) (w : World) (h : SumAt w B r m) :
    Calls Try.prog 108 #[.pointer (some ⟨B, 0, none⟩), .int .u8 (w8 b)] w fun e w' => e = .returned (.tuple #[]) ∧ SumAt w' B (byt r b) (m + 1) ∧ Below B w w' ∧ w'.heap.size = w.heap.size := by
  obtain ⟨⟨h0, h1⟩, f0, f1⟩ := h
  have hn : bits .xor .u32 IntKind.u32.max (w32 (~~~r)) = w32 r := by rw [not32]; simp
  go_enter Try.func108, Try.ntmps108
  go_wp2
  go_loopg [4, 12] 8 (fun g v i wr => ∃ (k : Nat), k + g = 8 ∧ i = .int .i64 k ∧ v = .int .u32 (w32 (byts r b k)) ∧ Aside (w = wr))
  case atStart => exact ⟨0, by omega, rfl, rfl, rfl⟩
  case round =>
    obtain ⟨k, hkg, rfl, rfl, hw⟩ := hrel
    obtain rfl := hw.out
    clear hw
    cases gk with
    | zero =>
      obtain rfl : k = 8 := by omega
      have hz := not32 (byts r b 8)
      go_wp2
      go_end0
      refine ⟨rfl, ⟨⟨by simp [go_sem, h0]; rfl, by simp [go_sem, h1]⟩, by simp [go_sem, f0], by simp [go_sem, f1]⟩, ((Below.refl B w).setCell (by simp) _).setCell (by simp) _, by simp⟩
    | succ g1 =>
      have ht := bit_test (byts r b k) b k
      have hx := xor32 (byts r b k >>> 1) poly
      rw [← poly_int] at hx
      rw [← half32] at hx
      cases hu : ((byts r b k).getLsbD 0 != b.getLsbD k)
      · rw [hu] at ht
        have HU : Aside (((byts r b k).getLsbD 0 != b.getLsbD k) = false) := hu
        clear hu
        go_wp2
        go_roundg g1
        case measure => omega
        case rel => exact ⟨k + 1, by omega, by go_num, by show _ = Value.int IntKind.u32 (w32 (stp _ _)); unfold stp; rw [HU.out, half32]; simp, rfl⟩
      · rw [hu] at ht
        have HU : Aside (((byts r b k).getLsbD 0 != b.getLsbD k) = true) := hu
        clear hu
        go_wp2
        go_roundg g1
        case measure => omega
        case rel => exact ⟨k + 1, by omega, by go_num, by show _ = Value.int IntKind.u32 (w32 (stp _ _)); unfold stp; rw [HU.out]; simp, rfl⟩

theorem SumAt.below {w w' : World} {B B' : Nat} {r : BitVec 32} {m : Int} (h : SumAt w B r m) (hb : Below B' w w') (hlt : B < B') : SumAt w' B r m := by
  obtain ⟨⟨h0, h1⟩, f0, f1⟩ := h
  have e : ∀ o, w'.frozen? ⟨B, o, none⟩ = w.frozen? ⟨B, o, none⟩ := fun o => by unfold World.frozen?; rw [hb.block B hlt]
  exact ⟨⟨(hb.cell (p := ⟨B, 0, none⟩) hlt).trans h0, (hb.cell (p := ⟨B, 1, none⟩) hlt).trans h1⟩, (e 0).trans f0, (e 1).trans f1⟩

theorem value_any (B : Nat) (r : BitVec 32) (m : Int) (w : World) (h : SumAt w B r m) :
    Calls Try.prog 80 #[.pointer (some ⟨B, 0, none⟩)] w fun e w' => e = .returned (.int .u32 (w32 (~~~r))) ∧ w = w' := by
  obtain ⟨⟨h0, h1⟩, f0, f1⟩ := h
  go_enter Try.func80, Try.ntmps80
  go_wp2
  go_ret
  exact ⟨rfl, rfl⟩

theorem part_int (x : BitVec 32) (k : Nat) : w32 x / 2 ^ (24 - 8 * k) % 256 = w8 (part x k) := by
  have e : w32 x / 2 ^ (24 - 8 * k) = ((x.toNat / 2 ^ (24 - 8 * k) : Nat) : Int) := by unfold w32; simp
  rw [e]
  unfold w8 part
  rw [BitVec.toNat_setWidth, BitVec.toNat_ushiftRight, Nat.shiftRight_eq_div_pow]
  omega

theorem word_any (B : Nat) (r x : BitVec 32) (m : Int) (hm : 0 ≤ m ∧ m < 9223372036854775803) (w : World) (h : SumAt w B r m) :
    Calls Try.prog 79 #[.pointer (some ⟨B, 0, none⟩), .int .u32 (w32 x)] w fun e w' => e = .returned (.tuple #[]) ∧ SumAt w' B (wrd r x) (m + 4) ∧ Below B w w' ∧ w'.heap.size = w.heap.size := by
  have H0 := Lib.hid h
  clear h
  go_enter Try.func79, Try.ntmps79
  go_wp2
  go_loopg [5] 4 (fun g i wr => ∃ (k : Nat), k + g = 4 ∧ i = .int .i64 k ∧ Aside (SumAt wr B (wrds r x k) (m + k) ∧ Below B w wr ∧ wr.heap.size = w.heap.size))
  case atStart => exact ⟨0, by omega, rfl, ⟨by simpa [wrds] using H0.out, Below.refl _ _, rfl⟩⟩
  case round =>
    obtain ⟨k, hkg, rfl, HW⟩ := hrel
    cases gk with
    | zero =>
      obtain rfl : k = 4 := by omega
      go_wp2
      go_end0
      exact ⟨rfl, HW.out⟩
    | succ g1 =>
      have hp := part_int x k
      go_wp2_with (go_at_call 108; refine (byte_any B (wrds r x k) (part x k) (m + k) (by omega) wr HW.out.1).mono ?_; rintro e w' ⟨rfl, hs, hb, hz⟩)
      go_roundg g1
      case measure => omega
      case rel =>
        refine ⟨k + 1, by omega, by go_num, ?_, HW.out.2.1.trans hb, hz.trans HW.out.2.2⟩
        rw [show m + ((k + 1 : Nat) : Int) = m + k + 1 by omega]
        exact hs

/-- The words of a slice, where they lie. -/
def rowW (l : List (BitVec 32)) : List Value := l.map fun x => .int .u32 (w32 x)
def nthW (l : List (BitVec 32)) (k : Nat) : BitVec 32 := l.getD k 0#32
theorem runW_snoc (r : BitVec 32) (l : List (BitVec 32)) (k : Nat) (h : k < l.length) : runW r (l.take (k + 1)) = wrd (runW r (l.take k)) (nthW l k) := by
  unfold runW; rw [List.take_succ_eq_append_getElem h, List.foldl_append]; show wrd _ _ = wrd _ _; congr 1; simp [nthW, h]
def nthB (l : List (BitVec 8)) (k : Nat) : BitVec 8 := l.getD k 0#8
theorem runB_snoc (r : BitVec 32) (l : List (BitVec 8)) (k : Nat) (h : k < l.length) : runB r (l.take (k + 1)) = byt (runB r (l.take k)) (nthB l k) := by
  unfold runB; rw [List.take_succ_eq_append_getElem h, List.foldl_append]; show byt _ _ = byt _ _; congr 1; simp [nthB, h]

theorem zero_not : Value.int IntKind.u32 0 = .int .u32 (w32 (~~~ones)) := rfl
theorem sum_new (w : World) : SumAt (w.alloc (.cells #[.int .u32 0, .int .i64 0] 97)) w.heap.size (ones) 0 := by
  refine ⟨⟨?_, ?_⟩, ?_, ?_⟩
  · rw [← zero_not]; simp [go_sem]
  · simp [go_sem]
  · simp [go_sem]
  · simp [go_sem]

theorem kwords_any (b off cap : Nat) (sp : Option Addr) (l : List (BitVec 32)) (w : World) (hl : l.length ≤ 500) (hsp : 0 < l.length → sp = some ⟨b, off, none⟩ ∧ b < w.heap.size)
    (hcell : ∀ k, k < l.length → w.cell? ⟨b, off + k, none⟩ = some (.int .u32 (w32 (nthW l k)))) :
    Calls Try.prog 48 #[.slice sp l.length cap] w fun e w' => e = .returned (.int .u32 (w32 (crcW l))) ∧ Below w.heap.size w w' := by
  have HC := Lib.hid hcell
  have HS := Lib.hid hsp
  clear hcell hsp
  have hn := sum_new w
  have b0 : Below w.heap.size w (w.alloc (.cells #[.int .u32 0, .int .i64 0] 97)) := (Below.refl _ _).alloc (Nat.le_refl _) _
  have HN := Lib.hid hn
  clear hn
  go_enter Try.func48, Try.ntmps48
  go_wp2
  go_loopg [8] l.length (fun g i wr => ∃ (k : Nat), k + g = l.length ∧ i = .int .i64 k ∧ Aside (SumAt wr w.heap.size (runW (ones) (l.take k)) ((4 * k : Nat) : Int) ∧ Below w.heap.size w wr))
  case atStart => exact ⟨0, by omega, rfl, ⟨by simpa [runW] using HN.out, b0⟩⟩
  case round =>
    obtain ⟨k, hkg, rfl, HW⟩ := hrel
    cases gk with
    | zero =>
      obtain rfl : k = l.length := by omega
      go_wp2_with (go_at_call 80; refine (value_any _ _ _ _ HW.out.1).mono ?_; rintro e w' ⟨rfl, rfl⟩)
      go_ret
      exact ⟨rfl, HW.out.2⟩
    | succ g1 =>
      have hlt : k < l.length := by omega
      obtain ⟨rfl, hbl⟩ := HS.out (by omega)
      have hc : wr.cell? ⟨b, off + k, none⟩ = some (.int .u32 (w32 (nthW l k))) := by rw [HW.out.2.cell (p := ⟨b, off + k, none⟩) hbl]; exact HC.out k hlt
      go_wp2_with (go_at_call 79; refine (word_any w.heap.size _ (nthW l k) _ (by omega) wr HW.out.1).mono ?_; rintro e w' ⟨rfl, hs, hb, hz⟩)
      go_roundg g1
      case measure => omega
      case rel =>
        refine ⟨k + 1, by omega, by go_num, ?_, HW.out.2.trans hb⟩
        rw [runW_snoc _ _ _ hlt, show ((4 * (k + 1) : Nat) : Int) = ((4 * k : Nat) : Int) + 4 by omega]
        exact hs

end Go.Proofs.Ythpagbfabpfngaa
