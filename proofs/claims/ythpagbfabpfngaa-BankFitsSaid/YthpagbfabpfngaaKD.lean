/- The contracts of crc's Byte and Word where the sum lies in the midst of a block. -/
import Derived.Test.YthpagbfabpfngaaKS
import Derived.Test.YthpagbfabpfngaaBox
namespace Go.Proofs.Ythpagbfabpfngaa
open Go.RowKit

/-- A row with another sum in it. -/
def putSum (l : List Value) (o : Nat) (r : BitVec 32) (m : Int) : List Value := (l.set o (.int .u32 (w32 (~~~r)))).set (o + 1) (.int .i64 m)
theorem ch_setK (w : World) (B k : Nat) (v : Value) : Ch (fun j => j = B) w (w.setCell ⟨B, k, none⟩ v) := (Ch.refl _ _).setCell _ _ (.inl rfl)
theorem putSum_len (l : List Value) (o : Nat) (r : BitVec 32) (m : Int) : (putSum l o r m).length = l.length := by simp [putSum]
theorem putSum_twice (l : List Value) (o : Nat) (r s : BitVec 32) (m n : Int) : putSum (putSum l o r m) o s n = putSum l o s n := by
  unfold putSum
  apply List.ext_getElem?
  intro i
  simp only [List.getElem?_set, List.length_set]
  by_cases e1 : o + 1 = i <;> by_cases e2 : o = i <;> simp [e1, e2]
theorem putSum_0 (l : List Value) (o : Nat) (r : BitVec 32) (m : Int) (ho : o + 1 < l.length) : (putSum l o r m)[o]? = some (.int .u32 (w32 (~~~r))) := by
  unfold putSum
  rw [List.getElem?_set_ne (by omega), List.getElem?_set_self (by omega)]
theorem putSum_1 (l : List Value) (o : Nat) (r : BitVec 32) (m : Int) (ho : o + 1 < l.length) : (putSum l o r m)[o + 1]? = some (.int .i64 m) := by
  unfold putSum
  rw [List.getElem?_set_self (by rw [List.length_set]; omega)]
set_option maxHeartbeats 1000000 in
theorem byteO_any {w : World} {B o : Nat} {l : List Value} {r : BitVec 32} (b : BitVec 8) {m : Int} (hm : 0 ≤ m ∧ m < 9223372036854775807) (ho : o + 1 < l.length) (h : BoxAt w B (putSum l o r m)) :
    Calls Try.prog 108 #[.pointer (some ⟨B, o, none⟩), .int .u8 (w8 b)] w fun e w' => e = .returned (.tuple #[]) ∧ BoxAt w' B (putSum l o (byt r b) (m + 1)) ∧ Ch (fun j => j = B) w w' := by
  have h0 := h.cell o _ (putSum_0 l o r m ho)
  have h1 := h.cell (o + 1) _ (putSum_1 l o r m ho)
  have f0 := h.fr o
  have f1 := h.fr (o + 1)
  have hn : bits .xor .u32 IntKind.u32.max (w32 (~~~r)) = w32 r := by rw [not32]; simp
  have H0 := Lib.hid h
  have HO := Lib.hid ho
  clear h ho
  go_enter Try.func108, Try.ntmps108
  go_wp2
  go_loopg [4, 12] 8 (fun g v i wr => ∃ (k : Nat), k + g = 8 ∧ i = .int .i64 k ∧ v = .int .u32 (w32 (byts r b k)) ∧ Aside (w = wr))
  case atStart => exact ⟨0, by omega, rfl, rfl, rfl⟩
  case round =>
    obtain ⟨k, hkg, rfl, rfl, hw⟩ := hrel
    obtain rfl := hw.out
    clear hw
    cases gk with
    | zero =>
      obtain rfl : k = 8 := by omega
      have hz := not32 (byts r b 8)
      go_wp2
      go_end0
      refine ⟨rfl, ?_, ((ch_setK w B o _).trans (ch_setK _ B (o + 1) _))⟩
      have hA := (H0.out.set o (.int .u32 (w32 (~~~(byts r b 8)))) (by rw [putSum_len]; have := HO.out; omega)).set (o + 1) (.int .i64 (m + 1)) (by rw [List.length_set, putSum_len]; exact HO.out)
      have e : ((putSum l o r m).set o (.int .u32 (w32 (~~~(byts r b 8))))).set (o + 1) (.int .i64 (m + 1)) = putSum l o (byt r b) (m + 1) := putSum_twice l o r (byts r b 8) m (m + 1)
      rw [e] at hA
      exact hA
    | succ g1 =>
      have ht := bit_test (byts r b k) b k
      have hx := xor32 (byts r b k >>> 1) poly
      rw [← poly_int] at hx
      rw [← half32] at hx
      cases hu : ((byts r b k).getLsbD 0 != b.getLsbD k)
      · rw [hu] at ht
        have HU : Aside (((byts r b k).getLsbD 0 != b.getLsbD k) = false) := hu
        clear hu
        go_wp2
        go_roundg g1
        case measure => omega
        case rel => exact ⟨k + 1, by omega, by go_num, by show _ = Value.int IntKind.u32 (w32 (stp _ _)); unfold stp; rw [HU.out, half32]; simp, rfl⟩
      · rw [hu] at ht
        have HU : Aside (((byts r b k).getLsbD 0 != b.getLsbD k) = true) := hu
        clear hu
        go_wp2
        go_roundg g1
        case measure => omega
        case rel => exact ⟨k + 1, by omega, by go_num, by show _ = Value.int IntKind.u32 (w32 (stp _ _)); unfold stp; rw [HU.out]; simp, rfl⟩
theorem wordO_any {w : World} {B o : Nat} {l : List Value} {r : BitVec 32} (x : BitVec 32) {m : Int} (hm : 0 ≤ m ∧ m < 9223372036854775803) (ho : o + 1 < l.length) (h : BoxAt w B (putSum l o r m)) :
    Calls Try.prog 79 #[.pointer (some ⟨B, o, none⟩), .int .u32 (w32 x)] w fun e w' => e = .returned (.tuple #[]) ∧ BoxAt w' B (putSum l o (wrd r x) (m + 4)) ∧ Ch (fun j => j = B) w w' := by
  have H0 := Lib.hid h
  have HO := Lib.hid ho
  clear h ho
  go_enter Try.func79, Try.ntmps79
  go_wp2
  go_loopg [5] 4 (fun g i wr => ∃ (k : Nat), k + g = 4 ∧ i = .int .i64 k ∧ Aside (BoxAt wr B (putSum l o (wrds r x k) (m + k)) ∧ Ch (fun j => j = B) w wr))
  case atStart => exact ⟨0, by omega, rfl, ⟨by simpa [wrds] using H0.out, Ch.refl _ _⟩⟩
  case round =>
    obtain ⟨k, hkg, rfl, HW⟩ := hrel
    cases gk with
    | zero =>
      obtain rfl : k = 4 := by omega
      go_wp2
      go_end0
      exact ⟨rfl, HW.out⟩
    | succ g1 =>
      have hp := part_int x k
      go_wp2_with (go_at_call 108; refine (byteO_any (part x k) (by omega) HO.out HW.out.1).mono ?_; rintro e w' ⟨rfl, hs, hb⟩)
      go_roundg g1
      case measure => omega
      case rel =>
        refine ⟨k + 1, by omega, by go_num, ?_, HW.out.2.trans hb⟩
        rw [show m + ((k + 1 : Nat) : Int) = m + k + 1 by omega]
        exact hs
end Go.Proofs.Ythpagbfabpfngaa
