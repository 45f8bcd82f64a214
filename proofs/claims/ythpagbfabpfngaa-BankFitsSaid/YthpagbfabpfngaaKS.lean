/- The contracts of the law's sum and alive, and of the reference's Sum and Bytes. -/
import Derived.Test.YthpagbfabpfngaaKB
import Derived.Laws.AppendOwn
import Derived.Carry
import Derived.Maps.AppendAt
import Derived.Lib.SlBytesConst
import Derived.RegionTactic
import Derived.Deep.AppendLies
import Derived.Deep.RegionHeld3
import Derived.RangeFuncRecord
import Derived.BigRegion
namespace Go.Proofs.Ythpagbfabpfngaa
open Go.RowKit

def nine : List (BitVec 8) := [0x31#8, 0x32#8, 0x33#8, 0x34#8, 0x35#8, 0x36#8, 0x37#8, 0x38#8, 0x39#8]
theorem kodd_test (r : BitVec 32) (b : BitVec 8) (j : Nat) : ((w32 r).tmod 2 != (w8 b % 4294967296 / 2 ^ j).tmod 2) = (r.getLsbD 0 != b.getLsbD j) := by
  have e1 : w8 b % 4294967296 = w8 b := by have := w8_lt b; omega
  have e2 : (w32 r).tmod 2 = (((r.toNat % 2 : Nat)) : Int) := by unfold w32; rfl
  have e3 : (w8 b / 2 ^ j).tmod 2 = ((b.toNat / 2 ^ j % 2 : Nat) : Int) := by rw [shr8]; rfl
  rw [e1, e2, e3]
  have e4 := bit_nat r.toNat 0
  rw [Nat.pow_zero, Nat.div_one] at e4
  rw [e4, bit_nat b.toNat j]
  rw [BitVec.getLsbD, BitVec.getLsbD]
  cases r.toNat.testBit 0 <;> cases b.toNat.testBit j <;> rfl
theorem half_div (r : BitVec 32) : (w32 r).tdiv 2 % (4294967296 : Int) = w32 (r >>> (1 : Nat)) := by
  rw [← half32]
  have := w32_lt r
  rw [Int.tdiv_eq_ediv_of_nonneg this.1]
  omega

theorem refsum_any (b off cap : Nat) (sp : Option Addr) (l : List (BitVec 8)) (w : World) (hl : l.length ≤ 2000) (hsp : 0 < l.length → sp = some ⟨b, off, none⟩)
    (hcell : ∀ k, k < l.length → w.cell? ⟨b, off + k, none⟩ = some (.int .u8 (w8 (nthB l k)))) :
    Calls Try.prog 64 #[.slice sp l.length cap] w fun e w' => e = .returned (.int .u32 (w32 (crcB l))) ∧ w = w' := by
  have HC := Lib.hid hcell
  have HS := Lib.hid hsp
  clear hcell hsp
  go_enter Try.func64, Try.ntmps64
  go_wp2
  go_loopg [3, 4] l.length (fun g v i wr => ∃ (k : Nat), k + g = l.length ∧ i = .int .i64 k ∧ v = .int .u32 (w32 (runB ones (l.take k))) ∧ Aside (w = wr))
  case atStart => exact ⟨0, by omega, rfl, rfl, rfl⟩
  case round =>
    obtain ⟨k, hkg, rfl, rfl, hw⟩ := hrel
    obtain rfl := hw.out
    clear hw
    cases gk with
    | zero =>
      obtain rfl : k = l.length := by omega
      rw [List.take_length]
      have hn := not32 (runB ones l)
      go_wp2
      go_ret
      exact ⟨rfl, rfl⟩
    | succ g1 =>
      have hlt : k < l.length := by omega
      obtain rfl := HS.out (by omega)
      have hc := HC.out k hlt
      obtain ⟨r, hr⟩ : ∃ r, runB ones (l.take k) = r := ⟨_, rfl⟩
      have HR := Lib.hid hr
      rw [hr]
      clear hr
      go_wp2
      go_loopg [3, 5] 8 (fun g v i wx => ∃ (j : Nat), j + g = 8 ∧ i = .int .u64 j ∧ v = .int .u32 (w32 (byts r (nthB l k) j)) ∧ Aside (w = wx))
      case atStart => exact ⟨0, by omega, rfl, rfl, rfl⟩
      case round =>
        obtain ⟨j, hjg, rfl, rfl, hw⟩ := hrel
        obtain rfl := hw.out
        clear hw
        cases gk with
        | zero =>
          obtain rfl : j = 8 := by omega
          go_wp2
          go_roundg g1
          case measure => omega
          case rel => exact ⟨k + 1, by omega, by go_num, by rw [runB_snoc _ _ _ hlt, HR.out]; rfl, rfl⟩
        | succ g2 =>
          have ht := kodd_test (byts r (nthB l k) j) (nthB l k) j
          have hx := xor32 (byts r (nthB l k) j >>> 1) poly
          rw [← poly_int] at hx
          have hx := Lib.hid hx
          cases hu : ((byts r (nthB l k) j).getLsbD 0 != (nthB l k).getLsbD j)
          · rw [hu] at ht
            have HU : Aside (((byts r (nthB l k) j).getLsbD 0 != (nthB l k).getLsbD j) = false) := hu
            clear hu
            go_wp2
            go_roundg g2
            case measure => omega
            case rel => exact ⟨j + 1, by omega, by go_num, by show _ = Value.int IntKind.u32 (w32 (stp _ _)); unfold stp; rw [HU.out, half_div]; simp, rfl⟩
          · rw [hu] at ht
            have HU : Aside (((byts r (nthB l k) j).getLsbD 0 != (nthB l k).getLsbD j) = true) := hu
            clear hu
            go_wp2
            go_roundg g2
            case measure => omega
            case rel => exact ⟨j + 1, by omega, by go_num, by show _ = Value.int IntKind.u32 (w32 (stp _ _)); unfold stp; rw [HU.out, half_div, hx.out]; simp, rfl⟩

theorem info5 : (Try.prog.info? 5).map (fun i => (i.zero, i.size, i.bytes)) = some (some (.int .u8 0), 1, 1) := by kernel_rfl
def rowY (l : List (BitVec 8)) : List Value := l.map fun x => .int .u8 (w8 x)
theorem bytesOf_snoc (l : List (BitVec 32)) (k : Nat) (h : k < l.length) : bytesOf (l.take (k + 1)) = bytesOf (l.take k) ++ [part (nthW l k) 0, part (nthW l k) 1, part (nthW l k) 2, part (nthW l k) 3] := by
  rw [List.take_succ_eq_append_getElem h]
  unfold bytesOf
  rw [List.flatMap_append]
  simp [nthW, h]

def rawB (x : Int) : List Value := [.int .u8 (IntKind.u8.wrap (IntKind.u32.wrap (x.tdiv 16777216))), .int .u8 (IntKind.u8.wrap ((IntKind.u32.wrap (x.tdiv 65536)).tmod 256)), .int .u8 (IntKind.u8.wrap ((IntKind.u32.wrap (x.tdiv 256)).tmod 256)), .int .u8 (IntKind.u8.wrap (x.tmod 256))]
theorem raw_one (x : Int) : ∀ u ∈ rawB x, u.oneCell' = true := by intro u hu; simp [rawB] at hu; rcases hu with rfl | rfl | rfl | rfl <;> rfl
theorem raw_parts (x : BitVec 32) : rawB (w32 x) = rowY [part x 0, part x 1, part x 2, part x 3] := by
  have h := w32_lt x
  have p := part_int x
  have p0 : w32 x / 16777216 % 256 = w8 (part x 0) := by simpa using p 0
  have p1 : w32 x / 65536 % 256 = w8 (part x 1) := by simpa using p 1
  have p2 : w32 x / 256 % 256 = w8 (part x 2) := by simpa using p 2
  have p3 : w32 x % 256 = w8 (part x 3) := by simpa using p 3
  have w8r : ∀ n, IntKind.u8.wrap n = n % 256 := IntKind.wrap_u8'
  have w32r : ∀ n, IntKind.u32.wrap n = n % 4294967296 := IntKind.wrap_u32'
  simp only [rawB, rowY, List.map_cons, List.map_nil, ← p0, ← p1, ← p2, ← p3, w8r, w32r]
  obtain ⟨X, hX⟩ : ∃ X, w32 x = X := ⟨_, rfl⟩
  rw [hX] at h ⊢
  have t : ∀ d : Int, X.tdiv d = X / d := fun d => Int.tdiv_eq_ediv_of_nonneg h.1
  have e1 : (X / 65536 % 4294967296).tmod 256 = X / 65536 % 4294967296 % 256 := Int.tmod_eq_emod_of_nonneg (by omega)
  have e2 : (X / 256 % 4294967296).tmod 256 = X / 256 % 4294967296 % 256 := Int.tmod_eq_emod_of_nonneg (by omega)
  have e3 : X.tmod 256 = X % 256 := Int.tmod_eq_emod_of_nonneg h.1
  rw [t, t, t, e1, e2, e3]
  have q0 : X / 16777216 % 4294967296 % 256 = X / 16777216 % 256 := by omega
  have q1 : X / 65536 % 4294967296 % 256 % 256 = X / 65536 % 256 := by omega
  have q2 : X / 256 % 4294967296 % 256 % 256 = X / 256 % 256 := by omega
  have q3 : X % 256 % 256 = X % 256 := by omega
  rw [q0, q1, q2, q3]

theorem refbytes_any (b off cap : Nat) (sp : Option Addr) (l : List (BitVec 32)) (w : World) (hl : l.length ≤ 500) (hsp : 0 < l.length → sp = some ⟨b, off, none⟩ ∧ b < w.heap.size)
    (hcell : ∀ k, k < l.length → w.cell? ⟨b, off + k, none⟩ = some (.int .u32 (w32 (nthW l k)))) :
    Calls Try.prog 65 #[.slice sp l.length cap] w fun e w' => ∃ v, e = .returned v ∧ w'.ownsRow w.heap.size 5 1 v (4 * l.length) (rowY (bytesOf l)) ∧ Below w.heap.size w w' := by
  obtain ⟨i0, hi, hz0, hz1, hz2⟩ := info_parts info5
  have HC := Lib.hid hcell
  have HS := Lib.hid hsp
  clear hcell hsp
  go_enter Try.func65, Try.ntmps65
  go_wp2
  go_loopg [3, 4] l.length (fun g v i wr => ∃ (k : Nat), k + g = l.length ∧ i = .int .i64 k ∧ wr.ownsRow w.heap.size 5 1 v (4 * k) (rowY (bytesOf (l.take k))) ∧ Below w.heap.size w wr)
  case atStart => exact ⟨0, by omega, rfl, World.ownsRow_nil _ _ _ _, Below.refl _ _⟩
  case round =>
    obtain ⟨k, hkg, rfl, hown, hB⟩ := hrel
    cases gk with
    | zero =>
      obtain rfl : k = l.length := by omega
      rw [List.take_length] at hown
      have HO := Lib.hid hown
      have HB := Lib.hid hB
      clear hown hB
      go_wp2
      go_ret
      exact ⟨_, rfl, HO.out, HB.out⟩
    | succ g1 =>
      have hlt : k < l.length := by omega
      have hk1 : (k : Int) < (l.length : Int) := by omega
      obtain ⟨rfl, hbl⟩ := HS.out (by omega)
      have hc : wr.cell? ⟨b, off + k, none⟩ = some (.int .u32 (w32 (nthW l k))) := by rw [hB.cell (p := ⟨b, off + k, none⟩) hbl]; exact HC.out k hlt
      have HCk := Lib.hid (HC.out k hlt)
      have H63 := Lib.hid (show 4 * k + 4 ≤ maxLen ∧ (4 * k + 4) * 1 ≤ 140737488355328 by unfold maxLen; omega)
      have HN := Lib.hid (fun o => World.ownsRow.alloc (w := wr.drew) hown o)
      have HL := Lib.hid (show w.heap.size ≤ (wr.drew.alloc (.cells (rawB (w32 (nthW l k))).toArray 5)).heap.size by rw [World.size_alloc]; exact Nat.le_succ_of_le hB.size)
      have HK := Lib.hid (show ∀ j u, (rawB (w32 (nthW l k)))[j]? = some u → (wr.drew.alloc (.cells (rawB (w32 (nthW l k))).toArray 5)).cell? ((⟨wr.heap.size, 0, none⟩ : Addr).add j) = some u from World.news_of_block (World.alloc_heap_new wr.drew (.cells (rawB (w32 (nthW l k))).toArray 5)))
      have HG := Lib.hid (fun (w1 : World) (hg : World.grownBy (wr.drew.alloc (.cells (rawB (w32 (nthW l k))).toArray 5)) w1 u3.ownBlock) =>
        Below.grown (Below.alloc (B := w.heap.size) (a := w) (w := wr.drew) ⟨hB.os, hB.tape, hB.output, hB.size, hB.block⟩ hB.size _) hg HL.out (fun j e => (hown.lt j e).1))
      clear hown hB
      go_wp2
      go_region_held3 (fun w' => w'.cell? ⟨b, off + k, none⟩ = some (.int .u32 (w32 (nthW l k)))) (first | exact hcn | go_keep)
        (first
          | (refine step_append_lies _ rfl (.tmp 11) (.tmp 38) 123 rfl w.heap.size 5 i0 (.int .u8 0) 1 1 Try.underlying123 hi hz0 hz1 hz2 rfl Nat.one_pos _ (4 * k) (rowY (bytesOf (l.take k))) rfl (HN.out _) ⟨wr.heap.size, 0, none⟩ 4 4 (rawB (w32 (nthW l k))) rfl rfl HK.out (raw_one _) (Nat.succ_pos 3) H63.out.1 H63.out.2 HL.out _ rfl ?_; intro g cap w1 hown1 hgrow hat hlt1; have hBn : Below w.heap.size w w1 := HG.out _ hgrow; have hcn : w1.cell? ⟨b, off + k, none⟩ = some (.int .u32 (w32 (nthW l k))) := (hBn.cell (p := ⟨b, off + k, none⟩) hbl).trans HCk.out))
      have HO := Lib.hid hown1
      clear hown1 hgrow hat hcn
      go_wp2
      go_roundg g1
      case measure => omega
      case rel =>
        refine ⟨k + 1, by omega, by go_num, ?_, hBn⟩
        have h := HO.out
        rw [raw_parts] at h
        rw [bytesOf_snoc l k hlt]
        unfold rowY at h ⊢
        rw [List.map_append]
        exact h

end Go.Proofs.Ythpagbfabpfngaa
