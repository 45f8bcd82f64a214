/- The contract of math/bits.TrailingZeros32, over its table. -/
import Derived.Test.YtimaihdlaaonbaaDoorSet
import Derived.Lib.LaidTab
namespace Go.Proofs.YtimaihdlaaonbaaDoor
open Go.RowKit

def Tab (w : World) : Prop := Lib.TabIs Tryd.prog w "math/bits.deBruijn32tab" .u8 (Lib.deBruijn32tab.map Int.ofNat)
theorem global0 : Tryd.prog.globalNamed "math/bits.deBruijn32tab" = some 0 := by kernel_rfl
theorem Tab.below {w w' : World} {n : Nat} (h : Tab w) (hn : 0 < n) (hb : Below n w w') : Tab w' := by
  unfold Tab Lib.TabIs at h ⊢
  unfold World.var? at h ⊢
  rw [global0] at h ⊢
  simp only [Option.bind_some] at h ⊢
  rw [hb.block 0 hn]; exact h
theorem Tab.pos {w : World} (h : Tab w) : 0 < w.heap.size := by
  unfold Tab Lib.TabIs World.var? at h
  rw [global0] at h
  simp only [Option.bind_some] at h
  cases hh : w.heap[0]? with
  | none => rw [hh] at h; cases h
  | some o => exact (Array.getElem?_eq_some_iff.1 hh).1
theorem Tab.cell {w : World} (h : Tab w) (j : Nat) (hj : j < 32) : w.cell? ⟨0, j, none⟩ = some (.int .u8 ((Lib.deBruijn32tab.getD j 0 : Nat) : Int)) := by
  unfold Tab Lib.TabIs World.var? at h
  rw [global0] at h
  simp only [Option.bind_some] at h
  cases hh : w.heap[0]? with
  | none => rw [hh] at h; cases h
  | some o =>
    rw [hh] at h
    cases o with
    | cells cs t fr =>
      simp only [Option.some.injEq] at h
      unfold World.cell?
      simp only [hh, h]
      have hl : j < Lib.deBruijn32tab.length := hj
      simp [hl]
    | _ => cases h

theorem tz_any (x : BitVec 32) (w : World) (ht : Tab w) : Calls Tryd.prog 27 #[.int .u32 (w32 x)] w fun e w' => e = .returned (.int .i64 (Lib.ctz 32 x.toNat : Nat)) ∧ w = w' := by
  by_cases h0 : x.toNat = 0
  · have : w32 x = 0 := by unfold w32; omega
    rw [this]
    have hc : Lib.ctz 32 x.toNat = 32 := by rw [h0]; rfl
    rw [hc]
    go_enter Tryd.func27, Tryd.ntmps27
    go_wp2
    go_ret
    exact ⟨rfl, rfl⟩
  · have hne : (w32 x == 0) = false := by unfold w32; simpa using h0
    obtain ⟨hlow, hk⟩ := Lib.lowest_bit 32 x.toNat h0 x.isLt
    obtain ⟨hi, htab⟩ := Lib.deBruijn32_at _ hk
    have hcell := ht.cell _ hi
    rw [htab] at hcell
    obtain ⟨idx, hidx⟩ : ∃ idx, 2 ^ Lib.ctz 32 x.toNat * 125613361 % 4294967296 / 134217728 = idx := ⟨_, rfl⟩
    have key : bits .and .u32 (w32 x) (-w32 x % (4294967296 : Int)) * 125613361 % (4294967296 : Int) / (134217728 : Int) = (idx : Int) := by
      have e1 : -w32 x % (4294967296 : Int) = ((4294967296 - x.toNat : Nat) : Int) := by have := x.isLt; unfold w32; omega
      have e2 : bits .and .u32 (w32 x) ((4294967296 - x.toNat : Nat) : Int) = ((x.toNat &&& (4294967296 - x.toNat) : Nat) : Int) := u32_and_nat _ _ x.isLt (by omega)
      rw [e1, e2, show (4294967296 : Nat) = 2 ^ 32 from rfl, hlow, ← hidx]
      generalize 2 ^ Lib.ctz 32 x.toNat = P
      omega
    rw [hidx] at hi hcell
    clear hlow htab hidx
    go_enter Tryd.func27, Tryd.ntmps27
    go_wp2_with (simp only [key])
    go_ret
    exact ⟨rfl, rfl⟩
end Go.Proofs.YtimaihdlaaonbaaDoor
