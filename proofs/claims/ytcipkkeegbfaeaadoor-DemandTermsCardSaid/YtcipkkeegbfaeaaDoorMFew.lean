/- The contracts of mask's Len, First and Of, and of math/bits' two functions beneath. -/
import Derived.Test.YtcipkkeegbfaeaaDoorMSet
import Derived.Lib.LaidTab
namespace Go.Proofs.YtcipkkeegbfaeaaDoor
open Go.RowKit

theorem and255 (n : Nat) (hn : n < 4294967296) : bits .and .u32 (n : Int) 255 = ((n % 256 : Nat) : Int) := by
  have h : bits .and .u32 (n : Int) ((255 : Nat) : Int) = ((n &&& 255 : Nat) : Int) := u32_and_nat n 255 hn (by omega)
  have e : n &&& 255 = n % 256 := Nat.and_two_pow_sub_one_eq_mod n 8
  rw [e] at h; exact h

/-- How many of the eight lowest bits are set. -/
def cnt8 (n : Nat) : Nat := ((List.range 8).filter n.testBit).length
theorem cnt8_le (n : Nat) : cnt8 n ≤ 8 := by
  unfold cnt8; have := List.length_filter_le n.testBit (List.range 8); simpa using this
theorem len_shift (x : BitVec 32) (d : Nat) (n : Nat) (h : ∀ i, i < 8 → n.testBit i = x.getLsbD (i + d)) : (((List.range 8).map (· + d)).filter x.getLsbD).length = cnt8 n := by
  unfold cnt8
  rw [List.filter_map, List.length_map]
  congr 1
  apply List.filter_congr
  intro i hi
  rw [h i (by simpa using hi)]
  rfl
theorem lst_cnt (x : BitVec 32) : (lst x 32).length = cnt8 (x.toNat / 16777216) + cnt8 (x.toNat / 65536 % 256) + cnt8 (x.toNat / 256 % 256) + cnt8 (x.toNat % 256) := by
  have hr : List.range 32 = (List.range 8).map (· + 0) ++ (List.range 8).map (· + 8) ++ (List.range 8).map (· + 16) ++ (List.range 8).map (· + 24) := by decide
  unfold lst
  rw [hr, List.filter_append, List.filter_append, List.filter_append, List.length_append, List.length_append, List.length_append]
  have hb : ∀ d i, x.getLsbD (i + d) = (x.toNat / 2 ^ d).testBit i := fun d i => by
    rw [Nat.testBit_div_two_pow, BitVec.getLsbD]
  have hm : ∀ n i, i < 8 → (n % 256).testBit i = n.testBit i := fun n i hi => by
    rw [show (256 : Nat) = 2 ^ 8 from rfl, Nat.testBit_mod_two_pow]; simp [hi]
  rw [len_shift x 0 (x.toNat % 256) (fun i hi => by rw [hm _ _ hi, hb]; simp), len_shift x 8 (x.toNat / 256 % 256) (fun i hi => by rw [hm _ _ hi, hb]),
    len_shift x 16 (x.toNat / 65536 % 256) (fun i hi => by rw [hm _ _ hi, hb]), len_shift x 24 (x.toNat / 16777216) (fun i hi => by rw [hb])]
  omega
theorem ones_fin (T : ByteArray) (hs : T.size = 256) (hT : ∀ i : Fin 256, (T.data.toList.getD i.val 0).toNat = cnt8 i.val) (x : BitVec 32) (y3 y2 y1 y0 : Nat) (l3 : y3 < 256) (l2 : y2 < 256) (l1 : y1 < 256) (l0 : y0 < 256)
    (h3 : x.toNat / 16777216 = y3) (h2 : x.toNat / 65536 % 256 = y2) (h1 : x.toNat / 256 % 256 = y1) (h0 : x.toNat % 256 = y0) :
    Ending.returned (.int .i64 (((T[y3]'(by omega)).toNat + (T[y2]'(by omega)).toNat + (T[y1]'(by omega)).toNat + (T[y0]'(by omega)).toNat : Int) % 256)) = .returned (.int .i64 ((lst x 32).length : Nat)) := by
  have g : ∀ (y : Nat) (hy : y < T.size), y < 256 → (T[y]'hy).toNat = cnt8 y := fun y hy hl => by
    rw [← hT ⟨y, hl⟩]
    have hl2 : y < T.data.toList.length := by simpa using hy
    simp only [List.getD_eq_getElem?_getD, List.getElem?_eq_getElem hl2, Option.getD_some]
    rfl
  rw [g y3 _ l3, g y2 _ l2, g y1 _ l1, g y0 _ l0, lst_cnt, h3, h2, h1, h0]
  have := cnt8_le y3; have := cnt8_le y2; have := cnt8_le y1; have := cnt8_le y0
  congr 2
  omega

def Tab (w : World) : Prop := Lib.TabIs Tryd.prog w "math/bits.deBruijn32tab" .u8 (Lib.deBruijn32tab.map Int.ofNat)
theorem global0 : Tryd.prog.globalNamed "math/bits.deBruijn32tab" = some 0 := by kernel_rfl
theorem Tab.below {w w' : World} {n : Nat} (h : Tab w) (hn : 0 < n) (hb : Below n w w') : Tab w' := by
  unfold Tab Lib.TabIs at h ⊢
  unfold World.var? at h ⊢
  rw [global0] at h ⊢
  simp only [Option.bind_some] at h ⊢
  rw [hb.block 0 hn]; exact h
theorem Tab.pos {w : World} (h : Tab w) : 0 < w.heap.size := by
  unfold Tab Lib.TabIs World.var? at h
  rw [global0] at h
  simp only [Option.bind_some] at h
  cases hh : w.heap[0]? with
  | none => rw [hh] at h; cases h
  | some o => exact (Array.getElem?_eq_some_iff.1 hh).1
theorem Tab.cell {w : World} (h : Tab w) (j : Nat) (hj : j < 32) : w.cell? ⟨0, j, none⟩ = some (.int .u8 ((Lib.deBruijn32tab.getD j 0 : Nat) : Int)) := by
  unfold Tab Lib.TabIs World.var? at h
  rw [global0] at h
  simp only [Option.bind_some] at h
  cases hh : w.heap[0]? with
  | none => rw [hh] at h; cases h
  | some o =>
    rw [hh] at h
    cases o with
    | cells cs t fr =>
      simp only [Option.some.injEq] at h
      unfold World.cell?
      simp only [hh, h]
      have hl : j < Lib.deBruijn32tab.length := hj
      simp [hl]
    | _ => cases h

theorem tz_any (x : BitVec 32) (w : World) (ht : Tab w) : Calls Tryd.prog 69 #[.int .u32 (w32 x)] w fun e w' => e = .returned (.int .i64 (Lib.ctz 32 x.toNat : Nat)) ∧ w = w' := by
  by_cases h0 : x.toNat = 0
  · have : w32 x = 0 := by unfold w32; omega
    rw [this]
    have hc : Lib.ctz 32 x.toNat = 32 := by rw [h0]; rfl
    rw [hc]
    go_enter Tryd.func69, Tryd.ntmps69
    go_wp2
    go_ret
    exact ⟨rfl, rfl⟩
  · have hne : (w32 x == 0) = false := by unfold w32; simpa using h0
    obtain ⟨hlow, hk⟩ := Lib.lowest_bit 32 x.toNat h0 x.isLt
    obtain ⟨hi, htab⟩ := Lib.deBruijn32_at _ hk
    have hcell := ht.cell _ hi
    rw [htab] at hcell
    obtain ⟨idx, hidx⟩ : ∃ idx, 2 ^ Lib.ctz 32 x.toNat * 125613361 % 4294967296 / 134217728 = idx := ⟨_, rfl⟩
    have key : bits .and .u32 (w32 x) (-w32 x % (4294967296 : Int)) * 125613361 % (4294967296 : Int) / (134217728 : Int) = (idx : Int) := by
      have e1 : -w32 x % (4294967296 : Int) = ((4294967296 - x.toNat : Nat) : Int) := by have := x.isLt; unfold w32; omega
      have e2 : bits .and .u32 (w32 x) ((4294967296 - x.toNat : Nat) : Int) = ((x.toNat &&& (4294967296 - x.toNat) : Nat) : Int) := u32_and_nat _ _ x.isLt (by omega)
      rw [e1, e2, show (4294967296 : Nat) = 2 ^ 32 from rfl, hlow, ← hidx]
      generalize 2 ^ Lib.ctz 32 x.toNat = P
      omega
    rw [hidx] at hi hcell
    clear hlow htab hidx
    go_enter Tryd.func69, Tryd.ntmps69
    go_wp2_with (simp only [key])
    go_ret
    exact ⟨rfl, rfl⟩
end Go.Proofs.YtcipkkeegbfaeaaDoor
