/- The walk of CrcAdds: true for every three slices of words. -/
import Derived.Test.YtkfaccbabagooaaBit
import Derived.StillTailTactics
import Derived.Deep.QuietTactic
import Derived.BigQuiet
namespace Go.Proofs.Ytkfaccbabagooaa
open Go.RowKit

def x3 (a x y : List (BitVec 32)) : List (BitVec 32) := List.zipWith (· ^^^ ·) (List.zipWith (· ^^^ ·) a x) y
def mix (a x y : List (BitVec 32)) (k : Nat) : List (BitVec 32) := (x3 a x y).take k ++ a.drop k
theorem x3_len (a x y : List (BitVec 32)) (hx : x.length = a.length) (hy : y.length = a.length) : (x3 a x y).length = a.length := by
  unfold x3; simp [hx, hy]
theorem mix_len (a x y : List (BitVec 32)) (k : Nat) (hx : x.length = a.length) (hy : y.length = a.length) (hk : k ≤ a.length) : (mix a x y k).length = a.length := by
  unfold mix; simp [x3_len a x y hx hy]; omega
theorem nth_mix (a x y : List (BitVec 32)) (k : Nat) (hx : x.length = a.length) (hy : y.length = a.length) (hk : k < a.length) : nthW (mix a x y k) k = nthW a k := by
  have h3 := x3_len a x y hx hy
  unfold mix nthW
  rw [List.getD_eq_getElem?_getD, List.getD_eq_getElem?_getD, List.getElem?_append_right (by simp; omega)]
  simp [h3, Nat.min_eq_left (Nat.le_of_lt hk)]
theorem nth_x3 (a x y : List (BitVec 32)) (k : Nat) (hx : x.length = a.length) (hy : y.length = a.length) (hk : k < a.length) : nthW (x3 a x y) k = nthW a k ^^^ nthW x k ^^^ nthW y k := by
  unfold x3 nthW
  simp [hk, hx, hy]
theorem mix_step (a x y : List (BitVec 32)) (k : Nat) (hx : x.length = a.length) (hy : y.length = a.length) (hk : k < a.length) :
    (mix a x y k).set k (nthW a k ^^^ nthW x k ^^^ nthW y k) = mix a x y (k + 1) := by
  have h3 := x3_len a x y hx hy
  rw [← nth_x3 a x y k hx hy hk]
  have hlt : k < (x3 a x y).length := by omega
  unfold mix
  rw [List.set_append_right _ _ (by simp; omega), List.take_succ_eq_append_getElem hlt]
  have e1 : k - ((x3 a x y).take k).length = 0 := by simp; omega
  have e2 : nthW (x3 a x y) k = (x3 a x y)[k] := by simp [nthW, hlt]
  rw [e1, List.drop_eq_getElem_cons hk, List.set_cons_zero, e2, List.append_assoc]
  rfl
theorem mix_zero (a x y : List (BitVec 32)) : mix a x y 0 = a := by simp [mix]
theorem mix_full (a x y : List (BitVec 32)) (hx : x.length = a.length) (hy : y.length = a.length) : mix a x y a.length = x3 a x y := by
  have h3 := x3_len a x y hx hy
  unfold mix; simp [← h3]
theorem crc_x3 (a x y : List (BitVec 32)) (hx : x.length = a.length) (hy : y.length = a.length) : crcW (x3 a x y) = crcW a ^^^ crcW x ^^^ crcW y := crcW_add a x y hx.symm hy.symm

theorem rowW_set (l : List (BitVec 32)) (i : Nat) (x : BitVec 32) : (rowW l).set i (.int .u32 (w32 x)) = rowW (l.set i x) := by
  unfold rowW; rw [List.map_set]
theorem below_drew {n : Nat} {w w' : World} (h : Below n w w') : Below n w w'.drew := ⟨h.os, h.tape, h.output, h.size, h.block⟩

theorem law_adds (ba offa ca bb offb nb cb bc offc nc cc : Nat) (a x y : List (BitVec 32)) (w : World) (hx : x.length = a.length) (hy : y.length = a.length) (hpos : 0 < a.length) (hn : a.length ≤ 500)
    (hnb : a.length ≤ nb) (hcb : nb ≤ cb) (hnc : a.length ≤ nc) (hcc : nc ≤ cc) (_hmb : cb ≤ 9223372036854775807) (_hmc : cc ≤ 9223372036854775807) (hba : ba < w.heap.size) (hbb : bb < w.heap.size) (hbc : bc < w.heap.size)
    (ha : ∀ k, k < a.length → w.cell? ⟨ba, offa + k, none⟩ = some (.int .u32 (w32 (nthW a k))))
    (hb : ∀ k, k < x.length → w.cell? ⟨bb, offb + k, none⟩ = some (.int .u32 (w32 (nthW x k))))
    (hc : ∀ k, k < y.length → w.cell? ⟨bc, offc + k, none⟩ = some (.int .u32 (w32 (nthW y k)))) :
    Calls Try.prog 5 #[.slice (some ⟨ba, offa, none⟩) a.length ca, .slice (some ⟨bb, offb, none⟩) nb cb, .slice (some ⟨bc, offc, none⟩) nc cc] w fun e w' => e = .returned (.bool true) ∧ Below w.heap.size w w' := by
  obtain ⟨i0, hi, hz0, hz1, hz2⟩ := info_parts info26
  have HA := Lib.hid ha
  have HBc := Lib.hid hb
  have HCc := Lib.hid hc
  clear ha hb hc
  have h1 : ((500 : Int) < (a.length : Int)) = False := by simp; omega
  have h2 : ((nb : Int) < (a.length : Int)) = False := by simp; omega
  have h3 : ((nc : Int) < (a.length : Int)) = False := by simp; omega
  have h4 : ((a.length : Int) ≤ (cb : Int)) := by omega
  have h5 : ((a.length : Int) ≤ (cc : Int)) := by omega
  have HT := Lib.hid (crc_x3 a x y hx hy)
  have B0 : Below w.heap.size w w.drew := ⟨rfl, rfl, rfl, Nat.le_refl _, fun _ _ => rfl⟩
  obtain ⟨w0, hw0⟩ : ∃ w0, w.drew = w0 := ⟨_, rfl⟩
  have z0 : w0.heap.size = w.heap.size := by rw [← hw0]; rfl
  rw [hw0] at B0
  have B2 : Below w0.heap.size w0 (w0.alloc (.cells #[] 26)) := (Below.refl _ _).alloc (Nat.le_refl _) _
  have OW := Lib.hid (own_fresh w0 w0.heap.size (Nat.le_refl _))
  have C1 := Lib.hid (cells_rowW (l := a) (b := ba) (off := offa) B2 (fun _ => by omega) (fun k hk => by rw [B0.cell (p := ⟨ba, offa + k, none⟩) hba]; exact HA.out k hk))
  have H63 := Lib.hid (show 0 + a.length ≤ maxLen ∧ (0 + a.length) * 4 ≤ 140737488355328 by unfold maxLen; omega)
  have WA : ∀ wz : World, Below w.heap.size w wz → Calls Try.prog 12 #[.slice (some ⟨ba, offa, none⟩) a.length ca] wz fun e w'' => e = .returned (.int .u32 (w32 (crcW a))) ∧ Below w.heap.size w w'' := fun wz hz =>
    (words_any ba offa ca _ a wz hn (fun _ => ⟨rfl, by have := hz.size; omega⟩) (fun k hk => by rw [hz.cell (p := ⟨ba, offa + k, none⟩) hba]; exact HA.out k hk)).mono fun e w'' h => ⟨h.1, hz.trans (h.2.mono hz.size)⟩
  have WX : ∀ wz : World, Below w.heap.size w wz → Calls Try.prog 12 #[.slice (some ⟨bb, offb, none⟩) a.length a.length] wz fun e w'' => e = .returned (.int .u32 (w32 (crcW x))) ∧ Below w.heap.size w w'' := fun wz hz => by
    have h := words_any bb offb a.length (some ⟨bb, offb, none⟩) x wz (by omega) (fun _ => ⟨rfl, by have := hz.size; omega⟩) (fun k hk => by rw [hz.cell (p := ⟨bb, offb + k, none⟩) hbb]; exact HBc.out k hk)
    rw [hx] at h
    exact h.mono fun e w'' h => ⟨h.1, hz.trans (h.2.mono hz.size)⟩
  have WY : ∀ wz : World, Below w.heap.size w wz → Calls Try.prog 12 #[.slice (some ⟨bc, offc, none⟩) a.length a.length] wz fun e w'' => e = .returned (.int .u32 (w32 (crcW y))) ∧ Below w.heap.size w w'' := fun wz hz => by
    have h := words_any bc offc a.length (some ⟨bc, offc, none⟩) y wz (by omega) (fun _ => ⟨rfl, by have := hz.size; omega⟩) (fun k hk => by rw [hz.cell (p := ⟨bc, offc + k, none⟩) hbc]; exact HCc.out k hk)
    rw [hy] at h
    exact h.mono fun e w'' h => ⟨h.1, hz.trans (h.2.mono hz.size)⟩
  have WL : ∀ wz : World, Below w.heap.size w wz → Calls Try.prog 13 #[] wz fun e w'' => e = .returned (.bool true) ∧ Below w.heap.size w w'' := fun wz hz =>
    (alive_any wz).mono fun e w'' h => ⟨h.1, hz.trans (h.2.mono hz.size)⟩
  have HWA := Lib.hid WA
  have HWX := Lib.hid WX
  have HWY := Lib.hid WY
  have HWL := Lib.hid WL
  clear WA WX WY WL
  have Z0 := Lib.hid z0
  clear z0
  go_enter Try.func5, Try.ntmps5
  go_wp2
  go_region
  rw [hw0]
  go_wp2_with (at_builtin; refine wpList_append_lies _ rfl (.tmp 40) (.tmp 41) 23 rfl w0.heap.size 26 i0 (.int .u32 0) 1 4 Try.underlying23 hi hz0 hz1 hz2 rfl Nat.one_pos _ 0 [] rfl OW.out ⟨ba, offa, none⟩ a.length ca (rowW a) rfl (by simp [rowW]) C1.out (rowW_one _) hpos H63.out.1 H63.out.2 (by simp) _ rfl ?_; intro g c1 w1 hown1 hg1 _ hlt1; rw [Nat.zero_add] at hown1 ⊢; rw [List.nil_append] at hown1; have HO := Lib.hid (And.intro hown1 hg1); clear hown1 hg1)
  have bg : Below w.heap.size w w1 := B0.trans ((Below.grown B2 HO.out.2 (by simp) (fun j e => by cases e; simp)).mono (by have := Z0.out; omega))
  have hgb : w.heap.size ≤ g := by have := (HO.out.1.lt g rfl).1; have := Z0.out; omega
  have HR0 := Lib.hid HO.out.1
  have BG := Lib.hid bg
  clear bg HO B2 B0 hw0
  go_loopg [10] a.length (fun n i wr => ∃ (k : Nat), k + n = a.length ∧ i = .int .i64 k ∧ Aside (wr.ownsRow w0.heap.size 26 1 (.slice (some ⟨g, 0, none⟩) a.length c1) a.length (rowW (mix a x y k)) ∧ Below w.heap.size w wr))
  case atStart => exact ⟨0, by omega, rfl, by rw [mix_zero]; exact HR0.out, BG.out⟩
  case round =>
    obtain ⟨k, hkg, rfl, HW⟩ := hrel
    cases gk with
    | zero =>
      obtain rfl : k = a.length := by omega
      have hW := HW.out
      rw [mix_full a x y hx hy] at hW
      have WM : Calls Try.prog 12 #[.slice (some ⟨g, 0, none⟩) a.length c1] wr fun e w'' => e = .returned (.int .u32 (w32 (crcW a ^^^ crcW x ^^^ crcW y))) ∧ Below w.heap.size w w'' := by
        have h3 := x3_len a x y hx hy
        have h := words_any g 0 c1 (some ⟨g, 0, none⟩) (x3 a x y) wr (by omega) (fun _ => ⟨rfl, (hW.1.lt g rfl).2⟩) (fun k hk => by
          rw [Nat.zero_add]
          exact (hW.1.cellAt k (by omega)).trans (rowW_get _ k hk))
        rw [h3, HT.out] at h
        exact h.mono fun e w'' h => ⟨h.1, hW.2.trans (h.2.mono hW.2.size)⟩
      have HM := Lib.hid WM
      have e1 := xor32 (crcW a) (crcW x)
      have e2 := xor32 (crcW a ^^^ crcW x) (crcW y)
      clear hW WM
      go_wp2_with fail
      refine HM.out.mono ?_
      rintro e w2 ⟨rfl, hb2⟩
      have q2 := Lib.hid (HWA.out w2 hb2)
      clear hb2
      go_wp2_with fail
      refine q2.out.mono ?_
      rintro e w3 ⟨rfl, hb3⟩
      have q3 := Lib.hid (HWX.out w3 hb3)
      clear hb3
      go_wp2_with fail
      refine q3.out.mono ?_
      rintro e w4 ⟨rfl, hb4⟩
      have q4 := Lib.hid (HWY.out w4 hb4)
      clear hb4
      go_wp2_with fail
      refine q4.out.mono ?_
      rintro e w5 ⟨rfl, hb5⟩
      have q5 := Lib.hid (HWL.out w5 hb5)
      clear hb5
      go_wp2_with fail
      refine q5.out.mono ?_
      rintro e w6 ⟨rfl, hb6⟩
      go_wp2
      go_ret
      exact ⟨rfl, hb6⟩
    | succ g1 =>
      have hlt : k < a.length := by omega
      have hk1 : (k : Int) < (a.length : Int) := by omega
      have hca := (HW.out.1.cellAt k (by omega)).trans (rowW_get _ k (by rw [mix_len a x y k hx hy (by omega)]; exact hlt))
      rw [nth_mix a x y k hx hy hlt] at hca
      have hfa := HW.out.1.frozenAt k
      have hcx : wr.cell? ⟨bb, offb + k, none⟩ = some (.int .u32 (w32 (nthW x k))) := by rw [HW.out.2.cell (p := ⟨bb, offb + k, none⟩) hbb]; exact HBc.out k (by omega)
      have hcy : wr.cell? ⟨bc, offc + k, none⟩ = some (.int .u32 (w32 (nthW y k))) := by rw [HW.out.2.cell (p := ⟨bc, offc + k, none⟩) hbc]; exact HCc.out k (by omega)
      have hx1 := xor32 (nthW a k) (nthW x k)
      have hx2 := xor32 (nthW a k ^^^ nthW x k) (nthW y k)
      go_wp2
      go_still_tail 17, (by kernel_rfl)
      go_wp2
      go_roundg g1
      case measure => omega
      case rel =>
        refine ⟨k + 1, by omega, by go_num, ?_, ?_⟩
        · have h := (HW.out.1.stored k (.int .u32 (w32 (nthW a k ^^^ nthW x k ^^^ nthW y k)))).1
          rw [rowW_set, mix_step a x y k hx hy hlt] at h
          exact h
        · exact HW.out.2.trans (below_drew (((Below.refl w.heap.size wr).setCell (show w.heap.size ≤ (⟨g, k, none⟩ : Addr).block from hgb) _)))
end Go.Proofs.Ytkfaccbabagooaa
