/- The walk of PairMasks. -/
import Derived.Test.YtimaihdlaaonbaaMasks
import Derived.Deep.RegionHeld3
namespace Go.Proofs.Ytimaihdlaaonbaa
open Go.RowKit

theorem rowW_at (x : BitVec 32) (n k : Nat) (h : k < n) : (rowW (ms x n))[k]? = some (.int .u32 (w32 (it x k))) := by
  unfold rowW
  rw [List.getElem?_map, ms_at x n k h]; rfl
/-- The row of masks, as a slice whose cells are known. -/
theorem own_slice {w : World} {base : Nat} {v : Value} {x : BitVec 32} {n : Nat} (h : w.ownsRow base 22 1 v n (rowW (ms x n))) :
    ∃ sp g cap, v = .slice sp n cap ∧ (0 < n → sp = some ⟨g, 0, none⟩ ∧ base ≤ g ∧ g < w.heap.size) ∧ ∀ k, k < n → w.cell? ⟨g, k, none⟩ = some (.int .u32 (w32 (it x k))) := by
  rcases h.2 with ⟨rfl, h0⟩ | ⟨g, cap, cur, rfl, _⟩
  · exact ⟨none, 0, 0, by rw [h0], fun h => by omega, fun k hk => by omega⟩
  · have hl := h.lt g rfl
    exact ⟨some ⟨g, 0, none⟩, g, cap, rfl, fun _ => ⟨rfl, hl.1, hl.2⟩, fun k hk => (h.cellAt k (by omega)).trans (rowW_at x n k hk)⟩
theorem held_set {g k Bm : Nat} {u v : Value} {wz : World} (hne : Bm ≠ g) (h : wz.cell? ⟨g, k, none⟩ = some u) : (wz.setCell ⟨Bm, 0, none⟩ v).cell? ⟨g, k, none⟩ = some u := by
  rw [World.cell?_setCell_other _ _ _ _ (fun e => hne (by cases e; rfl))]; exact h

set_option maxHeartbeats 1000000 in
theorem law_masks (x : BitVec 32) (many : Int) (w : World) : Calls Try.prog 4 #[.int .u32 (w32 x), .int .i64 many] w fun e w' => e = .returned (.bool true) ∧ Below w.heap.size w w' := by
  by_cases hm : many ≤ 500
  · have CM := Lib.hid (fun wz : World => refmasks_any x many hm wz)
    have CAl := Lib.hid (fun wz : World => alive_any wz)
    obtain ⟨n, hn⟩ : ∃ n, many.toNat = n := ⟨_, rfl⟩
    rw [hn] at CM
    have hn5 : n ≤ 500 := by omega
    go_enter Try.func4, Try.ntmps4
    go_wp2_with fail
    refine (seeded_any x _).mono ?_
    rintro e w1 ⟨rfl, rfl⟩
    go_wp2_with fail
    have b0 : ∀ W2 : World, ((w.alloc (.cells #[.int .u32 (w32 (sd x))] 37)).alloc (.cells #[.int .u32 (w32 (sd x))] 37)) = W2 → Below w.heap.size w W2 ∧ w.heap.size + 1 < W2.heap.size ∧
        W2.cell? ⟨w.heap.size + 1, 0, none⟩ = some (.int .u32 (w32 (it (sd x) 0))) ∧ W2.frozen? ⟨w.heap.size + 1, 0, none⟩ = false := by
      rintro W2 rfl
      refine ⟨((Below.refl _ _).alloc (Nat.le_refl _) _).alloc (by simp) _, by simp, ?_⟩
      simp [go_sem]
      rfl
    refine (CM.out _).mono ?_
    generalize hW2 : World.alloc _ _ = W2
    obtain ⟨bW, sW, c0, f0⟩ := b0 W2 hW2
    clear hW2 b0
    rintro e w3 ⟨v, rfl, hown, hb3⟩
    obtain ⟨sp, g, cap, rfl, hsp, hcl⟩ := own_slice hown
    obtain ⟨Bm, hBm⟩ : ∃ Bm, w.heap.size + 1 = Bm := ⟨_, rfl⟩
    rw [hBm] at sW c0 f0
    have c3 : w3.cell? ⟨Bm, 0, none⟩ = some (.int .u32 (w32 (it (sd x) 0))) := by rw [hb3.cell (p := ⟨Bm, 0, none⟩) sW]; exact c0
    have f3 : w3.frozen? ⟨Bm, 0, none⟩ = false := by unfold World.frozen?; rw [hb3.block Bm sW]; exact f0
    have BW := Lib.hid (bW.trans (hb3.mono bW.size))
    have HBm := Lib.hid (show Bm < w3.heap.size ∧ w.heap.size ≤ Bm ∧ (0 < n → Bm < g) from ⟨Nat.lt_of_lt_of_le sW hb3.size, by omega, fun h => by have := (hsp h).2.1; omega⟩)
    have HSP := Lib.hid hsp
    have HCL := Lib.hid hcl
    have HS := Lib.hid (And.intro c3 f3)
    clear hown hb3 hsp hcl c3 f3 bW sW c0 f0
    rw [hBm]
    go_wp2
    go_loopg [7] n (fun m i wr => ∃ (k : Nat), k + m = n ∧ i = .int .i64 k ∧ wr.cell? ⟨Bm, 0, none⟩ = some (.int .u32 (w32 (it (sd x) k))) ∧ wr.frozen? ⟨Bm, 0, none⟩ = false ∧
      Aside ((∀ j, j < n → wr.cell? ⟨g, j, none⟩ = some (.int .u32 (w32 (it (sd x) j)))) ∧ Below w.heap.size w wr))
    case atStart => exact ⟨0, by omega, rfl, HS.out.1, HS.out.2, HCL.out, BW.out⟩
    case round =>
      obtain ⟨k, hkg, rfl, hc, hf, HA⟩ := hrel
      cases gk with
      | zero =>
        obtain rfl : k = n := by omega
        go_wp2_with (go_at_call 18; refine (CAl.out _).mono ?_; rintro e w' ⟨rfl, hb⟩)
        go_ret
        exact ⟨rfl, HA.out.2.trans (hb.mono HA.out.2.size)⟩
      | succ g1 =>
        have hlt : k < n := by omega
        have hli : (k : Int) < (n : Int) := by omega
        have hl0 : (0 : Int) ≤ (k : Int) := by omega
        obtain ⟨rfl, hg1, hg2⟩ := HSP.out (by omega)
        have hgk := HA.out.1 k hlt
        have hne : Bm ≠ g := by have := HBm.out.2.2 (by omega); omega
        have HNe := Lib.hid hne
        have HCF := Lib.hid (And.intro hc hf)
        have HG := Lib.hid hgk
        clear hne hc hf hg1 hg2
        go_wp2
        go_region_held3 (fun w' => w'.cell? ⟨g, k, none⟩ = some (.int .u32 (w32 (it (sd x) k)))) (first | assumption | exact HG.out | exact held_set HNe.out (by assumption))
          ((go_at_call 21; refine (next_any Bm (it (sd x) k) wr.drew HCF.out.1 HCF.out.2).mono ?_; rintro e w' ⟨rfl, rfl⟩))
        all_goals
          go_wp2
          go_roundg g1
          case measure => omega
          case rel =>
            have hs : ∀ j, j < n → (wr.drew.setCell ⟨Bm, 0, none⟩ (.int .u32 (w32 (nxt (it (sd x) k))))).cell? ⟨g, j, none⟩ = some (.int .u32 (w32 (it (sd x) j))) := fun j hj => held_set HNe.out (HA.out.1 j hj)
            refine ⟨k + 1, by omega, by go_num, ?_, ?_, hs, (HA.out.2.drew).setCell (HBm.out.2.1) _⟩
            · simp [go_sem, HCF.out.1]; rfl
            · simp [go_sem, HCF.out.2]
  · have hgt : (500 : Int) < many := by omega
    go_enter Try.func4, Try.ntmps4
    go_wp2
    go_ret
    exact ⟨rfl, Below.refl _ _⟩
end Go.Proofs.Ytimaihdlaaonbaa
