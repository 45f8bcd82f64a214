/- The contracts of the reference's Read and Copy. -/
import Derived.Test.YtkbmgilceioieaaFQ
namespace Go.Proofs.Ytkbmgilceioieaa
open Go.RowKit

variable {n0 n1 n2 : Int} {bL nL cL bW nW cW : Nat} {off ar : Bool} {af sd op : Int}
theorem readV_off (w : World) (s k : Int) : Calls Try.prog 16 #[vD n0 n1 n2 bL nL cL bW nW cW true ar af sd op, .int .i64 s, .int .i64 k] w fun e w' =>
    e = .returned (.tuple #[.int .u32 0, .int .i64 63]) ∧ Below w.heap.size w w' := by
  go_enter Try.func16, Try.ntmps16
  go_wp2
  go_ret2
  refine ⟨rfl, ?_⟩
  repeat' (first | exact Below.refl _ _ | refine Below.alloc ?_ ?_ _ | refine Below.setCell ?_ ?_ _)
  all_goals first | omega | (simp only [World.size_alloc, World.size_setCell]; omega)
theorem readV_no (w : World) (s k : Int) (hi : ∀ w, Calls Try.prog 54 #[vD n0 n1 n2 bL nL cL bW nW cW false ar af sd op, .int .i64 s, .int .i64 k] w fun e w' => e = .returned (.bool false) ∧ Below w.heap.size w w') :
    Calls Try.prog 16 #[vD n0 n1 n2 bL nL cL bW nW cW false ar af sd op, .int .i64 s, .int .i64 k] w fun e w' =>
    e = .returned (.tuple #[.int .u32 0, .int .i64 60]) ∧ Below w.heap.size w w' := by
  have HI := Lib.hid hi
  clear hi
  go_enter Try.func16, Try.ntmps16
  go_wp2_with (first
    | (go_at_call 54; refine (HI.out _).mono ?_; rintro e w1 ⟨rfl, hb⟩; have HB := Lib.hid hb; clear hb)
    | fail)
  go_ret2
  refine ⟨rfl, Below.trans ?_ (HB.out.mono ?_)⟩
  · repeat' (first | exact Below.refl _ _ | refine Below.alloc ?_ ?_ _ | refine Below.setCell ?_ ?_ _)
    all_goals first | omega | (simp only [World.size_alloc, World.size_setCell]; omega)
  · simp only [World.size_alloc]; omega
theorem readV_ok (w : World) (s k : Int) (m t : Nat) (x : Int) (hi : ∀ w, Calls Try.prog 54 #[vD n0 n1 n2 bL nL cL bW nW cW false ar af sd op, .int .i64 s, .int .i64 k] w fun e w' => e = .returned (.bool true) ∧ Below w.heap.size w w')
    (m1 : IntKind.i64.wrap (s * n1) = (m : Int)) (m2 : IntKind.i64.wrap ((m : Int) + k) = (t : Int)) (ht : t < nL) (hc : w.cell? ⟨bL, t, none⟩ = some (.int .u32 x)) :
    Calls Try.prog 16 #[vD n0 n1 n2 bL nL cL bW nW cW false ar af sd op, .int .i64 s, .int .i64 k] w fun e w' =>
    e = .returned (.tuple #[.int .u32 x, .int .i64 0]) ∧ Below w.heap.size w w' := by
  have HI := Lib.hid hi
  have t0 : (0 : Int) ≤ (t : Int) := by omega
  have t1 : (t : Int) < (nL : Int) := by omega
  obtain ⟨wB, hwB⟩ : ∃ wB, w.alloc (.cells #[.int .i64 n0, .int .i64 n1, .int .i64 n2, .slice (some ⟨bL, 0, none⟩) nL cL, .slice (some ⟨bW, 0, none⟩) nW cW, .bool false, .bool ar, .int .i64 af, .int .u32 sd, .int .i64 op] 29) = wB := ⟨_, rfl⟩
  have hb1 : Below w.heap.size w wB := by rw [← hwB]; exact (Below.refl _ _).alloc (Nat.le_refl _) _
  have HS := Lib.hid (fun (w2 : World) (hb : Below wB.heap.size wB w2) => (show w2.cell? ⟨w.heap.size, 3, none⟩ = some (.slice (some ⟨bL, 0, none⟩) nL cL) ∧ w2.cell? ⟨w.heap.size, 1, none⟩ = some (.int .i64 n1) ∧ w2.cell? ⟨bL, t, none⟩ = some (.int .u32 x) ∧ Below w.heap.size w w2 from by
    have hlt : w.heap.size < wB.heap.size := by rw [← hwB, World.size_alloc]; omega
    have hbL := World.block_lt_of_cell? w _ hc
    refine ⟨?_, ?_, ?_, hb1.trans (hb.mono (by omega))⟩
    · rw [hb.cell (p := ⟨w.heap.size, 3, none⟩) hlt, ← hwB]; simp [go_sem]
    · rw [hb.cell (p := ⟨w.heap.size, 1, none⟩) hlt, ← hwB]; simp [go_sem]
    · rw [hb.cell (p := ⟨bL, t, none⟩) (by simp at hbL ⊢; omega), hb1.cell (p := ⟨bL, t, none⟩) (by simpa using hbL)]; exact hc))
  clear hi hb1 hc
  subst hwB
  go_enter Try.func16, Try.ntmps16
  go_wp2_with (first
    | (go_at_call 54; refine (HI.out _).mono ?_; rintro e w1 ⟨rfl, hb⟩; obtain ⟨q1, q2, q3, q4⟩ := HS.out w1 hb; have HB := Lib.hid q4; clear hb q4)
    | fail)
  go_ret2
  exact ⟨rfl, HB.out⟩
theorem wrap_nat (x : Int) (n : Nat) (h : x = (n : Int)) (hn : n < 1000000) : IntKind.i64.wrap x = (n : Int) := by rw [IntKind.wrap_i64]; omega
theorem readR_any {w : World} {d : Dev} (h : RefIn w bL bW d) (cL cW : Nat) (s k : Int) : Calls Try.prog 16 #[refX bL cL bW cW d, .int .i64 s, .int .i64 k] w fun e w' =>
    e = .returned (.tuple #[.int .u32 (w32 (d.readW s k)), .int .i64 (d.readE s k)]) ∧ Below w.heap.size w w' := by
  have hi := fun w => isR_any (.slice (some ⟨bL, 0, none⟩) (d.ns * d.nw : Nat) cL) (.slice (some ⟨bW, 0, none⟩) d.ns cW) d s k w
  unfold refV at hi
  unfold refX refV Dev.readW Dev.readE
  cases hon : d.on with
  | false => exact readV_off w s k
  | true =>
    rw [hon] at hi
    cases hk : d.okK s k with
    | false => rw [hk] at hi; exact readV_no w s k hi
    | true =>
      rw [hk] at hi
      unfold Dev.okK Dev.has at hk
      simp at hk
      obtain ⟨i, rfl⟩ : ∃ i : Nat, s = i := ⟨s.toNat, by omega⟩
      obtain ⟨j, rfl⟩ : ∃ j : Nat, k = j := ⟨k.toNat, by omega⟩
      have hz := h.zn
      have hm : i * d.nw ≤ 64 * 1024 := Nat.mul_le_mul (by omega) (by omega)
      exact readV_ok w i j (i * d.nw) (i * d.nw + j) (w32 (d.word i j)) hi (wrap_nat _ _ (by simp) (by omega)) (wrap_nat _ _ (by simp) (by omega)) (flat_lt _ _ _ _ (by omega) (by omega)) (h.cl i j (by omega) (by omega))
end Go.Proofs.Ytkbmgilceioieaa
