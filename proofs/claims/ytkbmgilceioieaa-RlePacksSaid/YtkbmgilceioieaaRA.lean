/- The contract of alive. -/
import Derived.Test.YtkbmgilceioieaaRK
namespace Go.Proofs.Ytkbmgilceioieaa
open Go.RowKit
attribute [local go_sem] Oper.semAt_some

theorem four_SL (w : World) (a b c d : Nat) (t : TypeId) : SL (w.alloc (.cells #[.int .u32 (a : Int), .int .u32 (b : Int), .int .u32 (c : Int), .int .u32 (d : Int)] t)) (some ⟨w.heap.size, 0, none⟩) w.heap.size 0 [a, b, c, d] := by
  refine ⟨fun _ => rfl, fun k hk => ?_⟩
  have h4 : k = 0 ∨ k = 1 ∨ k = 2 ∨ k = 3 := by simp at hk; omega
  rcases h4 with rfl | rfl | rfl | rfl <;> simp [go_sem, nthW]
theorem pack_ex : packS [7, 7, 7, 1] = [2147483651, 7, 1, 1] := by decide +kernel

set_option maxHeartbeats 2000000 in
set_option maxRecDepth 100000 in
theorem alive_any (w : World) : Calls Try.prog 43 #[] w fun e w' => e = .returned (.bool true) ∧ Below w.heap.size w w' := by
  go_enter Try.func43, Try.ntmps43
  have HS := four_SL w 7 7 7 1 27
  have HPK := pack_any [7, 7, 7, 1] _ _ 0 4 _ HS (by decide) (by decide) (by unfold maxLen; omega) (by decide)
  simp only [List.length_cons, List.length_nil, Nat.zero_add, Nat.reduceAdd, Int.cast_ofNat_Int, pack_ex] at HPK
  have HPK := Lib.hid HPK
  go_wp2_with (first
    | (go_at_call 41; refine HPK.out.mono ?_; rintro e w1 ⟨v, rfl, ho, hb⟩; obtain ⟨sp1, g1, cap1, rfl, hs1, -, -⟩ := own_SL (l := [2147483651, 7, 1, 1]) ho; have HX := Lib.hid (fun o => hs1.ch ((Ch.refl (fun _ => False) w1).alloc o) (fun _ h => h)); have HBW := Lib.hid hb; clear ho hs1 hb)
    | (go_at_call 40; refine (equal_any [2147483651, 7, 1, 1] [2147483651, 7, 1, 1] _ _ _ _ _ _ _ _ _ (HX.out _) (four_SL w1 2147483651 7 1 1 27) (by decide) (by decide)).mono ?_; rintro e w2 ⟨rfl, n, rfl⟩))
  have hA := (((Below.refl w.heap.size w).alloc (Nat.le_refl _) (.cells #[.int .u32 7, .int .u32 7, .int .u32 7, .int .u32 1] 27)).trans (HBW.out.mono (by simp))).alloc ?_ (.cells #[.int .u32 2147483651, .int .u32 7, .int .u32 1, .int .u32 1] 27)
  · exact ⟨rfl, .bool true, by simp [results, Try.results43, go_sem], rfl, ⟨hA.os, hA.tape, hA.output, hA.size, hA.block⟩⟩
  have := HBW.out.size
  simp at this
  omega
end Go.Proofs.Ytkbmgilceioieaa
