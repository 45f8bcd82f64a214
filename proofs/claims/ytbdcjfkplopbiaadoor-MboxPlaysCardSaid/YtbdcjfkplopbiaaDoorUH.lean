/- The contract of law51's alive. -/
import Derived.Test.YtbdcjfkplopbiaaDoorUG
namespace Go.Proofs.YtbdcjfkplopbiaaDoor
open Go.RowKit

def fa1 : Nat → List Int := updF f0 5 (f0 5 ++ [1])
def fa2 : Nat → List Int := updF (updF fa1 5 (fa1 5).dropLast) 2 (fa1 2 ++ [9])
theorem fa_btw : btw (dgK fa1 32) 2 32 ≠ 0#32 := by decide +kernel
theorem fa_last : lastI (btw (dgK fa1 32) 2 32) = 5 := by decide +kernel
theorem fa_lst : lst (dgK fa2 32) 32 = [2] := by decide +kernel
theorem fa_nth : nth (fa2 2) 0 = 9 := by decide
theorem fa_many0 : many f0 32 = 0 := many_f0 32
theorem fa_many1 : many fa1 32 = 1 := by decide +kernel
set_option maxHeartbeats 2000000 in
theorem malive_any (w : World) (ht : Tab w) : Calls Tryd.prog 6 #[] w fun e w' => e = .returned (.bool true) ∧ Below w.heap.size w w' := by
  obtain ⟨B, hB⟩ : ∃ B, B = w.heap.size := ⟨_, rfl⟩
  obtain ⟨V, hV⟩ : ∃ V : Nat → Prop, V = fun j => j < w.heap.size := ⟨_, rfl⟩
  have HN := Lib.hid (mnew_some V 1 (by decide) (by decide) w (fun j hj => by rw [hV] at hj; exact hj))
  have HW := Lib.hid (And.intro ht (And.intro ht.pos (And.intro hB hV)))
  have HT := Lib.hid (show ∀ wx, Ch (fun j => ¬ V j) w wx → Tab wx ∧ Below w.heap.size w wx ∧ ∀ j, V j → j < wx.heap.size from fun wx hc => by
    rw [hV] at hc
    have hb : Below w.heap.size w wx := hc.below (fun k hk hn => hn hk) (Nat.le_refl _)
    exact ⟨ht.below ht.pos hb, hb, fun j hj => by rw [hV] at hj; have := hb.size; exact Nat.lt_of_lt_of_le hj this⟩)
  rw [← hB] at HN
  clear ht hV hB
  go_enter Tryd.func6, Tryd.ntmps6
  go_upto_region 4 with (go_at_call 5; refine HN.out.mono ?_; rintro e w1 ⟨rfl, h1, b1⟩; have H1 := Lib.hid (And.intro h1 (Ch.new (T := fun j => ¬ V j) (by rw [HW.out.2.2.1] at b1; exact b1))); clear h1 b1)
  have HS := Lib.hid (show Calls Tryd.prog 8 #[.pointer (some ⟨B, 0, none⟩), .agg #[.int .i64 5, .int .i64 1]] w1 fun e w' => e = .returned (.tuple #[.bool false, .int .i64 0]) ∧ BAt w' V B 1 fa1 ∧ Ch (fun j => ¬ V j) w1 w' from
    send_room H1.out.1 (HT.out _ H1.out.2).2.2 5 1 (by decide) (by rw [fa_many0]; decide) (by rw [fa_many0]; decide))
  go_upto_region 5 with (go_at_call 8; refine HS.out.mono ?_; rintro e w2 ⟨rfl, h2, c2⟩; have H2 := Lib.hid (And.intro h2 (H1.out.2.trans c2)); clear h2 c2)
  have HS2 := Lib.hid (show Calls Tryd.prog 8 #[.pointer (some ⟨B, 0, none⟩), .agg #[.int .i64 2, .int .i64 9]] w2 fun e w' => e = .returned (.tuple #[.bool true, .int .i64 0]) ∧ BAt w' V B 1 fa2 ∧ Ch (fun j => ¬ V j) w2 w' from
    send_gives H2.out.1 (HT.out _ H2.out.2).2.2 (HT.out _ H2.out.2).1 2 9 (by decide) (by rw [fa_many1]; decide) (by rw [fa_many1]; decide) 5 fa_btw fa_last (by decide) (by decide) (by decide))
  clear HS
  go_upto_region 6 with (go_at_call 8; refine HS2.out.mono ?_; rintro e w3 ⟨rfl, h3, c3⟩; have H3 := Lib.hid (And.intro h3 (H2.out.2.trans c3)); clear h3 c3)
  have HK := Lib.hid (show Calls Tryd.prog 7 #[.pointer (some ⟨B, 0, none⟩)] w3 fun e w' => e = .returned (.tuple #[.agg #[.int .i64 2, .int .i64 9], .int .i64 0]) ∧ Ch (fun j => ¬ V j) w3 w' from by
    refine (take_some H3.out.1 (HT.out _ H3.out.2).2.2 (HT.out _ H3.out.2).1 2 [] fa_lst (by decide)).mono ?_
    rintro e w' ⟨rfl, _, hc⟩
    rw [fa_nth]
    exact ⟨rfl, hc⟩)
  clear HS2
  go_wp2_with (go_at_call 7; refine HK.out.mono ?_; rintro e w4 ⟨rfl, c4⟩; have H4 := Lib.hid (H3.out.2.trans c4); clear c4)
  go_ret
  refine ⟨rfl, ?_⟩
  rw [← HW.out.2.2.1]
  rw [HW.out.2.2.1]
  first | exact (HT.out _ H4.out).2.1 | exact ((HT.out _ H4.out).2.1).alloc (HT.out _ H4.out).2.1.size _
end Go.Proofs.YtbdcjfkplopbiaaDoor
