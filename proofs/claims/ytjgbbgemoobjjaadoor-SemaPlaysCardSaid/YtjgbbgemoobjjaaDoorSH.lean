/- The contract of law52's alive. -/
import Derived.Test.YtjgbbgemoobjjaaDoorSG
namespace Go.Proofs.YtjgbbgemoobjjaaDoor
open Go.RowKit

def sa0 : St := ⟨1, z0, 0#32⟩
def sa1 : St := (getS sa0 2).1
def sa2 : St := (getS sa1 1).1
theorem z0_tot : ∀ n, tot z0 n = 0
  | 0 => rfl
  | n + 1 => by show tot z0 n + 0 = 0; rw [z0_tot n]; rfl
theorem Inv.start (n : Int) (h1 : 1 ≤ n) (h2 : n ≤ 65536) : Inv n ⟨n, z0, 0#32⟩ :=
  ⟨h1, h2, by show 0 ≤ n; omega, fun _ => Int.le_refl _, by show n + tot z0 16 = n; rw [z0_tot]; omega, .inl rfl, fun m hm => by rw [lst_zero] at hm; cases hm⟩
theorem sa_get2 : (getS sa0 2).2 = (true, 0) := by decide
theorem sa_get1 : (getS sa1 1).2 = (false, 0) := by decide
theorem sa_put2 : (putS sa2 2).2 = (1, true, 0) := by decide
set_option maxHeartbeats 1000000 in
theorem alive_any (w : World) (ht : Tab w) : Calls Tryd.prog 16 #[] w fun e w' => e = .returned (.bool true) ∧ Below w.heap.size w w' := by
  have HN := Lib.hid (snew_some 1 (by decide) (by decide) w)
  have HW := Lib.hid (And.intro ht ht.pos)
  clear ht
  go_enter Tryd.func16, Tryd.ntmps16
  go_upto_region 4 with (go_at_call 15; refine HN.out.mono ?_; rintro e w1 ⟨rfl, s1, b1⟩; have H1 := Lib.hid (And.intro s1 b1); clear s1 b1)
  have i0 := Inv.start 1 (by decide) (by decide)
  have HG := Lib.hid (show Calls Tryd.prog 24 #[.pointer (some ⟨w.heap.size, 0, none⟩), .int .i64 2] w1 (SR w1 w.heap.size 1 (.tuple #[.bool true, .int .i64 0]) sa1) from by
    have := sget_any H1.out.1 i0 2
    rw [show (getS ⟨1, z0, 0#32⟩ 2).2 = (true, 0) from sa_get2] at this
    exact this)
  have I1 := Lib.hid (show Inv 1 sa1 from i0.get 2)
  clear i0
  go_upto_region 5 with (go_at_call 24; refine HG.out.mono ?_; rintro e w2 ⟨rfl, s2, c2⟩; have H2 := Lib.hid (And.intro s2 c2); clear s2 c2)
  have HG2 := Lib.hid (show Calls Tryd.prog 24 #[.pointer (some ⟨w.heap.size, 0, none⟩), .int .i64 1] w2 (SR w2 w.heap.size 1 (.tuple #[.bool false, .int .i64 0]) sa2) from by
    have := sget_any H2.out.1 I1.out 1
    rw [show (getS sa1 1).2 = (false, 0) from sa_get1] at this
    exact this)
  have I2 := Lib.hid (show Inv 1 sa2 from I1.out.get 1)
  clear HG
  go_upto_region 6 with (go_at_call 24; refine HG2.out.mono ?_; rintro e w3 ⟨rfl, s3, c3⟩; have H3 := Lib.hid (And.intro s3 (H2.out.2.trans c3)); clear s3 c3)
  have HT3 : Tab w3 := (HW.out.1.below HW.out.2 H1.out.2).below (Nat.zero_lt_one) (H3.out.2.below (fun k hk e => by have := HW.out.2; omega) (by have := H1.out.2.size; have := HW.out.2; omega))
  have HP := Lib.hid (show Calls Tryd.prog 17 #[.pointer (some ⟨w.heap.size, 0, none⟩), .int .i64 2] w3 (SR w3 w.heap.size 1 (.tuple #[.int .i64 1, .bool true, .int .i64 0]) (putS sa2 2).1) from by
    have := sput_any H3.out.1 I2.out HT3 (by have := HW.out.2; omega) 2
    rw [sa_put2] at this
    exact this)
  have I3 := Lib.hid (show Inv 1 (putS sa2 2).1 from I2.out.put 2)
  clear HG2 HT3
  go_upto_region 7 with (go_at_call 17; refine HP.out.mono ?_; rintro e w4 ⟨rfl, s4, c4⟩; have H4 := Lib.hid (And.intro s4 (H3.out.2.trans c4)); have HS := Lib.hid (sound_any s4 I3.out); clear s4 c4)
  go_wp2_with (go_at_call 29; refine HS.out.mono ?_; rintro e w5 ⟨rfl, rfl⟩)
  go_ret
  exact ⟨rfl, H1.out.2.trans (H4.out.2.below (fun k hk e => by omega) H1.out.2.size)⟩
end Go.Proofs.YtjgbbgemoobjjaaDoor
