/- SemaPlays where nothing is asked: too many calls, or a number of which there is no sema. -/
import Derived.Test.YtjgbbgemoobjjaaDoorSJ
namespace Go.Proofs.YtjgbbgemoobjjaaDoor
open Go.RowKit

set_option maxHeartbeats 4000000 in
set_option maxRecDepth 100000 in
theorem law_many (mo : Int) (sp : Option Addr) (cap n : Nat) (hn : ¬ n ≤ 200) (w : World) :
    Calls Tryd.prog 5 #[.int .i64 mo, .slice sp n cap] w fun e w' => e = .returned (.bool true) ∧ Below w.heap.size w w' := by
  have d2 : (200 : Int) < (n : Int) := by omega
  clear hn
  go_enter Tryd.func5, Tryd.ntmps5
  go_wp2
  go_ret
  exact ⟨rfl, Below.refl _ _⟩
set_option maxHeartbeats 4000000 in
set_option maxRecDepth 100000 in
theorem law_none (mo : Int) (sp : Option Addr) (cap n : Nat) (hn : n ≤ 200) (w : World) (ht : Tab w) (hm : mo < 1 ∨ 65536 < mo) :
    Calls Tryd.prog 5 #[.int .i64 mo, .slice sp n cap] w fun e w' => e = .returned (.bool true) ∧ Below w.heap.size w w' := by
  have d1 : ¬ (200 : Int) < (n : Int) := by omega
  have HNw := Lib.hid (snew_none mo hm w)
  have HAl := Lib.hid (alive_any w ht)
  clear ht
  rcases hm with hm | hm
  · go_enter Tryd.func5, Tryd.ntmps5
    go_wp2_with (first
      | (go_at_call 15; refine HNw.out.mono ?_; rintro e w1 ⟨rfl, rfl⟩)
      | (go_at_call 16; refine HAl.out.mono ?_; rintro e w1 ⟨rfl, b1⟩; have HB := Lib.hid b1; clear b1)
      | fail)
    go_ret
    exact ⟨rfl, HB.out⟩
  · have hm1 : ¬ mo < 1 := by omega
    go_enter Tryd.func5, Tryd.ntmps5
    go_wp2_with (first
      | (go_at_call 15; refine HNw.out.mono ?_; rintro e w1 ⟨rfl, rfl⟩)
      | (go_at_call 16; refine HAl.out.mono ?_; rintro e w1 ⟨rfl, b1⟩; have HB := Lib.hid b1; clear b1)
      | fail)
    go_ret
    exact ⟨rfl, HB.out⟩
end Go.Proofs.YtjgbbgemoobjjaaDoor
