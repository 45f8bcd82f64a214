/- The contract of law42's alive. -/
import Derived.Test.YtknkhigmokooaaaDoorEG
import Derived.Test.YtknkhigmokooaaaDoorED
namespace Go.Proofs.YtknkhigmokooaaaDoor
open Go.RowKit Go.Lib

def imgP (p : Int) : Img := ⟨0, [⟨p, 0, 0, [0, 0, 0, 0, 0, 0, 0, 0]⟩], [], []⟩
def imgPS (A : Nat) : ImgS := ⟨⟨some ⟨A, 0, none⟩, A, 0, 1⟩, ⟨none, 0, 0, 0⟩, ⟨none, 0, 0, 0⟩, fun _ => ⟨none, 0, 0, 0⟩⟩
theorem imgP_at {w : World} {A : Nat} {p : Int} (ha : RowAt w A 50 #[.int .i64 p, .int .i64 0, .int .i64 0, .int .i64 0, .int .i64 0, .int .i64 0, .int .i64 0, .int .i64 0, .int .i64 0, .int .i64 0, .int .i64 0]) : ImgAt w (fun _ => False) (imgP p) (imgPS A) where
  st := ⟨fun _ => ⟨rfl, ha.lt, fun h => h⟩, by show 1 ≤ _; omega⟩
  sm := ⟨fun h => absurd h (Nat.not_lt_zero _), by show 0 ≤ _; omega⟩
  se := ⟨fun h => absurd h (Nat.not_lt_zero _), by show 0 ≤ _; omega⟩
  tk := fun k hk => by
    obtain rfl : k = 0 := by simpa [imgP] using hk
    refine ⟨fun j u hu => ?_, rfl⟩
    show w.cell? ⟨A, 0 + 0 * 11 + j, none⟩ = _
    rw [show 0 + 0 * 11 + j = j by omega, ha.cell j, List.getElem?_toArray]
    exact hu
  md := fun k hk => absurd hk (Nat.not_lt_zero k)
  qu := fun k hk => absurd hk (Nat.not_lt_zero k)
  ed := fun k hk => absurd hk (Nat.not_lt_zero k)
theorem dfL_P : dfL (imgP 1) (imgP 2) = [⟨2, 0, true, true⟩] := by kernel_rfl
theorem lineB_P : lineB 2 0 true true = ⟨#[116, 97, 115, 107, 32, 48, 32, 111, 116, 104, 101, 114]⟩ := by
  have h0 : decDigits (clamp 0) = [48] := by
    rw [show clamp 0 = 0 from rfl, decDigits_one (by omega)]; rfl
  unfold lineB
  rw [if_neg (by omega), if_neg (by omega), if_neg (by omega), if_neg (by simp), h0]
  rfl
theorem alloc_row1 (w : World) (c : Array Value) (t : TypeId) : Below w.heap.size w (w.alloc (.cells c t)) ∧ RowAt (w.alloc (.cells c t)) w.heap.size t c := ⟨(Below.refl _ _).alloc (Nat.le_refl _) _, RowAt.mk _ _ _⟩
set_option maxHeartbeats 4000000 in
set_option maxRecDepth 100000 in
theorem l42alive_any {w : World} (hw : WTab w) (ht : PTab w) : Calls Tryd.prog 26 #[] w fun e w' => e = .returned (.bool true) ∧ Below w.heap.size w w' := by
  have HW := Lib.hid hw
  have HPT := Lib.hid ht
  clear hw ht
  go_enter Tryd.func26, Tryd.ntmps26
  go_upto_region 2 with fail
  obtain ⟨Z, hZ⟩ : ∃ Z, Z = w.heap.size := ⟨_, rfl⟩
  rw [← hZ]
  have HA := Lib.hid (show ∀ (W : World) (p : Int) (Z : Nat), Z = W.heap.size → ∀ w2, (W.alloc (.cells #[.int .i64 p, .int .i64 0, .int .i64 0, .int .i64 0, .int .i64 0, .int .i64 0, .int .i64 0, .int .i64 0, .int .i64 0, .int .i64 0, .int .i64 0] 50)).alloc (.cells #[.int .i64 0, .slice (some ⟨Z, 0, none⟩) 1 1, .slice none 0 0, .slice none 0 0] 26) = w2 → Below W.heap.size W w2 ∧ RowAt w2 Z 50 #[.int .i64 p, .int .i64 0, .int .i64 0, .int .i64 0, .int .i64 0, .int .i64 0, .int .i64 0, .int .i64 0, .int .i64 0, .int .i64 0, .int .i64 0] ∧ RowAt w2 (Z + 1) 26 #[.int .i64 0, .slice (some ⟨Z, 0, none⟩) 1 1, .slice none 0 0, .slice none 0 0] from fun W p Z hZ w2 hw => by
    have h1 := alloc_row1 W #[.int .i64 p, .int .i64 0, .int .i64 0, .int .i64 0, .int .i64 0, .int .i64 0, .int .i64 0, .int .i64 0, .int .i64 0, .int .i64 0, .int .i64 0] 50
    have h2 := alloc_row1 (W.alloc (.cells #[.int .i64 p, .int .i64 0, .int .i64 0, .int .i64 0, .int .i64 0, .int .i64 0, .int .i64 0, .int .i64 0, .int .i64 0, .int .i64 0, .int .i64 0] 50)) #[.int .i64 0, .slice (some ⟨Z, 0, none⟩) 1 1, .slice none 0 0, .slice none 0 0] 26
    rw [hw] at h2
    have r1 := h1.2.new h2.1
    have r2 := h2.2
    simp only [World.size_alloc] at r2
    rw [← hZ] at r1 r2
    exact ⟨h1.1.trans (h2.1.mono (by simp)), r1, r2⟩)
  generalize hw1 : World.alloc (World.alloc w _) _ = W1
  have H1 := Lib.hid (HA.out w 1 Z hZ W1 hw1)
  clear hw1 hZ
  go_upto_region 3 with fail
  obtain ⟨Y, hY⟩ : ∃ Y, Y = W1.heap.size := ⟨_, rfl⟩
  rw [← hY]
  generalize hw2 : World.alloc (World.alloc W1 _) _ = W2
  have H2 := Lib.hid (HA.out W1 2 Y hY W2 hw2)
  clear hw2 hY HA
  have HB2 := Lib.hid (show Below w.heap.size w W2 from H1.out.1.trans (H2.out.1.mono H1.out.1.size))
  have HOf := Lib.hid (show Calls Tryd.prog 22 #[.agg #[.int .i64 0, .slice (some ⟨Z, 0, none⟩) 1 1, .slice none 0 0, .slice none 0 0], .agg #[.int .i64 0, .slice (some ⟨Y, 0, none⟩) 1 1, .slice none 0 0, .slice none 0 0]] W2 fun e w' => ∃ v, e = .returned v ∧ w'.ownsRow W2.heap.size 57 4 v 1 [.int .i64 2, .int .i64 0, .bool true, .bool true] ∧ Below W2.heap.size W2 w' from by
    have := dfOf_any (x := imgP 1) (y := imgP 2) (imgP_at (H1.out.2.1.new H2.out.1)) (imgP_at H2.out.2.1) (by show 0 ≤ 100; omega) (by show 0 ≤ 100; omega) (fun k hk => absurd hk (Nat.not_lt_zero k)) (fun k hk => absurd hk (Nat.not_lt_zero k)) (by show 1 ≤ 100; omega) (by show 1 ≤ 100; omega) (by show 0 ≤ 100; omega) (by show 0 ≤ 100; omega)
    rw [dfL_P] at this
    exact this)
  have ra := H1.out.2.2.new H2.out.1
  have rb := H2.out.2.2
  have a0 := ra.cell 0
  have a1 := ra.cell 1
  have a2 := ra.cell 2
  have a3 := ra.cell 3
  have b0 := rb.cell 0
  have b1 := rb.cell 1
  have b2 := rb.cell 2
  have b3 := rb.cell 3
  simp only [List.getElem?_toArray, List.getElem?_cons_zero, List.getElem?_cons_succ] at a0 a1 a2 a3 b0 b1 b2 b3
  clear ra rb
  go_upto_region 4 with (first
    | (go_at_call 22; refine HOf.out.mono ?_; rintro e w3 ⟨v, rfl, o3, b3⟩; have H3 := Lib.hid (And.intro o3 b3); clear o3 b3)
    | fail)
  obtain ⟨g, cap, rfl⟩ := Go.ownsRow_succ (k := 0) H3.out.1
  have c0 : w3.cell? ⟨g, 0, none⟩ = some (.int .i64 2) := H3.out.1.cellAt 0 (by omega)
  have c1 : w3.cell? ⟨g, 1, none⟩ = some (.int .i64 0) := H3.out.1.cellAt 1 (by omega)
  have c2 : w3.cell? ⟨g, 2, none⟩ = some (.bool true) := H3.out.1.cellAt 2 (by omega)
  have c3 : w3.cell? ⟨g, 3, none⟩ = some (.bool true) := H3.out.1.cellAt 3 (by omega)
  have HB3 := Lib.hid (show Below w.heap.size w w3 from HB2.out.trans (H3.out.2.mono HB2.out.size))
  have HLn := Lib.hid (show Calls Tryd.prog 28 #[.agg #[.int .i64 2, .int .i64 0, .bool true, .bool true]] w3 fun e w' => e = .returned (.string ⟨#[116, 97, 115, 107, 32, 48, 32, 111, 116, 104, 101, 114]⟩) ∧ Below w3.heap.size w3 w' from by
    have := dfLine_any (HW.out.below HB3.out) (HPT.out.below HB3.out) 2 0 true true (by omega)
    rwa [lineB_P] at this)
  clear a0 a1 a2 a3 b0 b1 b2 b3
  go_wp2_with (first
    | (go_at_call 28; refine HLn.out.mono ?_; rintro e w4 ⟨rfl, b4⟩; have H4 := Lib.hid b4; clear b4)
    | fail)
  go_ret
  exact ⟨rfl, HB3.out.trans (H4.out.mono HB3.out.size)⟩
end Go.Proofs.YtknkhigmokooaaaDoor
