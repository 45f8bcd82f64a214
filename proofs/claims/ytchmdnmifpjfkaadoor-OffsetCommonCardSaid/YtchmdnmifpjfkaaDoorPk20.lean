/- Several texts in one: QZG. -/
import Derived.Test.YtchmdnmifpjfkaaDoorPk19
/- The example of the chapter, and law20's alive. -/
namespace Go.Proofs.YtchmdnmifpjfkaaDoor
open Go.RowKit

def ex8 : List Int := [0, 0, 0, 0, 0, 0, 0, 0]
def exE : EdgeM := ⟨0, 1, 3, [0, 0, 0, 0, 0, 0, 0, 0, 0, 0, 0, 0, 0, 0, 0, 0], [0, 0, 0, 0]⟩
def exX : Img := ⟨0, [⟨10, 10, 2, ex8⟩, ⟨20, 20, 5, ex8⟩], [⟨2#32, []⟩, ⟨3#32, []⟩], [exE]⟩
def exS (b c d : Nat) : ImgS := ⟨⟨some ⟨b, 0, none⟩, b, 0, 2⟩, ⟨some ⟨c, 0, none⟩, c, 0, 2⟩, ⟨some ⟨d, 0, none⟩, d, 0, 1⟩, fun _ => ⟨none, 0, 0, 0⟩⟩
def exTk : Array Value := #[.int .i64 10, .int .i64 10, .int .i64 2, .int .i64 0, .int .i64 0, .int .i64 0, .int .i64 0, .int .i64 0, .int .i64 0, .int .i64 0, .int .i64 0, .int .i64 20, .int .i64 20, .int .i64 5, .int .i64 0, .int .i64 0, .int .i64 0, .int .i64 0, .int .i64 0, .int .i64 0, .int .i64 0, .int .i64 0]
def exMd : Array Value := #[.int .u32 2, .slice none 0 0, .int .u32 3, .slice none 0 0]
def exEd : Array Value := #[.int .i64 0, .int .i64 1, .int .i64 3, .int .i64 0, .int .i64 0, .int .i64 0, .int .i64 0, .int .i64 0, .int .i64 0, .int .i64 0, .int .i64 0, .int .i64 0, .int .i64 0, .int .i64 0, .int .i64 0, .int .i64 0, .int .i64 0, .int .i64 0, .int .i64 0, .int .i64 0, .int .i64 0, .int .i64 0, .int .i64 0]
theorem exX_at {w : World} {b c d : Nat} {t u v : TypeId} (h : RowAt w b t exTk) (h2 : RowAt w c u exMd) (h3 : RowAt w d v exEd) : ImgAt w (fun _ => False) exX (exS b c d) where
  st := ⟨fun _ => ⟨rfl, h.lt, fun h => h⟩, by decide⟩
  sm := ⟨fun _ => ⟨rfl, h2.lt, fun h => h⟩, by decide⟩
  se := ⟨fun _ => ⟨rfl, h3.lt, fun h => h⟩, by decide⟩
  tk := fun k hk => by
    have hk2 : k < 2 := hk
    rcases k with _ | _ | k
    · refine ⟨fun j u hu => ?_, rfl⟩
      show w.cell? ⟨b, 0 + 0 * 11 + j, none⟩ = _
      rw [show 0 + 0 * 11 + j = j by omega, h.cell j]
      have hj : j < 11 := by
        have := (List.getElem?_eq_some_iff.1 hu).1
        exact this
      have : j = 0 ∨ j = 1 ∨ j = 2 ∨ j = 3 ∨ j = 4 ∨ j = 5 ∨ j = 6 ∨ j = 7 ∨ j = 8 ∨ j = 9 ∨ j = 10 := by omega
      rcases this with rfl | rfl | rfl | rfl | rfl | rfl | rfl | rfl | rfl | rfl | rfl <;> exact hu
    · refine ⟨fun j u hu => ?_, rfl⟩
      show w.cell? ⟨b, 0 + 1 * 11 + j, none⟩ = _
      rw [show 0 + 1 * 11 + j = 11 + j by omega, h.cell (11 + j)]
      have hj : j < 11 := by
        have := (List.getElem?_eq_some_iff.1 hu).1
        exact this
      have : j = 0 ∨ j = 1 ∨ j = 2 ∨ j = 3 ∨ j = 4 ∨ j = 5 ∨ j = 6 ∨ j = 7 ∨ j = 8 ∨ j = 9 ∨ j = 10 := by omega
      rcases this with rfl | rfl | rfl | rfl | rfl | rfl | rfl | rfl | rfl | rfl | rfl <;> exact hu
    · omega
  md := fun k hk => by
    have hk2 : k < 2 := hk
    rcases k with _ | _ | k
    · exact ⟨h2.cell 0, h2.cell 1, ⟨fun h => absurd h (Nat.not_lt_zero 0), by decide⟩⟩
    · exact ⟨h2.cell 2, h2.cell 3, ⟨fun h => absurd h (Nat.not_lt_zero 0), by decide⟩⟩
    · omega
  qu := fun k hk j hj => by
    have hk2 : k < 2 := hk
    rcases k with _ | _ | k
    · exact absurd hj (Nat.not_lt_zero j)
    · exact absurd hj (Nat.not_lt_zero j)
    · omega
  ed := fun k hk => by
    have hk2 : k < 1 := hk
    rcases k with _ | k
    · refine ⟨fun j u hu => ?_, rfl, rfl⟩
      show w.cell? ⟨d, 0 + 0 * 23 + j, none⟩ = _
      rw [show 0 + 0 * 23 + j = j by omega, h3.cell j, show exEd = (edgeC (exX.e 0)).toArray from rfl, List.getElem?_toArray]
      exact hu
    · omega
theorem goodEx : GoodI exX := good_of_code (by kernel_rfl)
theorem ex_fit : fitE exX 0 (farE exX 0) = true := by kernel_rfl
theorem ex_find : (tml (fdE exX 0)).toArray = z16 := by kernel_rfl
theorem ex_common : cmE exX 0 = 0 := by kernel_rfl
set_option maxHeartbeats 4000000 in
set_option maxRecDepth 100000 in
theorem l19Ex_any (w : World) : Calls Tryd.prog 38 #[] w fun e w' => ∃ A, e = .returned (.agg #[.int .i64 0, .slice (some ⟨A, 0, none⟩) 2 2, .slice (some ⟨A + 1, 0, none⟩) 2 2, .slice (some ⟨A + 2, 0, none⟩) 1 1]) ∧ ImgAt w' (fun _ => False) exX (exS A (A + 1) (A + 2)) ∧ Below w.heap.size w w' := by
  go_enter Tryd.func38, Tryd.ntmps38
  go_wp2
  obtain ⟨Z, hZ⟩ : ∃ Z, Z = w.heap.size := ⟨_, rfl⟩
  rw [show w.heap.size + 1 + 1 + 1 = Z + 1 + 2 by omega, show w.heap.size + 1 + 1 = Z + 1 + 1 by omega, show w.heap.size + 1 = Z + 1 by omega, ← hZ]
  generalize hw2 : World.alloc (World.alloc (World.alloc (World.alloc w _) _) _) _ = w2
  have H2 := Lib.hid (show Below w.heap.size w w2 ∧ w2.heap.size = w.heap.size + 4 ∧ RowAt w2 w.heap.size 26 _ ∧ RowAt w2 (w.heap.size + 1) 70 exTk ∧ RowAt w2 (w.heap.size + 2) 100 exMd ∧ RowAt w2 (w.heap.size + 3) 66 exEd by
    rw [← hw2]
    exact rows4 w #[.int .i64 0, .slice (some ⟨Z + 1, 0, none⟩) 2 2, .slice (some ⟨Z + 1 + 1, 0, none⟩) 2 2, .slice (some ⟨Z + 1 + 2, 0, none⟩) 1 1] exTk exMd exEd _ _ _ _)
  have HB0 := Lib.hid (show Below w.heap.size w w2 from H2.out.1)
  rw [← hZ] at H2
  exact bodyPost_ret (results_cell_row rfl _ _ Z 26 #[.int .i64 0, .slice (some ⟨Z + 1, 0, none⟩) 2 2, .slice (some ⟨Z + 1 + 1, 0, none⟩) 2 2, .slice (some ⟨Z + 1 + 2, 0, none⟩) 1 1] (0, 0) _ rfl H2.out.2.2.1 Tryd.underlying26 rfl (by kernel_rfl)) rfl ⟨Z + 1, rfl, exX_at H2.out.2.2.2.1 H2.out.2.2.2.2.1 H2.out.2.2.2.2.2, by rw [hZ]; exact HB0.out⟩
set_option maxHeartbeats 4000000 in
set_option maxRecDepth 100000 in
theorem l20alive_any (w : World) (ht : Tab w) : Calls Tryd.prog 25 #[] w fun e w' => e = .returned (.bool true) ∧ Below w.heap.size w w' := by
  have hp := ht.pos
  have HTb := Lib.hid (show ∀ w', Below w.heap.size w w' → Tab w' from fun w' hb => ht.below hp hb)
  have HE := Lib.hid l19Ex_any
  have HF := Lib.hid (fun (wx : World) (hb : Below w.heap.size w wx) (A : Nat) (hi : ImgAt wx (fun _ => False) exX (exS A (A + 1) (A + 2))) => show Calls Tryd.prog 22 #[.agg #[.int .i64 0, .slice (some ⟨A, 0, none⟩) 2 2, .slice (some ⟨A + 1, 0, none⟩) 2 2, .slice (some ⟨A + 2, 0, none⟩) 1 1], .int .i64 0] wx fun e w' => e = .returned (.tuple #[.agg z16, .bool true]) ∧ Below wx.heap.size wx w' by
    have h := ofFind_any (w := wx) ⟨hi, HTb.out wx hb, goodEx, Nat.le_refl 2⟩ 0
    rw [ex_fit, ex_find] at h
    exact h)
  have HC := Lib.hid (fun (wx : World) (hb : Below w.heap.size w wx) (A : Nat) (hi : ImgAt wx (fun _ => False) exX (exS A (A + 1) (A + 2))) => show Calls Tryd.prog 27 #[.agg #[.int .i64 0, .slice (some ⟨A, 0, none⟩) 2 2, .slice (some ⟨A + 1, 0, none⟩) 2 2, .slice (some ⟨A + 2, 0, none⟩) 1 1], .int .i64 0] wx fun e w' => e = .returned (.tuple #[.int .i64 0, .bool true]) ∧ Below wx.heap.size wx w' by
    have h := ofCommon_any (w := wx) ⟨hi, HTb.out wx hb, goodEx, Nat.le_refl 2⟩ 0
    rw [ex_fit, ex_common] at h
    exact h)
  unfold z16 at HF
  clear ht hp HTb
  go_enter Tryd.func25, Tryd.ntmps25
  go_upto_region 2 with (first
    | (go_at_call 38; refine (HE.out _).mono ?_; rintro e w1 ⟨A, rfl, i1, b1⟩; have H1 := Lib.hid (And.intro b1 i1); clear b1 i1)
    | (go_at_call 22; refine (HF.out _ H1.out.1 _ H1.out.2).mono ?_; rintro e w2 ⟨rfl, b2⟩; have H2 := Lib.hid (H1.out.1.trans (b2.mono H1.out.1.size)); clear b2)
    | fail)
  generalize hw3 : World.alloc _ _ = w3
  obtain ⟨P, hP⟩ : ∃ P, w2.heap.size = P := ⟨_, rfl⟩
  have H3 := Lib.hid (show Below w.heap.size w w3 ∧ RowAt w3 P 27 z16 by
    rw [← hw3]
    exact ⟨H2.out.alloc H2.out.size _, row_next w2 P hP _ _⟩)
  rw [hP]
  clear hw3 hP
  go_upto_region 3 with (first
    | (go_at_call 38; refine (HE.out _).mono ?_; rintro e w4 ⟨A4, rfl, i4, b4⟩; have H4 := Lib.hid (And.intro (H3.out.1.trans (b4.mono H3.out.1.size)) (And.intro i4 (H3.out.2.new b4))); clear b4 i4)
    | (go_at_call 27; refine (HC.out _ H4.out.1 _ H4.out.2.1).mono ?_; rintro e w5 ⟨rfl, b5⟩; have H5 := Lib.hid (And.intro (H4.out.1.trans (b5.mono H4.out.1.size)) (H4.out.2.2.new b5)); clear b5)
    | fail)
  have z0 : w5.cell? ⟨P, 0, none⟩ = some (.int .i64 0) := H5.out.2.cell 0
  have z1 : w5.cell? ⟨P, 1, none⟩ = some (.int .i64 0) := H5.out.2.cell 1
  have z2 : w5.cell? ⟨P, 2, none⟩ = some (.int .i64 0) := H5.out.2.cell 2
  have z3 : w5.cell? ⟨P, 3, none⟩ = some (.int .i64 0) := H5.out.2.cell 3
  have z4 : w5.cell? ⟨P, 4, none⟩ = some (.int .i64 0) := H5.out.2.cell 4
  have z5 : w5.cell? ⟨P, 5, none⟩ = some (.int .i64 0) := H5.out.2.cell 5
  have z6 : w5.cell? ⟨P, 6, none⟩ = some (.int .i64 0) := H5.out.2.cell 6
  have z7 : w5.cell? ⟨P, 7, none⟩ = some (.int .i64 0) := H5.out.2.cell 7
  have z8 : w5.cell? ⟨P, 8, none⟩ = some (.int .i64 0) := H5.out.2.cell 8
  have z9 : w5.cell? ⟨P, 9, none⟩ = some (.int .i64 0) := H5.out.2.cell 9
  have z10 : w5.cell? ⟨P, 10, none⟩ = some (.int .i64 0) := H5.out.2.cell 10
  have z11 : w5.cell? ⟨P, 11, none⟩ = some (.int .i64 0) := H5.out.2.cell 11
  have z12 : w5.cell? ⟨P, 12, none⟩ = some (.int .i64 0) := H5.out.2.cell 12
  have z13 : w5.cell? ⟨P, 13, none⟩ = some (.int .i64 0) := H5.out.2.cell 13
  have z14 : w5.cell? ⟨P, 14, none⟩ = some (.int .i64 0) := H5.out.2.cell 14
  have z15 : w5.cell? ⟨P, 15, none⟩ = some (.int .i64 0) := H5.out.2.cell 15
  have hq := eq_z16
  unfold z16 at hq
  go_wp2
  go_ret
  exact ⟨rfl, H5.out.1⟩
end Go.Proofs.YtchmdnmifpjfkaaDoor
