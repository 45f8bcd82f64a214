/- The contract of law10's alive. -/
import Derived.Test.YtandehdgpbflmaaJP
import Derived.Test.YtandehdgpbflmaaJQ
import Derived.Test.YtandehdgpbflmaaJN
namespace Go.Proofs.Ytandehdgpbflmaa
open Go.RowKit

def imgX : Img := ⟨0, [⟨10, 8, 2, [0, 0, 0, 0, 0, 0, 0, 0]⟩], [⟨1#32, []⟩], []⟩
def imgXS (A B : Nat) : ImgS := ⟨⟨some ⟨A, 0, none⟩, A, 0, 1⟩, ⟨some ⟨B, 0, none⟩, B, 0, 1⟩, ⟨none, 0, 0, 0⟩, fun _ => ⟨none, 0, 0, 0⟩⟩
def img0 : Img := ⟨0, [], [], []⟩
def img0S : ImgS := ⟨⟨none, 0, 0, 0⟩, ⟨none, 0, 0, 0⟩, ⟨none, 0, 0, 0⟩, fun _ => ⟨none, 0, 0, 0⟩⟩
theorem img0_at (w : World) : ImgAt w (fun _ => False) img0 img0S :=
  ⟨⟨fun h => absurd h (by decide), by decide⟩, ⟨fun h => absurd h (by decide), by decide⟩, ⟨fun h => absurd h (by decide), by decide⟩, fun k hk => absurd hk (Nat.not_lt_zero k), fun k hk => absurd hk (Nat.not_lt_zero k), fun k hk => absurd hk (Nat.not_lt_zero k), fun k hk => absurd hk (Nat.not_lt_zero k)⟩
theorem alloc_row0 (w : World) (c : Array Value) (t : TypeId) : Below w.heap.size w (w.alloc (.cells c t)) ∧ RowAt (w.alloc (.cells c t)) w.heap.size t c := ⟨(Below.refl _ _).alloc (Nat.le_refl _) _, RowAt.mk _ _ _⟩
theorem imgX_at {w : World} {A B : Nat} (ha : RowAt w A 39 #[.int .i64 10, .int .i64 8, .int .i64 2, .int .i64 0, .int .i64 0, .int .i64 0, .int .i64 0, .int .i64 0, .int .i64 0, .int .i64 0, .int .i64 0]) (hb : RowAt w B 48 #[.int .u32 1, .slice none 0 0]) : ImgAt w (fun _ => False) imgX (imgXS A B) where
  st := ⟨fun _ => ⟨rfl, ha.lt, fun h => h⟩, by decide⟩
  sm := ⟨fun _ => ⟨rfl, hb.lt, fun h => h⟩, by decide⟩
  se := ⟨fun h => absurd h (by decide), by decide⟩
  tk := fun k hk => by
    obtain rfl : k = 0 := by simpa [imgX] using hk
    refine ⟨fun j u hu => ?_, rfl⟩
    show w.cell? ⟨A, 0 + 0 * 11 + j, none⟩ = _
    rw [show 0 + 0 * 11 + j = j by omega, ha.cell j, List.getElem?_toArray]
    exact hu
  md := fun k hk => by
    obtain rfl : k = 0 := by simpa [imgX] using hk
    exact ⟨(hb.cell 0), (hb.cell 1), ⟨fun h => absurd h (by decide), by decide⟩⟩
  qu := fun k hk j hj => by
    obtain rfl : k = 0 := by simpa [imgX] using hk
    exact absurd hj (by simp [imgX, Img.m])
  ed := fun k hk => absurd hk (by simp [imgX])
theorem code_x : codeAll imgX = (0, 0) := by kernel_rfl
theorem code_0 : codeAll img0 = (0, 100) := by kernel_rfl
theorem all_x : w32 (allI imgX) = 1 := by kernel_rfl
theorem same_x : imgEq imgX imgX = true := by kernel_rfl
set_option maxHeartbeats 8000000 in
set_option maxRecDepth 100000 in
theorem l10alive_any (w : World) : Calls Try.prog 11 #[] w fun e w' => e = .returned (.bool true) ∧ Below w.heap.size w w' := by
  have H0 := Lib.hid (show ∀ wx, Calls Try.prog 9 #[.agg #[.int .i64 0, .slice none 0 0, .slice none 0 0, .slice none 0 0]] wx fun e w' => e = .returned (.tuple #[.int .i64 0, .int .i64 100]) ∧ Below wx.heap.size wx w' from fun wx => by
    have h := iCheck_any (img0_at wx)
    rw [code_0] at h
    exact h)
  go_enter Try.func11, Try.ntmps11
  go_upto_region 2 with fail
  obtain ⟨A, hA⟩ : ∃ A, A = w.heap.size := ⟨_, rfl⟩
  have HA := Lib.hid (show ∀ w2, ((w.alloc (.cells #[.int .i64 10, .int .i64 8, .int .i64 2, .int .i64 0, .int .i64 0, .int .i64 0, .int .i64 0, .int .i64 0, .int .i64 0, .int .i64 0, .int .i64 0] 39)).alloc (.cells #[.int .u32 1, .slice none 0 0] 48)).alloc (.cells #[.int .i64 0, .slice (some ⟨A, 0, none⟩) 1 1, .slice (some ⟨A + 1, 0, none⟩) 1 1, .slice none 0 0] 26) = w2 → Below w.heap.size w w2 ∧ RowAt w2 (A + 1 + 1) 26 #[.int .i64 0, .slice (some ⟨A, 0, none⟩) 1 1, .slice (some ⟨A + 1, 0, none⟩) 1 1, .slice none 0 0] ∧ ImgAt w2 (fun _ => False) imgX (imgXS A (A + 1)) from fun w2 hw => by
    have h1 := alloc_row0 w #[.int .i64 10, .int .i64 8, .int .i64 2, .int .i64 0, .int .i64 0, .int .i64 0, .int .i64 0, .int .i64 0, .int .i64 0, .int .i64 0, .int .i64 0] 39
    have h2 := alloc_row0 (w.alloc (.cells #[.int .i64 10, .int .i64 8, .int .i64 2, .int .i64 0, .int .i64 0, .int .i64 0, .int .i64 0, .int .i64 0, .int .i64 0, .int .i64 0, .int .i64 0] 39)) #[.int .u32 1, .slice none 0 0] 48
    have h3 := alloc_row0 ((w.alloc (.cells #[.int .i64 10, .int .i64 8, .int .i64 2, .int .i64 0, .int .i64 0, .int .i64 0, .int .i64 0, .int .i64 0, .int .i64 0, .int .i64 0, .int .i64 0] 39)).alloc (.cells #[.int .u32 1, .slice none 0 0] 48)) #[.int .i64 0, .slice (some ⟨A, 0, none⟩) 1 1, .slice (some ⟨A + 1, 0, none⟩) 1 1, .slice none 0 0] 26
    rw [hw] at h3
    have r1 := (h1.2.new h2.1).new h3.1
    have r2 := h2.2.new h3.1
    have r3 := h3.2
    simp only [World.size_alloc] at r2 r3
    rw [← hA] at r1 r2 r3
    exact ⟨h1.1.trans ((h2.1.mono (by simp)).trans (h3.1.mono (by simp; omega))), r3, imgX_at r1 r2⟩)
  rw [← hA]
  generalize hw2 : World.alloc _ _ = w2
  have H2 := Lib.hid (HA.out w2 hw2)
  clear hw2 hA HA
  have HC := Lib.hid (show ∀ wx, Below w2.heap.size w2 wx → Calls Try.prog 9 #[.agg #[.int .i64 0, .slice (some ⟨A, 0, none⟩) 1 1, .slice (some ⟨A + 1, 0, none⟩) 1 1, .slice none 0 0]] wx fun e w' => e = .returned (.tuple #[.int .i64 0, .int .i64 0]) ∧ Below wx.heap.size wx w' from fun wx hb => by
    have h := iCheck_any (H2.out.2.2.new hb)
    rw [code_x] at h
    exact h)
  have HL := Lib.hid (show ∀ wx, Calls Try.prog 14 #[.agg #[.int .i64 0, .slice (some ⟨A, 0, none⟩) 1 1, .slice (some ⟨A + 1, 0, none⟩) 1 1, .slice none 0 0]] wx fun e w' => e = .returned (.int .u32 1) ∧ Below wx.heap.size wx w' from fun wx => by
    have h := iAll_any imgX (imgXS A (A + 1)) wx
    rw [all_x] at h
    exact h)
  have HCp := Lib.hid (show ∀ wx, Below w2.heap.size w2 wx → Calls Try.prog 16 #[.agg #[.int .i64 0, .slice (some ⟨A, 0, none⟩) 1 1, .slice (some ⟨A + 1, 0, none⟩) 1 1, .slice none 0 0]] wx fun e w' => ∃ S' : ImgS, e = .returned (.agg #[.int .i64 0, .slice S'.t.sp 1 S'.t.c, .slice S'.m.sp 1 S'.m.c, .slice S'.e.sp 0 S'.e.c]) ∧ ImgAt w' (fun _ => False) imgX S' ∧ Below wx.heap.size wx w' from fun wx hb =>
    (iCopy_any (H2.out.2.2.new hb) (by decide) (by decide) (by decide) (fun k hk => by
      obtain rfl : k = 0 := by simpa [imgX] using hk
      decide)).mono fun e w' ⟨S', h1, h2, h3⟩ => ⟨S', h1, h2.im, h3⟩)
  have HSm := Lib.hid (show ∀ wx S', Below w2.heap.size w2 wx → ImgAt wx (fun _ => False) imgX S' → Calls Try.prog 18 #[.agg #[.int .i64 0, .slice (some ⟨A, 0, none⟩) 1 1, .slice (some ⟨A + 1, 0, none⟩) 1 1, .slice none 0 0], .agg #[.int .i64 0, .slice S'.t.sp 1 S'.t.c, .slice S'.m.sp 1 S'.m.c, .slice S'.e.sp 0 S'.e.c]] wx fun e w' => e = .returned (.bool true) ∧ Below wx.heap.size wx w' from fun wx S' hb hi => by
    have h := iSame_any (H2.out.2.2.new hb) hi
    rw [same_x] at h
    exact h)
  go_upto_region 4 with (first
    | (refine wpList_load_row rfl 26 (.tmp 1) rfl (A + 1 + 1) rfl 26 #[.int .i64 0, .slice (some ⟨A, 0, none⟩) 1 1, .slice (some ⟨A + 1, 0, none⟩) 1 1, .slice none 0 0] (0, 0) _ H2.out.2.1 Try.underlying26 rfl (by kernel_rfl) ?_)
    | (go_at_call 9; refine (HC.out _ (Below.refl _ _)).mono ?_; rintro e w3 ⟨rfl, b3⟩; have H3 := Lib.hid b3; clear b3 HC)
    | (go_at_call 9; refine (H0.out _).mono ?_; rintro e w4 ⟨rfl, b4⟩; have H4 := Lib.hid (H3.out.trans (b4.mono H3.out.size)); clear b4)
    | fail)
  have H4d := Lib.hid (show Below w2.heap.size w2 w4.drew ∧ RowAt w4.drew (A + 1 + 1) 26 #[.int .i64 0, .slice (some ⟨A, 0, none⟩) 1 1, .slice (some ⟨A + 1, 0, none⟩) 1 1, .slice none 0 0] from ⟨below_dn H4.out 1, RowAt.new (w := w2) H2.out.2.1 (below_dn H4.out 1)⟩)
  refine wp_region_held_drew (S := fun w' => Below w2.heap.size w2 w' ∧ RowAt w' (A + 1 + 1) 26 #[.int .i64 0, .slice (some ⟨A, 0, none⟩) 1 1, .slice (some ⟨A + 1, 0, none⟩) 1 1, .slice none 0 0]) (by kernel_rfl) H4d.out (fun hS => ?_)
  refine wpAnyH_take (i := 0) (oi := { dst := some 21, op := .move (.tmp 3), type := 28, pos := "law.go:15", after := #[], guard := none }) (v := ?_) rfl (by kernel_rfl) (by kernel_rfl) (by kernel_rfl) (fun _ _ _ h => h) (Or.inl ⟨by rfl, ?_⟩) hS ?_
  rotate_left 1
  · intro w hw; obtain ⟨s0, s1⟩ := hw; go_simp; try (with_reducible rfl)
  simp only [Act.put, List.setIfInBounds_toArray, List.set_cons_zero, List.set_cons_succ]
  refine wpAnyH_take (i := 1) (oi := { dst := some 22, op := .binOp .eql 28 (.tmp 21) (.const (.int .i64 0)) 28, type := 4, pos := "law.go:15", after := #[{ on := 0, ground := .data }], guard := none }) (v := ?_) rfl (by kernel_rfl) (by kernel_rfl) (by kernel_rfl) (fun _ _ _ h => h) (Or.inl ⟨by rfl, ?_⟩) hS ?_
  rotate_left 1
  · intro w hw; obtain ⟨s0, s1⟩ := hw; go_simp; try (with_reducible rfl)
  simp only [Act.put, List.setIfInBounds_toArray, List.set_cons_zero, List.set_cons_succ]
  refine wpAnyH_take (i := 2) (oi := { dst := some 23, op := .move (.tmp 22), type := 4, pos := "law.go:15", after := #[{ on := 1, ground := .data }], guard := none }) (v := ?_) rfl (by kernel_rfl) (by kernel_rfl) (by kernel_rfl) (fun _ _ _ h => h) (Or.inl ⟨by rfl, ?_⟩) hS ?_
  rotate_left 1
  · intro w hw; obtain ⟨s0, s1⟩ := hw; go_simp; try (with_reducible rfl)
  simp only [Act.put, List.setIfInBounds_toArray, List.set_cons_zero, List.set_cons_succ]
  refine wpAnyH_take (i := 3) (oi := { dst := some 24, op := .move (.tmp 5), type := 28, pos := "law.go:15", after := #[{ on := 2, ground := .guard }], guard := some (2, true) }) (v := ?_) rfl (by kernel_rfl) (by kernel_rfl) (by kernel_rfl) (fun _ _ _ h => h) (Or.inl ⟨by rfl, ?_⟩) hS ?_
  rotate_left 1
  · intro w hw; obtain ⟨s0, s1⟩ := hw; go_simp; try (with_reducible rfl)
  simp only [Act.put, List.setIfInBounds_toArray, List.set_cons_zero, List.set_cons_succ]
  refine wpAnyH_take (i := 4) (oi := { dst := some 25, op := .binOp .eql 28 (.tmp 24) (.const (.int .i64 100)) 28, type := 4, pos := "law.go:15", after := #[{ on := 3, ground := .data }, { on := 2, ground := .guard }], guard := some (2, true) }) (v := ?_) rfl (by kernel_rfl) (by kernel_rfl) (by kernel_rfl) (fun _ _ _ h => h) (Or.inl ⟨by rfl, ?_⟩) hS ?_
  rotate_left 1
  · intro w hw; obtain ⟨s0, s1⟩ := hw; go_simp; try (with_reducible rfl)
  simp only [Act.put, List.setIfInBounds_toArray, List.set_cons_zero, List.set_cons_succ]
  refine wpAnyH_take (i := 5) (oi := { dst := some 26, op := .pick (.tmp 23) (.tmp 25) (.const (.bool false)), type := 4, pos := "law.go:15", after := #[{ on := 2, ground := .data }, { on := 4, ground := .data }], guard := none }) (v := ?_) rfl (by kernel_rfl) (by kernel_rfl) (by kernel_rfl) (fun _ _ _ h => h) (Or.inl ⟨by rfl, ?_⟩) hS ?_
  rotate_left 1
  · intro w hw; obtain ⟨s0, s1⟩ := hw; go_simp; try (with_reducible rfl)
  simp only [Act.put, List.setIfInBounds_toArray, List.set_cons_zero, List.set_cons_succ]
  refine wpAnyH_take (i := 6) (oi := { dst := some 27, op := .move (.tmp 26), type := 4, pos := "law.go:15", after := #[{ on := 5, ground := .data }, { on := 2, ground := .chain }], guard := none }) (v := ?_) rfl (by kernel_rfl) (by kernel_rfl) (by kernel_rfl) (fun _ _ _ h => h) (Or.inl ⟨by rfl, ?_⟩) hS ?_
  rotate_left 1
  · intro w hw; obtain ⟨s0, s1⟩ := hw; go_simp; try (with_reducible rfl)
  simp only [Act.put, List.setIfInBounds_toArray, List.set_cons_zero, List.set_cons_succ]
  refine wpAnyH_take (i := 7) (oi := { dst := some 28, op := .load 26 (.tmp 1), type := 26, pos := "law.go:15", after := #[{ on := 6, ground := .guard }], guard := some (6, true) }) (v := (.agg #[.int .i64 0, .slice (some ⟨A, 0, none⟩) 1 1, .slice (some ⟨A + 1, 0, none⟩) 1 1, .slice none 0 0])) rfl (by kernel_rfl) (by kernel_rfl) (by kernel_rfl) (fun _ _ _ h => h) (Or.inl ⟨by rfl, ?_⟩) hS ?_
  · intro w hw; obtain ⟨s0, s1⟩ := hw; exact exec_row_load 26 (.tmp 1) (by exact rfl) (A + 1 + 1) (by exact rfl) 26 #[.int .i64 0, .slice (some ⟨A, 0, none⟩) 1 1, .slice (some ⟨A + 1, 0, none⟩) 1 1, .slice none 0 0] (0, 0) _ s1 Try.underlying26 rfl (by kernel_rfl)
  simp only [Act.put, List.setIfInBounds_toArray, List.set_cons_zero, List.set_cons_succ]
  refine wpAnyH_ready (rs := [8]) (by kernel_rfl) (by simp) (AllReadyH.cons (o := { dst := some 29, op := .call { callee := .value (.func 14), args := #[.tmp 28], argTypes := #[26] }, type := 51, pos := "law.go:15", after := #[{ on := 7, ground := .data }, { on := 6, ground := .chain }, { on := 6, ground := .guard }], guard := some (6, true) }) rfl (fun K hK => ?_) AllReadyH.nil)
  go_simp
  go_at_call 14
  refine (HL.out _).mono ?_
  rintro e w5 ⟨rfl, b5⟩
  have H5 := Lib.hid (And.intro ((H4d.out).1.trans (b5.mono (H4d.out).1.size)) ((H4d.out).2.new b5))
  clear b5
  try dsimp only
  refine hK.out _ _ H5.out (fun hHeld => ?_)
  clear hK K
  try simp only [Act.put, List.setIfInBounds_toArray, List.set_cons_zero, List.set_cons_succ]
  refine wpAnyH_take (i := 9) (oi := { dst := some 30, op := .binOp .eql 51 (.tmp 29) (.const (.int .u32 1)) 51, type := 4, pos := "law.go:15", after := #[{ on := 8, ground := .data }, { on := 6, ground := .guard }], guard := some (6, true) }) (v := ?_) rfl (by kernel_rfl) (by kernel_rfl) (by kernel_rfl) (fun _ _ _ h => h) (Or.inl ⟨by rfl, ?_⟩) H5.out ?_
  rotate_left 1
  · intro w hw; obtain ⟨s0, s1⟩ := hw; go_simp; try (with_reducible rfl)
  simp only [Act.put, List.setIfInBounds_toArray, List.set_cons_zero, List.set_cons_succ]
  refine wpAnyH_take (i := 10) (oi := { dst := some 31, op := .pick (.tmp 27) (.tmp 30) (.const (.bool false)), type := 4, pos := "law.go:15", after := #[{ on := 6, ground := .data }, { on := 9, ground := .data }], guard := none }) (v := ?_) rfl (by kernel_rfl) (by kernel_rfl) (by kernel_rfl) (fun _ _ _ h => h) (Or.inl ⟨by rfl, ?_⟩) H5.out ?_
  rotate_left 1
  · intro w hw; obtain ⟨s0, s1⟩ := hw; go_simp; try (with_reducible rfl)
  simp only [Act.put, List.setIfInBounds_toArray, List.set_cons_zero, List.set_cons_succ]
  refine wpAnyH_take (i := 11) (oi := { dst := some 32, op := .move (.tmp 31), type := 4, pos := "law.go:15", after := #[{ on := 10, ground := .data }, { on := 8, ground := .chain }], guard := none }) (v := ?_) rfl (by kernel_rfl) (by kernel_rfl) (by kernel_rfl) (fun _ _ _ h => h) (Or.inl ⟨by rfl, ?_⟩) H5.out ?_
  rotate_left 1
  · intro w hw; obtain ⟨s0, s1⟩ := hw; go_simp; try (with_reducible rfl)
  simp only [Act.put, List.setIfInBounds_toArray, List.set_cons_zero, List.set_cons_succ]
  refine wpAnyH_take (i := 12) (oi := { dst := some 33, op := .load 26 (.tmp 1), type := 26, pos := "law.go:15", after := #[{ on := 11, ground := .guard }], guard := some (11, true) }) (v := (.agg #[.int .i64 0, .slice (some ⟨A, 0, none⟩) 1 1, .slice (some ⟨A + 1, 0, none⟩) 1 1, .slice none 0 0])) rfl (by kernel_rfl) (by kernel_rfl) (by kernel_rfl) (fun _ _ _ h => h) (Or.inl ⟨by rfl, ?_⟩) H5.out ?_
  · intro w hw; obtain ⟨s0, s1⟩ := hw; exact exec_row_load 26 (.tmp 1) (by exact rfl) (A + 1 + 1) (by exact rfl) 26 #[.int .i64 0, .slice (some ⟨A, 0, none⟩) 1 1, .slice (some ⟨A + 1, 0, none⟩) 1 1, .slice none 0 0] (0, 0) _ s1 Try.underlying26 rfl (by kernel_rfl)
  simp only [Act.put, List.setIfInBounds_toArray, List.set_cons_zero, List.set_cons_succ]
  refine wpAnyH_take (i := 13) (oi := { dst := some 34, op := .load 26 (.tmp 1), type := 26, pos := "law.go:15", after := #[{ on := 11, ground := .guard }], guard := some (11, true) }) (v := (.agg #[.int .i64 0, .slice (some ⟨A, 0, none⟩) 1 1, .slice (some ⟨A + 1, 0, none⟩) 1 1, .slice none 0 0])) rfl (by kernel_rfl) (by kernel_rfl) (by kernel_rfl) (fun _ _ _ h => h) (Or.inl ⟨by rfl, ?_⟩) H5.out ?_
  · intro w hw; obtain ⟨s0, s1⟩ := hw; exact exec_row_load 26 (.tmp 1) (by exact rfl) (A + 1 + 1) (by exact rfl) 26 #[.int .i64 0, .slice (some ⟨A, 0, none⟩) 1 1, .slice (some ⟨A + 1, 0, none⟩) 1 1, .slice none 0 0] (0, 0) _ s1 Try.underlying26 rfl (by kernel_rfl)
  simp only [Act.put, List.setIfInBounds_toArray, List.set_cons_zero, List.set_cons_succ]
  refine wpAnyH_ready (rs := [14]) (by kernel_rfl) (by simp) (AllReadyH.cons (o := { dst := some 35, op := .call { callee := .value (.func 16), args := #[.tmp 34], argTypes := #[26] }, type := 26, pos := "law.go:15", after := #[{ on := 13, ground := .data }, { on := 11, ground := .chain }, { on := 11, ground := .guard }], guard := some (11, true) }) rfl (fun K hK => ?_) AllReadyH.nil)
  go_simp
  go_at_call 16
  refine (HCp.out _ H5.out.1).mono ?_
  rintro e w6 ⟨S6, rfl, i6, b6⟩
  have H6 := Lib.hid (And.intro ((H5.out).1.trans (b6.mono (H5.out).1.size)) ((H5.out).2.new b6))
  have HI6 := Lib.hid i6
  clear b6 i6
  try dsimp only
  refine hK.out _ _ H6.out (fun hHeld => ?_)
  clear hK K
  try simp only [Act.put, List.setIfInBounds_toArray, List.set_cons_zero, List.set_cons_succ]
  refine wpAnyH_ready (rs := [15]) (by kernel_rfl) (by simp) (AllReadyH.cons (o := { dst := some 36, op := .call { callee := .value (.func 18), args := #[.tmp 33, .tmp 35], argTypes := #[26, 26] }, type := 4, pos := "law.go:15", after := #[{ on := 12, ground := .data }, { on := 14, ground := .data }, { on := 14, ground := .chain }, { on := 11, ground := .guard }], guard := some (11, true) }) rfl (fun K hK => ?_) AllReadyH.nil)
  go_simp
  go_at_call 18
  refine (HSm.out _ _ H6.out.1 HI6.out).mono ?_
  rintro e w7 ⟨rfl, b7⟩
  have H7 := Lib.hid (And.intro ((H6.out).1.trans (b7.mono (H6.out).1.size)) ((H6.out).2.new b7))
  clear b7
  try dsimp only
  refine hK.out _ _ H7.out (fun hHeld => ?_)
  clear hK K
  try simp only [Act.put, List.setIfInBounds_toArray, List.set_cons_zero, List.set_cons_succ]
  refine wpAnyH_take (i := 16) (oi := { dst := some 37, op := .pick (.tmp 32) (.tmp 36) (.const (.bool false)), type := 4, pos := "law.go:15", after := #[{ on := 11, ground := .data }, { on := 15, ground := .data }], guard := none }) (v := ?_) rfl (by kernel_rfl) (by kernel_rfl) (by kernel_rfl) (fun _ _ _ h => h) (Or.inl ⟨by rfl, ?_⟩) H7.out ?_
  rotate_left 1
  · intro w hw; obtain ⟨s0, s1⟩ := hw; go_simp; try (with_reducible rfl)
  simp only [Act.put, List.setIfInBounds_toArray, List.set_cons_zero, List.set_cons_succ]
  refine wpAnyH_take (i := 17) (oi := { dst := some 0, op := .assign (.tmp 37), type := 4, pos := "law.go:15", after := #[{ on := 16, ground := .data }, { on := 15, ground := .chain }, { on := 0, ground := .phase }, { on := 1, ground := .phase }, { on := 2, ground := .phase }, { on := 3, ground := .phase }, { on := 4, ground := .phase }, { on := 5, ground := .phase }, { on := 6, ground := .phase }, { on := 7, ground := .phase }, { on := 8, ground := .phase }, { on := 9, ground := .phase }, { on := 10, ground := .phase }, { on := 11, ground := .phase }, { on := 12, ground := .phase }, { on := 13, ground := .phase }, { on := 14, ground := .phase }, { on := 15, ground := .phase }, { on := 16, ground := .phase }], guard := none }) (v := ?_) rfl (by kernel_rfl) (by kernel_rfl) (by kernel_rfl) (fun _ _ _ h => h) (Or.inl ⟨by rfl, ?_⟩) H7.out ?_
  rotate_left 1
  · intro w hw; obtain ⟨s0, s1⟩ := hw; go_simp; try (with_reducible rfl)
  simp only [Act.put, List.setIfInBounds_toArray, List.set_cons_zero]
  refine wpAnyH_done (by kernel_rfl) ?_ _

  go_wp2
  go_ret
  exact ⟨rfl, H2.out.1.trans (H7.out.1.mono H2.out.1.size)⟩
end Go.Proofs.Ytandehdgpbflmaa
