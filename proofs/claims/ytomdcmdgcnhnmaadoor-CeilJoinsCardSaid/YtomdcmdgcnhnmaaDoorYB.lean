/- The contracts of ceil's Covers, and of image's Uses. -/
import Derived.Test.YtomdcmdgcnhnmaaDoorYA
import Derived.Test.YtomdcmdgcnhnmaaDoorFoot2
import Derived.StillTail
import Derived.StillTactics
import Derived.StillTailTactics
import Derived.Deep.RegionWith
import Derived.Deep.RegionHeld3
namespace Go.Proofs.YtomdcmdgcnhnmaaDoor
open Go.RowKit

/-- Does a table cover another one? -/
def tbCov (f g : Nat → Int) : Bool := tbEq (fun k => min (f k) (g k)) f
set_option maxHeartbeats 2000000 in
theorem cCovers_any (f g : Nat → Int) (w : World) : Calls Tryd.prog 15 #[.agg (tb f), .agg (tb g)] w fun e w' => e = .returned (.bool (tbCov f g)) ∧ Below w.heap.size w w' := by
  obtain ⟨Z, hZ⟩ : ∃ Z, Z = w.heap.size := ⟨_, rfl⟩
  have HI := Lib.hid (And.intro (tb_info f) (tb_info g))
  have HJ := Lib.hid (fun wx => cJoin_any f g wx)
  have HE := Lib.hid (show ∀ wx, (Op.equalIn 10000 33 (.agg (tb (fun k => min (f k) (g k)))) (.agg (tb f))).run Tryd.prog wx = .ok (tbCov f g) wx from fun wx => eqIn_tb 9998 _ _ wx)
  obtain ⟨F, hF⟩ : ∃ F, tb f = F := ⟨_, rfl⟩
  obtain ⟨T, hT⟩ : ∃ T, tb g = T := ⟨_, rfl⟩
  obtain ⟨J, hJ⟩ : ∃ J, tb (fun k => min (f k) (g k)) = J := ⟨_, rfl⟩
  rw [hF, hT] at HI HJ
  rw [hJ] at HJ HE
  rw [hF] at HE
  rw [hF, hT]
  clear hF hT hJ
  go_enter Tryd.func15, Tryd.ntmps15
  go_upto_region 1 with fail
  rw [← hZ]
  generalize hw2 : World.alloc _ _ = w2
  have H2 := Lib.hid (show Below w.heap.size w w2 ∧ RowAt w2 Z 33 F ∧ RowAt w2 (Z + 1) 33 T by
    rw [← hw2]
    refine ⟨((Below.refl _ _).alloc (Nat.le_refl _) _).alloc (by simp) _, ?_, ?_⟩
    · rw [hZ]; exact (RowAt.mk w 33 F).new ((Below.refl _ _).alloc (Nat.le_refl _) _)
    · have := RowAt.mk (w.alloc (.cells F 33)) 33 T
      rw [World.size_alloc, ← hZ] at this
      exact this)
  clear hw2 hZ
  refine wp_region_held_drew (S := fun w' => RowAt w' Z 33 F ∧ RowAt w' (Z + 1) 33 T) (by kernel_rfl) H2.out.2 (fun hS => ?_)
  refine wpAnyH_take (i := 0) (oi := { dst := some 5, op := .load 33 (.tmp 2), type := 33, pos := "ceil.go:73", after := #[], guard := none }) (v := .agg F) rfl (by kernel_rfl) (by kernel_rfl) (by kernel_rfl) (fun _ _ _ h => h) (Or.inl ⟨by rfl, ?_⟩) hS ?_
  · intro w hw; obtain ⟨s0, s1⟩ := hw; exact exec_load_row 33 (.tmp 2) rfl Z rfl 33 F (0, 0) _ s0 Tryd.underlying33 rfl HI.out.1
  simp only [Act.put, List.setIfInBounds_toArray, List.set_cons_zero, List.set_cons_succ]
  refine wpAnyH_take (i := 1) (oi := { dst := some 6, op := .load 33 (.tmp 3), type := 33, pos := "ceil.go:73", after := #[], guard := none }) (v := .agg T) rfl (by kernel_rfl) (by kernel_rfl) (by kernel_rfl) (fun _ _ _ h => h) (Or.inl ⟨by rfl, ?_⟩) hS ?_
  · intro w hw; obtain ⟨s0, s1⟩ := hw; exact exec_load_row 33 (.tmp 3) rfl (Z + 1) rfl 33 T (0, 0) _ s1 Tryd.underlying33 rfl HI.out.2
  simp only [Act.put, List.setIfInBounds_toArray, List.set_cons_zero, List.set_cons_succ]
  refine wpAnyH_take (i := 3) (oi := { dst := some 8, op := .load 33 (.tmp 2), type := 33, pos := "ceil.go:73", after := #[], guard := none }) (v := .agg F) rfl (by kernel_rfl) (by kernel_rfl) (by kernel_rfl) (fun _ _ _ h => h) (Or.inl ⟨by rfl, ?_⟩) hS ?_
  · intro w hw; obtain ⟨s0, s1⟩ := hw; exact exec_load_row 33 (.tmp 2) rfl Z rfl 33 F (0, 0) _ s0 Tryd.underlying33 rfl HI.out.1
  simp only [Act.put, List.setIfInBounds_toArray, List.set_cons_zero, List.set_cons_succ]
  refine wpAnyH_ready (rs := [2]) (by kernel_rfl) (by simp) (AllReadyH.cons (o := { dst := some 7, op := .call { callee := .value (.func 14), args := #[.tmp 5, .tmp 6], argTypes := #[33, 33] }, type := 33, pos := "ceil.go:73", after := #[{ on := 0, ground := .data }, { on := 1, ground := .data }], guard := none }) rfl (fun K hK => ?_) AllReadyH.nil)
  go_simp
  go_at_call 14
  refine (HJ.out _).mono ?_
  rintro e w3 ⟨rfl, b3⟩
  have H3 := Lib.hid (show Below w.heap.size w w3 ∧ RowAt w3 Z 33 F ∧ RowAt w3 (Z + 1) 33 T from ⟨H2.out.1.trans (((below_dn (Below.refl _ _) 1).mono H2.out.1.size).trans (b3.mono H2.out.1.size)), H2.out.2.1.new ((below_dn (Below.refl _ _) 1).trans b3), H2.out.2.2.new ((below_dn (Below.refl _ _) 1).trans b3)⟩)
  clear b3
  try dsimp only
  refine hK.out _ _ H3.out.2 (fun hHeld => ?_)
  clear hK K
  try simp only [Act.put, List.setIfInBounds_toArray, List.set_cons_zero, List.set_cons_succ]
  refine wpAnyH_take (i := 4) (oi := { dst := some 9, op := .binOp .eql 33 (.tmp 7) (.tmp 8) 33, type := 4, pos := "ceil.go:73", after := #[{ on := 2, ground := .data }, { on := 3, ground := .data }], guard := none }) (v := .bool (tbCov f g)) rfl (by kernel_rfl) (by kernel_rfl) (by kernel_rfl) (fun _ _ _ h => h) (Or.inl ⟨by rfl, ?_⟩) H3.out.2 ?_
  · intro w hw; obtain ⟨s0, s1⟩ := hw; have he := HE.out w; go_simp; try (with_reducible rfl)
  simp only [Act.put, List.setIfInBounds_toArray, List.set_cons_zero, List.set_cons_succ]
  refine wpAnyH_take (i := 5) (oi := { dst := some 4, op := .assign (.tmp 9), type := 4, pos := "ceil.go:73", after := #[{ on := 4, ground := .data }, { on := 2, ground := .chain }, { on := 0, ground := .phase }, { on := 1, ground := .phase }, { on := 2, ground := .phase }, { on := 3, ground := .phase }, { on := 4, ground := .phase }], guard := none }) (v := ?_) rfl (by kernel_rfl) (by kernel_rfl) (by kernel_rfl) (fun _ _ _ h => h) (Or.inl ⟨by rfl, ?_⟩) H3.out.2 ?_
  rotate_left 1
  · intro w hw; obtain ⟨s0, s1⟩ := hw; go_simp; try (with_reducible rfl)
  simp only [Act.put, List.setIfInBounds_toArray, List.set_cons_zero, List.set_cons_succ]
  refine wpAnyH_done (by kernel_rfl) ?_ _

  go_wp2
  go_ret
  exact ⟨rfl, H3.out.1⟩
end Go.Proofs.YtomdcmdgcnhnmaaDoor
