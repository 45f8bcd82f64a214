/- The contract of the law's alive. -/
import Derived.Test.YtdfknobohgncaaaDoorPD
namespace Go.Proofs.YtdfknobohgncaaaDoor
open Go.RowKit

def F1 : BitVec 32 := fst 2 &&& ~~~onl 0
def U1 : BitVec 32 := 0#32 ||| onl 0
def g1 : Nat → Int := upd c0 0 1
theorem numP : (lst (fst 2) 32).headD 0 = 0 ∧ lst (fst 2) 32 ≠ [] ∧ (lst F1 32).length = 1 ∧ good U1 g1 0 1 = true ∧ good (U1 &&& ~~~onl 0) g1 0 1 = false := by decide +kernel
set_option maxHeartbeats 2000000 in
theorem palive_any (w : World) (ht : Tab w) : Calls Tryd.prog 14 #[] w fun e w' => e = .returned (.bool true) ∧ Below w.heap.size w w' := by
  obtain ⟨n1, n2, n3, n4, n5⟩ := numP
  obtain ⟨B, hB⟩ : ∃ B, B = w.heap.size := ⟨_, rfl⟩
  have HN := Lib.hid (new_some 2 (by decide) (by decide) w)
  have hp := ht.pos
  have HT := Lib.hid (show ∀ w1, Below w.heap.size w w1 → Tab w1 from fun w1 hb => ht.below hp (hb.mono (by omega)))
  have HGt := Lib.hid (show ∀ wz, PAt wz B (fst 2) 0#32 c0 2 → Tab wz → Calls Tryd.prog 17 #[.pointer (some ⟨B, 0, none⟩)] wz fun e w' => e = .returned (.tuple #[.agg #[.int .i64 0, .int .i64 1], .int .i64 0]) ∧ PAt w' B F1 U1 g1 1 ∧ Ch (fun j => j = B) wz w' from fun wz hz tz => by
    have := get_some hz tz 0 n1 n2 (by decide)
    have e : (lst (fst 2 &&& ~~~onl ((0 : Nat) : Int)) 32).length = 1 := n3
    rw [e] at this
    exact this)
  have HP1 := Lib.hid (show ∀ wz, PAt wz B F1 U1 g1 1 → Calls Tryd.prog 16 #[.pointer (some ⟨B, 0, none⟩), .agg #[.int .i64 0, .int .i64 1]] wz fun e w' => e = .returned (.int .i64 0) ∧ PAt w' B (F1 ||| onl 0) (U1 &&& ~~~onl 0) g1 1 ∧ Ch (fun j => j = B) wz w' from fun wz hz => put_good hz 0 1 n4)
  have HP2 := Lib.hid (show ∀ wz, PAt wz B (F1 ||| onl 0) (U1 &&& ~~~onl 0) g1 1 → Calls Tryd.prog 16 #[.pointer (some ⟨B, 0, none⟩), .agg #[.int .i64 0, .int .i64 1]] wz fun e w' => e = .returned (.int .i64 80) ∧ Below wz.heap.size wz w' from fun wz hz => put_bad hz 0 1 n5)
  have HB0 := Lib.hid hB
  clear ht n1 n2 n3 n4 n5 hp
  go_enter Tryd.func14, Tryd.ntmps14
  go_upto_region 2 with (go_at_call 13; refine HN.out.mono ?_; rintro e w1 ⟨rfl, p1, b1⟩; rw [← hB] at p1 b1; have H1 := Lib.hid (And.intro p1 b1); have HT1 := Lib.hid (HT.out w1 (by rw [← hB]; exact b1)); clear p1 b1)
  rw [← hB]
  clear hB
  go_upto_region 5 with (first
    | (go_at_call 17; refine (HGt.out _ H1.out.1 HT1.out).mono ?_; rintro e w2 ⟨rfl, p2, c2⟩; have H2 := Lib.hid (And.intro p2 c2); clear p2 c2)
    | fail)
  generalize hw3 : World.alloc _ _ = w3
  obtain ⟨z, hz⟩ : ∃ z, z = w2.heap.size := ⟨_, rfl⟩
  rw [← hz]
  have H3 := Lib.hid (show PAt w3 B F1 U1 g1 1 ∧ B < z ∧ BoxAt w3 z [.int .i64 0, .int .i64 1] ∧ Below B w w3 by
    have hb3 : Below w2.heap.size w2 w3 := by rw [← hw3]; exact (Below.refl _ _).alloc (Nat.le_refl _) _
    have hb2 : Below B w w2 := H1.out.2.trans (H2.out.2.below (fun j hj e => by omega) (by have := H1.out.1.lt; omega))
    exact ⟨H2.out.1.new hb3, by rw [hz]; exact H2.out.1.lt, by rw [← hw3, hz]; exact BoxAt.mk_new w2 _ _, hb2.trans (hb3.mono (by have := H2.out.1.lt; omega))⟩)
  have y0 := H3.out.2.2.1.cell 0 _ rfl
  have y1 := H3.out.2.2.1.cell 1 _ rfl
  clear hw3 hz
  refine wp_region_held_drew (S := fun w' => w'.cell? ⟨z, 0, none⟩ = some (.int .i64 0) ∧ w'.cell? ⟨z, 1, none⟩ = some (.int .i64 1)) (by kernel_rfl) ⟨y0, y1⟩ (fun hS => ?_)
  refine wpAnyH_take (i := 0) (oi := { dst := some 22, op := .move (.tmp 1), type := 42, pos := "law.go:16", after := #[], guard := none }) (v := ?_) rfl (by kernel_rfl) (by kernel_rfl) (by kernel_rfl) (fun _ _ _ h => h) (Or.inl ⟨by rfl, ?_⟩) hS ?_
  rotate_left 1
  · intro w hw; obtain ⟨s0, s1⟩ := hw; go_simp; try (with_reducible rfl)
  simp only [Act.put, List.setIfInBounds_toArray, List.set_cons_zero, List.set_cons_succ]
  refine wpAnyH_take (i := 1) (oi := { dst := some 23, op := .load 50 (.tmp 3), type := 50, pos := "law.go:16", after := #[], guard := none }) (v := ?_) rfl (by kernel_rfl) (by kernel_rfl) (by kernel_rfl) (fun _ _ _ h => h) (Or.inl ⟨by rfl, ?_⟩) hS ?_
  rotate_left 1
  · intro w hw; obtain ⟨s0, s1⟩ := hw; go_simp; try (with_reducible rfl)
  simp only [Act.put, List.setIfInBounds_toArray, List.set_cons_zero, List.set_cons_succ]
  refine wpAnyH_take (i := 3) (oi := { dst := some 25, op := .move (.tmp 1), type := 42, pos := "law.go:16", after := #[], guard := none }) (v := ?_) rfl (by kernel_rfl) (by kernel_rfl) (by kernel_rfl) (fun _ _ _ h => h) (Or.inl ⟨by rfl, ?_⟩) hS ?_
  rotate_left 1
  · intro w hw; obtain ⟨s0, s1⟩ := hw; go_simp; try (with_reducible rfl)
  simp only [Act.put, List.setIfInBounds_toArray, List.set_cons_zero, List.set_cons_succ]
  refine wpAnyH_take (i := 4) (oi := { dst := some 26, op := .load 50 (.tmp 3), type := 50, pos := "law.go:16", after := #[], guard := none }) (v := ?_) rfl (by kernel_rfl) (by kernel_rfl) (by kernel_rfl) (fun _ _ _ h => h) (Or.inl ⟨by rfl, ?_⟩) hS ?_
  rotate_left 1
  · intro w hw; obtain ⟨s0, s1⟩ := hw; go_simp; try (with_reducible rfl)
  simp only [Act.put, List.setIfInBounds_toArray, List.set_cons_zero, List.set_cons_succ]
  refine wpAnyH_ready (rs := [2]) (by kernel_rfl) (by simp) (AllReadyH.cons (o := { dst := some 24, op := .call { callee := .value (.func 16), args := #[.tmp 22, .tmp 23], argTypes := #[42, 50] }, type := 43, pos := "law.go:16", after := #[{ on := 0, ground := .data }, { on := 1, ground := .data }], guard := none }) rfl (fun K hK => ?_) AllReadyH.nil)
  go_simp
  go_at_call 16
  refine (HP1.out _ (H3.out.1.dn 1)).mono ?_
  rintro e w4 ⟨rfl, g4, h4⟩
  have H4 := Lib.hid (And.intro g4 (And.intro ((below_dn H3.out.2.2.2 1).trans (h4.below (fun j hj e => by omega) (Nat.le_of_lt H3.out.1.lt))) ((H3.out.2.2.1.new (below_dn (Below.refl _ _) 1)).keep h4 (by have := H3.out.2.1; omega))))
  have z0 := H4.out.2.2.cell 0 _ rfl
  have z1 := H4.out.2.2.cell 1 _ rfl
  clear g4 h4
  try dsimp only
  refine hK.out _ _ ⟨z0, z1⟩ (fun hHeld => ?_)
  clear hK K
  try simp only [Act.put, List.setIfInBounds_toArray, List.set_cons_zero, List.set_cons_succ]
  refine wpAnyH_ready (rs := [5]) (by kernel_rfl) (by simp) (AllReadyH.cons (o := { dst := some 27, op := .call { callee := .value (.func 16), args := #[.tmp 25, .tmp 26], argTypes := #[42, 50] }, type := 43, pos := "law.go:16", after := #[{ on := 3, ground := .data }, { on := 4, ground := .data }, { on := 2, ground := .chain }], guard := none }) rfl (fun K hK => ?_) AllReadyH.nil)
  go_simp
  go_at_call 16
  refine (HP2.out _ H4.out.1).mono ?_
  rintro e w5 ⟨rfl, h5⟩
  have H5 := Lib.hid (And.intro (H4.out.2.1.trans (h5.mono (Nat.le_of_lt H4.out.1.lt))) (H4.out.2.2.new h5))
  have u0 := H5.out.2.cell 0 _ rfl
  have u1 := H5.out.2.cell 1 _ rfl
  clear h5
  try dsimp only
  refine hK.out _ _ ⟨u0, u1⟩ (fun hHeld => ?_)
  clear hK K
  try simp only [Act.put, List.setIfInBounds_toArray, List.set_cons_zero, List.set_cons_succ]
  refine wpAnyH_take (i := 6) (oi := { dst := some 5, op := .assign (.tmp 24), type := 43, pos := "law.go:16", after := #[{ on := 2, ground := .data }, { on := 5, ground := .chain }, { on := 0, ground := .phase }, { on := 1, ground := .phase }, { on := 2, ground := .phase }, { on := 3, ground := .textOnly Go.Departure.lateStores }, { on := 4, ground := .textOnly Go.Departure.lateStores }, { on := 5, ground := .textOnly Go.Departure.lateStoresUnsure }], guard := none }) (v := ?_) rfl (by kernel_rfl) (by kernel_rfl) (by kernel_rfl) (fun _ _ _ h => h) (Or.inl ⟨by rfl, ?_⟩) ⟨u0, u1⟩ ?_
  rotate_left 1
  · intro w hw; obtain ⟨s0, s1⟩ := hw; go_simp; try (with_reducible rfl)
  simp only [Act.put, List.setIfInBounds_toArray, List.set_cons_zero, List.set_cons_succ]
  refine wpAnyH_take (i := 7) (oi := { dst := some 6, op := .assign (.tmp 27), type := 43, pos := "law.go:16", after := #[{ on := 5, ground := .data }, { on := 6, ground := .chain }, { on := 0, ground := .phase }, { on := 1, ground := .phase }, { on := 2, ground := .phase }, { on := 3, ground := .phase }, { on := 4, ground := .phase }, { on := 5, ground := .phase }, { on := 6, ground := .phase }], guard := none }) (v := ?_) rfl (by kernel_rfl) (by kernel_rfl) (by kernel_rfl) (fun _ _ _ h => h) (Or.inl ⟨by rfl, ?_⟩) ⟨u0, u1⟩ ?_
  rotate_left 1
  · intro w hw; obtain ⟨s0, s1⟩ := hw; go_simp; try (with_reducible rfl)
  simp only [Act.put, List.setIfInBounds_toArray, List.set_cons_zero, List.set_cons_succ]
  refine wpAnyH_done (by kernel_rfl) ?_ _
  go_wp2
  go_ret
  exact ⟨rfl, by rw [← HB0.out]; exact H5.out.1⟩
end Go.Proofs.YtdfknobohgncaaaDoor
