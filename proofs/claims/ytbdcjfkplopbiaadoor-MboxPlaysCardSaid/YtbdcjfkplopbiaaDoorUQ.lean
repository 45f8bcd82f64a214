/- The contract of law51's send. -/
import Derived.Test.YtbdcjfkplopbiaaDoorUP
namespace Go.Proofs.YtbdcjfkplopbiaaDoor
open Go.RowKit

section
variable {w : World} {sp : Option Addr} {cap N : Nat} {X : List (Int × Int)} {rm a x : Int}
set_option maxHeartbeats 1000000 in
theorem lsend_bad (ha : ¬ (0 ≤ a ∧ a < 32)) :
    Calls Tryd.prog 9 #[.int .i64 rm, .slice sp N cap, .agg #[.int .i64 a, .int .i64 x]] w fun e w' => e = .returned (.tuple #[.slice sp N cap, .bool false, .int .i64 104]) ∧ Below w.heap.size w w' := by
  have HB := Lib.hid (show Below w.heap.size w (w.alloc (.cells #[.int .i64 a, .int .i64 x] 30)) from (Below.refl _ _).alloc (Nat.le_refl _) _)
  by_cases h0 : a < 0
  · clear ha
    go_enter Tryd.func9, Tryd.ntmps9
    go_wp2
    go_ret3
    exact ⟨rfl, HB.out⟩
  · have h1 : 31 < a := by omega
    clear ha
    go_enter Tryd.func9, Tryd.ntmps9
    go_wp2
    go_ret3
    exact ⟨rfl, HB.out⟩
/-- What a send that puts hands back. -/
def SOut (w w' : World) (X : List (Int × Int)) (a x : Int) (r : Value → Value) (e : Ending) : Prop :=
  ∃ k v, PutK X a k ∧ e = .returned (r v) ∧ w'.ownsRow w.heap.size 30 2 v (X.length + 1) (prow (X.take k ++ (a, x) :: X.drop k)) ∧ Below w.heap.size w w'
theorem SOut.of {w w1 w' : World} (hb : Below w.heap.size w w1) {v : Value} {k : Nat} (hk : PutK X a k) (ho : w'.ownsRow w1.heap.size 30 2 v (X.length + 1) (prow (X.take k ++ (a, x) :: X.drop k))) (hb2 : Below w1.heap.size w1 w') (r : Value → Value) : SOut w w' X a x r (.returned (r v)) :=
  ⟨k, v, hk, rfl, own_mono ho hb.size, hb.trans (hb2.mono hb.size)⟩
set_option maxHeartbeats 2000000 in
theorem lsend_room (h : NL w sp X) (hcap : X.length ≤ cap) (hN : X.length ≤ 1000) (hsn : (sp = none ∧ cap = 0) ∨ ∃ b o, sp = some ⟨b, o, none⟩) (ha : 0 ≤ a ∧ a < 32) (hr : (X.length : Int) < rm) :
    Calls Tryd.prog 9 #[.int .i64 rm, .slice sp X.length cap, .agg #[.int .i64 a, .int .i64 x]] w fun e w' => SOut w w' X a x (fun v => .tuple #[v, .bool false, .int .i64 0]) e := by
  obtain ⟨X0, hX0⟩ : ∃ X0, X0 = w.heap.size := ⟨_, rfl⟩
  obtain ⟨w1, hw1⟩ : ∃ w1, w.alloc (.cells #[.int .i64 a, .int .i64 x] 30) = w1 := ⟨_, rfl⟩
  have b1 : Below w.heap.size w w1 := by rw [← hw1]; exact (Below.refl _ _).alloc (Nat.le_refl _) _
  have hr1 : RowAt w1 X0 30 #[.int .i64 a, .int .i64 x] := by rw [← hw1, hX0]; exact RowAt.mk _ _ _
  have HP := Lib.hid (lput_any (h.new b1) hcap hN hsn a x)
  have HB := Lib.hid b1
  have q0 : w1.cell? ⟨X0, 0, none⟩ = some (.int .i64 a) := hr1.cell 0
  have q1 : w1.cell? ⟨X0, 1, none⟩ = some (.int .i64 x) := hr1.cell 1
  have h0 : ¬ a < 0 := by omega
  have h1 : ¬ 31 < a := by omega
  obtain ⟨n, hn⟩ : ∃ n, X.length = n := ⟨_, rfl⟩
  have HN := Lib.hid hn
  rw [hn] at HP hr ⊢
  clear h hcap hN hsn ha b1 hr1 hn
  go_enter Tryd.func9, Tryd.ntmps9
  go_upto_region 1 with fail
  try rw [hw1]
  try rw [← hX0]
  clear hw1 hX0
  go_wp2_with (go_at_call 17; refine HP.out.mono ?_; rintro e w2 ⟨k, v, hk, rfl, ho, hb2⟩; have H2 := Lib.hid (SOut.of HB.out hk (by rw [HN.out]; exact ho) hb2 (fun v => .tuple #[v, .bool false, .int .i64 0])); clear hk ho hb2)
  go_ret3
  exact H2.out
theorem prow_last {X : List (Int × Int)} {m : Nat} (hm : X.length = m + 1) {b off : Nat} {w : World} (hcs : ∀ j u, (prow X)[j]? = some u → w.cell? ⟨b, off + j, none⟩ = some u) : w.cell? ⟨b, off + m * 2, none⟩ = some (.int .i64 (pth X m).1) := by
  have := hcs (2 * m) _ (prow_at X m (by omega)).1
  rwa [Nat.mul_comm] at this
set_option maxHeartbeats 2000000 in
theorem lsend_over (h : NL w sp X) (ha : 0 ≤ a ∧ a < 32) (m : Nat) (hm : X.length = m + 1) (hN : X.length ≤ 1000) (hr : ¬ (X.length : Int) < rm) (hl : (pth X m).1 ≤ a) :
    Calls Tryd.prog 9 #[.int .i64 rm, .slice sp X.length cap, .agg #[.int .i64 a, .int .i64 x]] w fun e w' => e = .returned (.tuple #[.slice sp X.length cap, .bool false, .int .i64 271]) ∧ Below w.heap.size w w' := by
  obtain ⟨X0, hX0⟩ : ∃ X0, X0 = w.heap.size := ⟨_, rfl⟩
  obtain ⟨w1, hw1⟩ : ∃ w1, w.alloc (.cells #[.int .i64 a, .int .i64 x] 30) = w1 := ⟨_, rfl⟩
  have b1 : Below w.heap.size w w1 := by rw [← hw1]; exact (Below.refl _ _).alloc (Nat.le_refl _) _
  have hr1 : RowAt w1 X0 30 #[.int .i64 a, .int .i64 x] := by rw [← hw1, hX0]; exact RowAt.mk _ _ _
  obtain ⟨b, off, hsp, hcs⟩ := h.new b1
  obtain ⟨rfl, -⟩ := hsp (by omega)
  have cm := prow_last hm hcs
  obtain ⟨y, hy⟩ : ∃ y, (pth X m).1 = y := ⟨_, rfl⟩
  rw [hy] at cm hl
  have HB := Lib.hid b1
  have q0 : w1.cell? ⟨X0, 0, none⟩ = some (.int .i64 a) := hr1.cell 0
  have h0 : ¬ a < 0 := by omega
  have h1 : ¬ 31 < a := by omega
  rw [hm] at hr ⊢
  have e1 : ((m + 1 : Nat) : Int) - 1 = (m : Nat) := by omega
  have e4 : (0 : Int) ≤ (m : Int) := by omega
  have e3 : (m : Int) < (m : Int) + 1 := by omega
  have e8 : (m : Int) ≤ 1000 := by omega
  have ew : IntKind.i64.wrap (m : Int) = (m : Int) := by rw [IntKind.wrap_i64]; omega
  have e9 : m < m + 1 := by omega
  clear h ha b1 hr1 hsp hcs hy hm
  go_enter Tryd.func9, Tryd.ntmps9
  go_upto_region 1 with fail
  try rw [hw1]
  try rw [← hX0]
  clear hw1 hX0
  go_upto_region 5 with fail
  go_quiet (fail)
  go_wp2
  go_ret3
  exact ⟨rfl, below_dn HB.out _⟩
theorem NL.init {w : World} {sp : Option Addr} {X : List (Int × Int)} (h : NL w sp X) : NL w sp X.dropLast := by
  obtain ⟨b, off, h1, h2⟩ := h
  refine ⟨b, off, fun h0 => h1 (by rw [List.length_dropLast] at h0; omega), fun j u hu => ?_⟩
  by_cases hx : X = []
  · subst hx; simp [prow] at hu
  · have e : prow X = prow X.dropLast ++ prow [X.getLast hx] := by rw [← prow_app, List.dropLast_concat_getLast hx]
    exact h2 j u (by rw [e, List.getElem?_append_left (List.getElem?_eq_some_iff.1 hu).1]; exact hu)
set_option maxHeartbeats 4000000 in
theorem lsend_gives (h : NL w sp X) (hcap : X.length ≤ cap) (hN : X.length ≤ 1000) (ha : 0 ≤ a ∧ a < 32) (m : Nat) (hm : X.length = m + 1) (hr : ¬ (X.length : Int) < rm) (hl : a < (pth X m).1) :
    Calls Tryd.prog 9 #[.int .i64 rm, .slice sp X.length cap, .agg #[.int .i64 a, .int .i64 x]] w fun e w' => SOut w w' X.dropLast a x (fun v => .tuple #[v, .bool true, .int .i64 0]) e := by
  obtain ⟨X0, hX0⟩ : ∃ X0, X0 = w.heap.size := ⟨_, rfl⟩
  obtain ⟨w1, hw1⟩ : ∃ w1, w.alloc (.cells #[.int .i64 a, .int .i64 x] 30) = w1 := ⟨_, rfl⟩
  have b1 : Below w.heap.size w w1 := by rw [← hw1]; exact (Below.refl _ _).alloc (Nat.le_refl _) _
  have hr1 : RowAt w1 X0 30 #[.int .i64 a, .int .i64 x] := by rw [← hw1, hX0]; exact RowAt.mk _ _ _
  have hNL := h.new b1
  obtain ⟨b, off, hsp, hcs⟩ := hNL
  obtain ⟨rfl, -⟩ := hsp (by omega)
  have cm := prow_last hm hcs
  obtain ⟨y, hy⟩ : ∃ y, (pth X m).1 = y := ⟨_, rfl⟩
  rw [hy] at cm hl
  have hlen : X.dropLast.length = m := by rw [List.length_dropLast]; omega
  have HP := Lib.hid (show ∀ wz, Below w1.heap.size w1 wz → Calls Tryd.prog 17 #[.slice (some ⟨b, off, none⟩) m cap, .agg #[.int .i64 a, .int .i64 x]] wz fun e w' => ∃ k v, PutK X.dropLast a k ∧ e = .returned v ∧ w'.ownsRow wz.heap.size 30 2 v (X.dropLast.length + 1) (prow (X.dropLast.take k ++ (a, x) :: X.dropLast.drop k)) ∧ Below wz.heap.size wz w' from fun wz hb => by
    have := lput_any (((h.new b1).init).new hb) (cap := cap) (by rw [hlen]; omega) (by rw [hlen]; omega) (.inr ⟨b, off, rfl⟩) a x
    rw [hlen] at this ⊢
    exact this)
  have HB := Lib.hid b1
  have HR := Lib.hid hr1
  have q0 : w1.cell? ⟨X0, 0, none⟩ = some (.int .i64 a) := hr1.cell 0
  have h0 : ¬ a < 0 := by omega
  have h1 : ¬ 31 < a := by omega
  rw [hm] at hr ⊢
  have e1 : ((m + 1 : Nat) : Int) - 1 = (m : Nat) := by omega
  have e4 : (0 : Int) ≤ (m : Int) := by omega
  have e3 : (m : Int) < (m : Int) + 1 := by omega
  have e8 : (m : Int) ≤ 1000 := by omega
  have ew : IntKind.i64.wrap (m : Int) = (m : Int) := by rw [IntKind.wrap_i64]; omega
  have e9 : m < m + 1 := by omega
  have e5 : m ≤ cap := by omega
  have e6 : ¬ y ≤ a := by omega
  have e7 : ¬ cap = 0 := by omega
  clear h ha b1 hr1 hsp hcs hy hm hlen hcap hN
  go_enter Tryd.func9, Tryd.ntmps9
  go_upto_region 1 with fail
  try rw [hw1]
  try rw [← hX0]
  clear hw1 hX0
  go_upto_region 5 with fail
  go_quiet (fail)
  go_upto_region 7 with fail
  generalize hwq : World.drewN _ _ = wq
  have HQ := Lib.hid (show Below w1.heap.size w1 wq.drew ∧ RowAt wq.drew X0 30 #[.int .i64 a, .int .i64 x] by rw [← hwq]; exact ⟨below_dn (below_dn (Below.refl _ _) _) 1, HR.out⟩)
  have HPq := Lib.hid (HP.out wq.drew HQ.out.1)
  clear hwq q0 cm HP HR
  refine wp_region_held_drew (S := fun w' => w'.cell? ⟨X0, 0, none⟩ = some (.int .i64 a) ∧ w'.cell? ⟨X0, 1, none⟩ = some (.int .i64 x)) (by kernel_rfl) ⟨HQ.out.2.cell 0, HQ.out.2.cell 1⟩ (fun hS => ?_)
  refine wpAnyH_take (i := 0) (oi := { dst := some 36, op := .move (.tmp 1), type := 28, pos := "law.go:69", after := #[], guard := none }) (v := ?_) rfl (by kernel_rfl) (by kernel_rfl) (by kernel_rfl) (fun _ _ _ h => h) (Or.inl ⟨by rfl, ?_⟩) hS ?_
  rotate_left 1
  · intro w hw; obtain ⟨s0, s1⟩ := hw; go_simp; try (with_reducible rfl)
  simp only [Act.put, List.setIfInBounds_toArray, List.set_cons_zero, List.set_cons_succ]
  refine wpAnyH_take (i := 1) (oi := { dst := some 37, op := .move (.tmp 1), type := 28, pos := "law.go:69", after := #[], guard := none }) (v := ?_) rfl (by kernel_rfl) (by kernel_rfl) (by kernel_rfl) (fun _ _ _ h => h) (Or.inl ⟨by rfl, ?_⟩) hS ?_
  rotate_left 1
  · intro w hw; obtain ⟨s0, s1⟩ := hw; go_simp; try (with_reducible rfl)
  simp only [Act.put, List.setIfInBounds_toArray, List.set_cons_zero, List.set_cons_succ]
  refine wpAnyH_take (i := 2) (oi := { dst := some 38, op := .call { callee := .builtin .len, args := #[.tmp 37], argTypes := #[28] }, type := 3, pos := "law.go:69", after := #[{ on := 1, ground := .data }], guard := none }) (v := ?_) rfl (by kernel_rfl) (by kernel_rfl) (by kernel_rfl) (fun _ _ _ h => h) (Or.inl ⟨by rfl, ?_⟩) hS ?_
  rotate_left 1
  · intro w hw; obtain ⟨s0, s1⟩ := hw; go_simp; try (with_reducible rfl)
  simp only [Act.put, List.setIfInBounds_toArray, List.set_cons_zero, List.set_cons_succ]
  refine wpAnyH_take (i := 3) (oi := { dst := some 39, op := .binOp .sub 3 (.tmp 38) (.const (.int .i64 1)) 3, type := 3, pos := "law.go:69", after := #[{ on := 2, ground := .data }], guard := none }) (v := ?_) rfl (by kernel_rfl) (by kernel_rfl) (by kernel_rfl) (fun _ _ _ h => h) (Or.inl ⟨by rfl, ?_⟩) hS ?_
  rotate_left 1
  · intro w hw; obtain ⟨s0, s1⟩ := hw; go_simp; try (with_reducible rfl)
  simp only [Act.put, List.setIfInBounds_toArray, List.set_cons_zero, List.set_cons_succ]
  refine wpAnyH_take (i := 4) (oi := { dst := some 40, op := .slice 28 (.tmp 36) none (some (.tmp 39)) none, type := 28, pos := "law.go:69", after := #[{ on := 0, ground := .data }, { on := 3, ground := .data }], guard := none }) (v := ?_) rfl (by kernel_rfl) (by kernel_rfl) (by kernel_rfl) (fun _ _ _ h => h) (Or.inl ⟨by rfl, ?_⟩) hS ?_
  rotate_left 1
  · intro w hw; obtain ⟨s0, s1⟩ := hw; go_simp; try (with_reducible rfl)
  simp only [Act.put, List.setIfInBounds_toArray, List.set_cons_zero, List.set_cons_succ]
  refine wpAnyH_take (i := 5) (oi := { dst := some 41, op := .load 30 (.tmp 5), type := 30, pos := "law.go:69", after := #[], guard := none }) (v := ?_) rfl (by kernel_rfl) (by kernel_rfl) (by kernel_rfl) (fun _ _ _ h => h) (Or.inl ⟨by rfl, ?_⟩) hS ?_
  rotate_left 1
  · intro w hw; obtain ⟨s0, s1⟩ := hw; go_simp; try (with_reducible rfl)
  simp only [Act.put, List.setIfInBounds_toArray, List.set_cons_zero, List.set_cons_succ]
  refine wpAnyH_ready (rs := [6]) (by kernel_rfl) (by simp) (AllReadyH.cons (o := { dst := some 42, op := .call { callee := .value (.func 17), args := #[.tmp 40, .tmp 41], argTypes := #[28, 30] }, type := 28, pos := "law.go:69", after := #[{ on := 4, ground := .data }, { on := 5, ground := .data }], guard := none }) rfl (fun K hK => ?_) AllReadyH.nil)
  go_simp
  go_at_call 17
  refine HPq.out.mono ?_
  rintro e w2 ⟨k, v, hk, rfl, ho, hb2⟩
  have HR2 := Lib.hid (HQ.out.2.new hb2)
  have H2 := Lib.hid (SOut.of (HB.out.trans (HQ.out.1.mono HB.out.size)) hk ho hb2 (fun v => .tuple #[v, .bool true, .int .i64 0]))
  clear hk ho hb2
  try dsimp only
  refine hK.out _ _ ⟨HR2.out.cell 0, HR2.out.cell 1⟩ (fun hHeld => ?_)
  clear hK K
  try simp only [Act.put, List.setIfInBounds_toArray, List.set_cons_zero, List.set_cons_succ]
  refine wpAnyH_ready (rs := [7]) (by kernel_rfl) (by simp) (AllReadyH.cons (o := { dst := some 6, op := .assign (.tmp 42), type := 28, pos := "law.go:69", after := #[{ on := 6, ground := .data }, { on := 6, ground := .chain }, { on := 0, ground := .phase }, { on := 1, ground := .phase }, { on := 2, ground := .phase }, { on := 3, ground := .phase }, { on := 4, ground := .phase }, { on := 5, ground := .phase }, { on := 6, ground := .phase }], guard := none }) rfl (fun K hK => ?_) AllReadyH.nil)
  go_simp
  refine hK.out _ _ ⟨HR2.out.cell 0, HR2.out.cell 1⟩ (fun hHeld => ?_)
  clear hK K
  try simp only [Act.put, List.setIfInBounds_toArray, List.set_cons_zero, List.set_cons_succ]
  refine wpAnyH_ready (rs := [8]) (by kernel_rfl) (by simp) (AllReadyH.cons (o := { dst := some 7, op := .assign (.const (.bool true)), type := 4, pos := "law.go:69", after := #[{ on := 7, ground := .chain }, { on := 0, ground := .phase }, { on := 1, ground := .phase }, { on := 2, ground := .phase }, { on := 3, ground := .phase }, { on := 4, ground := .phase }, { on := 5, ground := .phase }, { on := 6, ground := .phase }, { on := 7, ground := .phase }], guard := none }) rfl (fun K hK => ?_) AllReadyH.nil)
  go_simp
  refine hK.out _ _ ⟨HR2.out.cell 0, HR2.out.cell 1⟩ (fun hHeld => ?_)
  clear hK K
  try simp only [Act.put, List.setIfInBounds_toArray, List.set_cons_zero, List.set_cons_succ]
  refine wpAnyH_ready (rs := [9]) (by kernel_rfl) (by simp) (AllReadyH.cons (o := { dst := some 8, op := .assign (.const (.int .i64 0)), type := 3, pos := "law.go:69", after := #[{ on := 8, ground := .chain }, { on := 0, ground := .phase }, { on := 1, ground := .phase }, { on := 2, ground := .phase }, { on := 3, ground := .phase }, { on := 4, ground := .phase }, { on := 5, ground := .phase }, { on := 6, ground := .phase }, { on := 7, ground := .phase }, { on := 8, ground := .phase }], guard := none }) rfl (fun K hK => ?_) AllReadyH.nil)
  go_simp
  refine hK.out _ _ ⟨HR2.out.cell 0, HR2.out.cell 1⟩ (fun hHeld => ?_)
  clear hK K
  try simp only [Act.put, List.setIfInBounds_toArray, List.set_cons_zero, List.set_cons_succ]
  refine wpAnyH_done (by kernel_rfl) ?_ _

  go_wp2
  go_ret3
  obtain ⟨k2, v2, hk2, he2, ho2, hb2⟩ := H2.out
  exact ⟨k2, v2, hk2, Eq.trans (by simp [go_sem]) he2, ho2, hb2⟩
end
end Go.Proofs.YtbdcjfkplopbiaaDoor
