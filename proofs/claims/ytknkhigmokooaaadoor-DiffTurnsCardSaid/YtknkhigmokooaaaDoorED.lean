/- The contracts of diff's became and Line. -/
import Derived.Test.YtknkhigmokooaaaDoorEA2
import Derived.Test.YtknkhigmokooaaaDoorDG
namespace Go.Proofs.YtknkhigmokooaaaDoor
open Go.RowKit Go.Lib

def becB (o n : Bool) : ByteArray := if o = true then (if n = true then ⟨#[111, 116, 104, 101, 114]⟩ else ⟨#[103, 111, 110, 101]⟩) else (if n = true then ⟨#[110, 101, 119]⟩ else ⟨#[]⟩)
theorem boxed4 (w : World) (x y z u : Value) (t : TypeId) : (w.alloc (.cells #[x, y, z, u] t)).cell? ⟨w.heap.size, 0, none⟩ = some x ∧ (w.alloc (.cells #[x, y, z, u] t)).cell? ⟨w.heap.size, 1, none⟩ = some y ∧ (w.alloc (.cells #[x, y, z, u] t)).cell? ⟨w.heap.size, 2, none⟩ = some z ∧ (w.alloc (.cells #[x, y, z, u] t)).cell? ⟨w.heap.size, 3, none⟩ = some u :=
  ⟨(RowAt.mk w t #[x, y, z, u]).cell 0, (RowAt.mk w t #[x, y, z, u]).cell 1, (RowAt.mk w t #[x, y, z, u]).cell 2, (RowAt.mk w t #[x, y, z, u]).cell 3⟩
set_option maxHeartbeats 1000000 in
theorem became_any {w : World} (K A : Int) (o n : Bool) :
    Calls Tryd.prog 57 #[.agg #[.int .i64 K, .int .i64 A, .bool o, .bool n]] w fun e w' => e = .returned (.string (becB o n)) ∧ Below w.heap.size w w' := by
  obtain ⟨p0, p1, p2, p3⟩ := boxed4 w (.int .i64 K) (.int .i64 A) (.bool o) (.bool n) 57
  rcases o with _ | _ <;> rcases n with _ | _
  all_goals
    go_enter Tryd.func57, Tryd.ntmps57
    go_wp2
    go_ret
    exact ⟨rfl, below_alloc (Below.refl _ _) (Nat.le_refl _) _⟩

def wordB (K : Int) : ByteArray := if K = 1 then ⟨#[114, 101, 115]⟩ else if K = 2 then ⟨#[116, 97, 115, 107]⟩ else if K = 3 then ⟨#[109, 111, 100, 101]⟩ else if K = 4 then ⟨#[113, 117, 101, 117, 101, 115]⟩ else ⟨#[101, 100, 103, 101]⟩
def lineB (K A : Int) (o n : Bool) : ByteArray :=
  if K < 1 then ⟨#[]⟩ else if 5 < K then ⟨#[]⟩ else if A < 0 then ⟨#[]⟩ else if o = false ∧ n = false then ⟨#[]⟩ else
  wordB K ++ ⟨#[32]⟩ ++ ⟨(decDigits (clamp A)).toArray⟩ ++ ⟨#[32]⟩ ++ becB o n
/-- The table of the kinds' words lies in its block. -/
def WTab (w : World) : Prop := ∀ K : Nat, 1 ≤ K → K ≤ 5 → w.cell? ⟨0, K, none⟩ = some (.string (wordB K))
theorem wtab_size {w : World} (h : WTab w) : 0 < w.heap.size := World.block_lt_of_cell? w _ (h 1 (by omega) (by omega))
theorem WTab.below {w w' : World} (h : WTab w) (hb : Below w.heap.size w w') : WTab w' := fun K h1 h2 => by
  rw [← h K h1 h2]
  exact hb.cell (wtab_size h)
set_option maxHeartbeats 2000000 in
theorem dfLine_any {w : World} (hw : WTab w) (ht : PTab w) (K A : Int) (o n : Bool) (hA : A ≤ 9223372036854775807) :
    Calls Tryd.prog 28 #[.agg #[.int .i64 K, .int .i64 A, .bool o, .bool n]] w fun e w' => e = .returned (.string (lineB K A o n)) ∧ Below w.heap.size w w' := by
  obtain ⟨p0, p1, p2, p3⟩ := boxed4 w (.int .i64 K) (.int .i64 A) (.bool o) (.bool n) 57
  have HP := Lib.hid (And.intro p0 (And.intro p1 (And.intro p2 p3)))
  have HB0 := Lib.hid (show Below w.heap.size w (w.alloc (.cells #[.int .i64 K, .int .i64 A, .bool o, .bool n] 57)) from below_alloc (Below.refl _ _) (Nat.le_refl _) _)
  have HW := Lib.hid hw
  have HPT := Lib.hid ht
  clear hw ht
  obtain ⟨bs, hbs⟩ : ∃ s, becB o n = s := ⟨_, rfl⟩
  have HBc := Lib.hid (became_any (w := w.alloc (.cells #[.int .i64 K, .int .i64 A, .bool o, .bool n] 57)) K A o n)
  rw [hbs] at HBc
  obtain ⟨r, hr⟩ : ∃ s, lineB K A o n = s := ⟨_, rfl⟩
  rw [hr]
  unfold lineB at hr
  rw [hbs] at hr
  have hsz : w.heap.size < (w.alloc (.cells #[.int .i64 K, .int .i64 A, .bool o, .bool n] 57)).heap.size := by simp
  have HS := Lib.hid hsz
  clear hsz
  by_cases h1 : K < 1
  · rw [if_pos h1] at hr
    subst hr
    clear hbs
    go_enter Tryd.func28, Tryd.ntmps28
    go_wp2_with (first
      | (go_at_call 57; refine HBc.out.mono ?_; rintro e w3 ⟨rfl, b3⟩; have H3 := Lib.hid b3; have q0 : w3.cell? ⟨w.heap.size, 0, none⟩ = some (.int .i64 K) := (b3.cell HS.out).trans p0; clear b3 p0 p1 p2 p3)
      | fail)
    go_ret
    exact ⟨rfl, HB0.out.trans (H3.out.mono HB0.out.size)⟩
  rw [if_neg h1] at hr
  by_cases h5 : 5 < K
  · rw [if_pos h5] at hr
    subst hr
    clear hbs
    go_enter Tryd.func28, Tryd.ntmps28
    go_wp2_with (first
      | (go_at_call 57; refine HBc.out.mono ?_; rintro e w3 ⟨rfl, b3⟩; have H3 := Lib.hid b3; have q0 : w3.cell? ⟨w.heap.size, 0, none⟩ = some (.int .i64 K) := (b3.cell HS.out).trans p0; clear b3 p0 p1 p2 p3)
      | fail)
    go_ret
    exact ⟨rfl, HB0.out.trans (H3.out.mono HB0.out.size)⟩
  rw [if_neg h5] at hr
  by_cases hA0 : A < 0
  · rw [if_pos hA0] at hr
    subst hr
    clear hbs
    go_enter Tryd.func28, Tryd.ntmps28
    go_wp2_with (first
      | (go_at_call 57; refine HBc.out.mono ?_; rintro e w3 ⟨rfl, b3⟩; have H3 := Lib.hid b3; have q0 : w3.cell? ⟨w.heap.size, 0, none⟩ = some (.int .i64 K) := (b3.cell HS.out).trans p0; have q1 : w3.cell? ⟨w.heap.size, 1, none⟩ = some (.int .i64 A) := (b3.cell HS.out).trans p1; clear b3 p0 p1 p2 p3)
      | fail)
    go_ret
    exact ⟨rfl, HB0.out.trans (H3.out.mono HB0.out.size)⟩
  rw [if_neg hA0] at hr
  by_cases hon : o = false ∧ n = false
  · rw [if_pos hon] at hr
    obtain ⟨rfl, rfl⟩ := hon
    subst hr
    obtain rfl : (⟨#[]⟩ : ByteArray) = bs := hbs
    go_enter Tryd.func28, Tryd.ntmps28
    go_wp2_with (first
      | (go_at_call 57; refine HBc.out.mono ?_; rintro e w3 ⟨rfl, b3⟩; have H3 := Lib.hid b3; have q0 : w3.cell? ⟨w.heap.size, 0, none⟩ = some (.int .i64 K) := (b3.cell HS.out).trans p0; have q1 : w3.cell? ⟨w.heap.size, 1, none⟩ = some (.int .i64 A) := (b3.cell HS.out).trans p1; clear b3 p0 p1 p2 p3)
      | fail)
    go_ret
    exact ⟨rfl, HB0.out.trans (H3.out.mono HB0.out.size)⟩
  rw [if_neg hon] at hr
  have hne : bs.toList.isEmpty = false := by
    rw [← hbs]
    rcases o with _ | _ <;> rcases n with _ | _
    · exact absurd ⟨rfl, rfl⟩ hon
    all_goals kernel_rfl
  obtain ⟨kn, rfl⟩ : ∃ kn : Nat, K = (kn : Nat) := ⟨K.toNat, by omega⟩
  obtain ⟨wb, hwb⟩ : ∃ s, wordB (kn : Nat) = s := ⟨_, rfl⟩
  rw [hwb] at hr
  have HWc := Lib.hid (show w.cell? ⟨0, kn, none⟩ = some (.string wb) by rw [← hwb]; exact HW.out kn (by omega) (by omega))
  have hk0 : (kn : Int) < 6 := by omega
  have hk1 : kn < 6 := by omega
  have hwl : wb.size ≤ 6 := by rw [← hwb]; unfold wordB; repeat' split
                               all_goals decide
  have hbl : bs.size ≤ 5 := by rw [← hbs]; unfold becB; repeat' split
                               all_goals decide
  clear hbs hon hwb
  go_enter Tryd.func28, Tryd.ntmps28
  go_upto_region 4 with (first
      | (go_at_call 57; refine HBc.out.mono ?_; rintro e w3 ⟨rfl, b3⟩; have H3 := Lib.hid b3; have q0 : w3.cell? ⟨w.heap.size, 0, none⟩ = some (.int .i64 kn) := (b3.cell HS.out).trans p0; have q1 : w3.cell? ⟨w.heap.size, 1, none⟩ = some (.int .i64 A) := (b3.cell HS.out).trans p1; clear b3 p0 p1 p2 p3)
      | fail)
  have HQ := Lib.hid (show ∀ w', Below w3.heap.size w3 w' → w'.cell? ⟨w.heap.size, 0, none⟩ = some (.int .i64 kn) ∧ w'.cell? ⟨w.heap.size, 1, none⟩ = some (.int .i64 A) ∧ w'.cell? ⟨0, kn, none⟩ = some (.string wb) from fun w' hb => by
    have hlt := World.block_lt_of_cell? w3 _ q0
    refine ⟨(hb.cell hlt).trans q0, (hb.cell (show (⟨w.heap.size, 1, none⟩ : Addr).block < w3.heap.size from hlt)).trans q1, ?_⟩
    have hz := wtab_size HW.out
    have hz2 := HB0.out.size
    have hz3 := H3.out.size
    rw [hb.cell (show (0 : Nat) < w3.heap.size by omega), H3.out.cell (show (0 : Nat) < _ by omega), HB0.out.cell hz]
    exact HWc.out)
  have HPT3 := Lib.hid (show PTab w3 from (HPT.out.below HB0.out).below H3.out)
  obtain ⟨ds, hds⟩ : ∃ d, (⟨(decDigits (clamp A)).toArray⟩ : ByteArray) = d := ⟨_, rfl⟩
  have hdl : ds.size ≤ 2147483648 := by
    rw [← hds]
    have h1 := dec_len (clamp A)
    have h2 := clamp_le A
    show (decDigits (clamp A)).toArray.size ≤ _
    simp
    omega
  have HT := Lib.hid (text_any A w3.drew (HPT3.out.below (below_dn (Below.refl _ _) 1)))
  rw [hds] at hr HT
  have HSz := Lib.hid (And.intro hwl (And.intro hbl hdl))
  have HDN := Lib.hid (show Below w3.heap.size w3 w3.drew from below_dn (Below.refl _ _) 1)
  have HR := Lib.hid hr
  have HB3 := Lib.hid (show Below w.heap.size w w3 from HB0.out.trans (H3.out.mono HB0.out.size))
  have HK := Lib.hid (And.intro hk0 hk1)
  clear hr q0 q1 hds hdl hwl hbl
  refine wp_region_held_drew (S := fun w' => Below w3.heap.size w3 w') (by kernel_rfl) (below_dn (Below.refl _ _) 1) (fun hS => ?_)
  refine wpAnyH_take (i := 0) (oi := { dst := some 23, op := .fieldAddr 57 (.tmp 1) 0, type := 0, pos := "diff.go:101", after := #[], guard := none }) (v := ?_) rfl (by kernel_rfl) (by kernel_rfl) (by kernel_rfl) (fun _ _ _ h => h) (Or.inl ⟨by rfl, ?_⟩) hS ?_
  rotate_left 1
  · intro w hw; obtain s0 := hw; go_simp; try (with_reducible rfl)
  simp only [Act.put, List.setIfInBounds_toArray, List.set_cons_zero, List.set_cons_succ]
  refine wpAnyH_take (i := 1) (oi := { dst := some 24, op := .load 55 (.tmp 23), type := 55, pos := "diff.go:101", after := #[{ on := 0, ground := .data }], guard := none }) (v := ?_) rfl (by kernel_rfl) (by kernel_rfl) (by kernel_rfl) (fun _ _ _ h => h) (Or.inl ⟨by rfl, ?_⟩) hS ?_
  rotate_left 1
  · intro w hw; obtain s0 := hw; have k0 := (HQ.out _ hw).1; go_simp; try (with_reducible rfl)
  simp only [Act.put, List.setIfInBounds_toArray, List.set_cons_zero, List.set_cons_succ]
  refine wpAnyH_take (i := 2) (oi := { dst := some 25, op := .indexAddr 113 (.global 0) (.tmp 24), type := 0, pos := "diff.go:101", after := #[{ on := 1, ground := .data }], guard := none }) (v := ?_) rfl (by kernel_rfl) (by kernel_rfl) (by kernel_rfl) (fun _ _ _ h => h) (Or.inl ⟨by rfl, ?_⟩) hS ?_
  rotate_left 1
  · intro w hw; obtain s0 := hw; obtain ⟨k0, k1⟩ := HK.out; go_simp; try (with_reducible rfl)
  simp only [Act.put, List.setIfInBounds_toArray, List.set_cons_zero, List.set_cons_succ]
  refine wpAnyH_take (i := 3) (oi := { dst := some 26, op := .load 9 (.tmp 25), type := 9, pos := "diff.go:101", after := #[{ on := 2, ground := .data }], guard := none }) (v := ?_) rfl (by kernel_rfl) (by kernel_rfl) (by kernel_rfl) (fun _ _ _ h => h) (Or.inl ⟨by rfl, ?_⟩) hS ?_
  rotate_left 1
  · intro w hw; obtain s0 := hw; have k0 := (HQ.out _ hw).2.2; go_simp; try (with_reducible rfl)
  simp only [Act.put, List.setIfInBounds_toArray, List.set_cons_zero, List.set_cons_succ]
  refine wpAnyH_take (i := 4) (oi := { dst := some 27, op := .binOp .add 9 (.tmp 26) (.const (.string { data := #[32] })) 9, type := 9, pos := "diff.go:101", after := #[{ on := 3, ground := .data }], guard := none }) (v := ?_) rfl (by kernel_rfl) (by kernel_rfl) (by kernel_rfl) (fun _ _ _ h => h) (Or.inl ⟨by rfl, ?_⟩) hS ?_
  rotate_left 1
  · intro w hw; obtain s0 := hw; go_simp; rw [if_neg (by obtain ⟨k1, k2, k3⟩ := HSz.out; simp; omega)]
  simp only [Act.put, List.setIfInBounds_toArray, List.set_cons_zero, List.set_cons_succ]
  refine wpAnyH_take (i := 5) (oi := { dst := some 28, op := .fieldAddr 57 (.tmp 1) 1, type := 0, pos := "diff.go:101", after := #[], guard := none }) (v := ?_) rfl (by kernel_rfl) (by kernel_rfl) (by kernel_rfl) (fun _ _ _ h => h) (Or.inl ⟨by rfl, ?_⟩) hS ?_
  rotate_left 1
  · intro w hw; obtain s0 := hw; go_simp; try (with_reducible rfl)
  simp only [Act.put, List.setIfInBounds_toArray, List.set_cons_zero, List.set_cons_succ]
  refine wpAnyH_take (i := 6) (oi := { dst := some 29, op := .load 3 (.tmp 28), type := 3, pos := "diff.go:101", after := #[{ on := 5, ground := .data }], guard := none }) (v := ?_) rfl (by kernel_rfl) (by kernel_rfl) (by kernel_rfl) (fun _ _ _ h => h) (Or.inl ⟨by rfl, ?_⟩) hS ?_
  rotate_left 1
  · intro w hw; obtain s0 := hw; have k0 := (HQ.out _ hw).2.1; go_simp; try (with_reducible rfl)
  simp only [Act.put, List.setIfInBounds_toArray, List.set_cons_zero, List.set_cons_succ]
  refine wpAnyH_take (i := 10) (oi := { dst := some 33, op := .move (.tmp 3), type := 9, pos := "diff.go:101", after := #[], guard := none }) (v := ?_) rfl (by kernel_rfl) (by kernel_rfl) (by kernel_rfl) (fun _ _ _ h => h) (Or.inl ⟨by rfl, ?_⟩) hS ?_
  rotate_left 1
  · intro w hw; obtain s0 := hw; go_simp; try (with_reducible rfl)
  simp only [Act.put, List.setIfInBounds_toArray, List.set_cons_zero, List.set_cons_succ]
  refine wpAnyH_ready (rs := [7]) (by kernel_rfl) (by simp) (AllReadyH.cons (o := { dst := some 30, op := .call { callee := .value (.func 58), args := #[.tmp 29], argTypes := #[3] }, type := 9, pos := "diff.go:101", after := #[{ on := 6, ground := .data }], guard := none }) rfl (fun K hK => ?_) AllReadyH.nil)
  go_simp
  go_at_call 58
  refine HT.out.mono ?_
  rintro e w8 ⟨rfl, b8⟩
  have H8 := Lib.hid (show Below w3.heap.size w3 w8 from HDN.out.trans (b8.mono HDN.out.size))
  clear b8
  try dsimp only
  refine hK.out _ _ H8.out (fun hHeld => ?_)
  clear hK K
  try simp only [Act.put, List.setIfInBounds_toArray, List.set_cons_zero, List.set_cons_succ]
  refine wpAnyH_take (i := 8) (oi := { dst := some 31, op := .binOp .add 9 (.tmp 27) (.tmp 30) 9, type := 9, pos := "diff.go:101", after := #[{ on := 4, ground := .data }, { on := 7, ground := .data }], guard := none }) (v := ?_) rfl (by kernel_rfl) (by kernel_rfl) (by kernel_rfl) (fun _ _ _ h => h) (Or.inl ⟨by rfl, ?_⟩) H8.out ?_
  rotate_left 1
  · intro w hw; obtain s0 := hw; go_simp; rw [if_neg (by obtain ⟨k1, k2, k3⟩ := HSz.out; simp; omega)]
  simp only [Act.put, List.setIfInBounds_toArray, List.set_cons_zero, List.set_cons_succ]
  refine wpAnyH_take (i := 9) (oi := { dst := some 32, op := .binOp .add 9 (.tmp 31) (.const (.string { data := #[32] })) 9, type := 9, pos := "diff.go:101", after := #[{ on := 8, ground := .data }], guard := none }) (v := ?_) rfl (by kernel_rfl) (by kernel_rfl) (by kernel_rfl) (fun _ _ _ h => h) (Or.inl ⟨by rfl, ?_⟩) H8.out ?_
  rotate_left 1
  · intro w hw; obtain s0 := hw; go_simp; rw [if_neg (by obtain ⟨k1, k2, k3⟩ := HSz.out; simp; omega)]
  simp only [Act.put, List.setIfInBounds_toArray, List.set_cons_zero, List.set_cons_succ]
  refine wpAnyH_take (i := 11) (oi := { dst := some 34, op := .binOp .add 9 (.tmp 32) (.tmp 33) 9, type := 9, pos := "diff.go:101", after := #[{ on := 9, ground := .data }, { on := 10, ground := .data }], guard := none }) (v := ?_) rfl (by kernel_rfl) (by kernel_rfl) (by kernel_rfl) (fun _ _ _ h => h) (Or.inl ⟨by rfl, ?_⟩) H8.out ?_
  rotate_left 1
  · intro w hw; obtain s0 := hw; go_simp; rw [if_neg (by obtain ⟨k1, k2, k3⟩ := HSz.out; simp; omega)]
  simp only [Act.put, List.setIfInBounds_toArray, List.set_cons_zero, List.set_cons_succ]
  refine wpAnyH_take (i := 12) (oi := { dst := some 2, op := .assign (.tmp 34), type := 9, pos := "diff.go:101", after := #[{ on := 11, ground := .data }, { on := 7, ground := .chain }, { on := 0, ground := .phase }, { on := 1, ground := .phase }, { on := 2, ground := .phase }, { on := 3, ground := .phase }, { on := 4, ground := .phase }, { on := 5, ground := .phase }, { on := 6, ground := .phase }, { on := 7, ground := .phase }, { on := 8, ground := .phase }, { on := 9, ground := .phase }, { on := 10, ground := .phase }, { on := 11, ground := .phase }], guard := none }) (v := ?_) rfl (by kernel_rfl) (by kernel_rfl) (by kernel_rfl) (fun _ _ _ h => h) (Or.inl ⟨by rfl, ?_⟩) H8.out ?_
  rotate_left 1
  · intro w hw; obtain s0 := hw; go_simp; try (with_reducible rfl)
  simp only [Act.put, List.setIfInBounds_toArray, List.set_cons_zero, List.set_cons_succ]
  refine wpAnyH_done (by kernel_rfl) ?_ _

  go_wp2
  go_ret
  exact ⟨by rw [HR.out]; rfl, HB3.out.trans (H8.out.mono HB3.out.size)⟩
end Go.Proofs.YtknkhigmokooaaaDoor
