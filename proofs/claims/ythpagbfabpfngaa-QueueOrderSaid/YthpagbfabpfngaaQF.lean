/- The contract of the law's step. -/
import Derived.Test.YthpagbfabpfngaaQE
namespace Go.Proofs.Ythpagbfabpfngaa
open Go.RowKit

def kd5 (K : Int) : Int := (K.tmod 5 + 5) % 5
/-- What is there behind a call, its error, what it answers, how many were dropped. -/
def stepM (c p : Int) (L : List Int) (K N : Int) (X : List Int) : List Int × Int × Int × Int :=
  if kd5 K = 3 then (if L = [] then ([], 270, 0, 0) else (L.tail, 0, L.headD 0, 0))
  else if kd5 K = 4 then (lastL (L ++ X) c.toNat, 0, ((L ++ X).length : Int) - ((lastL (L ++ X) c.toNat).length : Int), ((L ++ X).length : Int) - ((lastL (L ++ X) c.toNat).length : Int))
  else if (L.length : Int) = c ∧ p = 1 then (L, 271, 0, 0)
  else if (L.length : Int) = c ∧ p = 3 then (L, 0, 0, 1)
  else (lastL (L ++ [N]) c.toNat, 0, 0, ((L ++ [N]).length : Int) - ((lastL (L ++ [N]) c.toNat).length : Int))
/-- What step hands back. -/
def StepR (T : Nat → Prop) (w : World) (r : List Int × Int × Int × Int) (e : Ending) (w' : World) : Prop :=
  ∃ sp' cap', e = .returned (.tuple #[.slice sp' r.1.length cap', .int .i64 r.2.1, .int .i64 r.2.2.1, .int .i64 r.2.2.2]) ∧ SI T w' sp' cap' r.1 ∧ Below w.heap.size w w'
section
variable {T : Nat → Prop} {w : World} {sp spX : Option Addr} {cap capX : Nat} {L X : List Int}
theorem kd5_parts (K : Int) (k : Int) (hk : kd5 K = k) : ∃ x, K.tmod 5 = x ∧ -4 ≤ x ∧ x ≤ 4 ∧ (x + 5) % 5 = k := by
  refine ⟨K.tmod 5, rfl, ?_, ?_, hk⟩
  · have := Int.lt_tmod_of_pos K (show (0 : Int) < 5 by decide); omega
  · have := Int.tmod_lt_of_pos K (show (0 : Int) < 5 by decide); omega
set_option maxHeartbeats 1000000 in
theorem step_none (c p K N : Int) (hk : kd5 K = 3) :
    Calls Try.prog 30 #[.agg #[.int .i64 c, .int .i64 p], .slice sp 0 cap, .agg #[.int .i64 K, .int .i64 N, .slice spX X.length capX]] w fun e w' => e = .returned (.tuple #[.slice sp 0 cap, .int .i64 270, .int .i64 0, .int .i64 0]) ∧ Below w.heap.size w w' := by
  obtain ⟨x, hx, x0, x1, hy⟩ := kd5_parts K 3 hk
  have HB := Lib.hid (show Below w.heap.size w ((w.alloc (.cells #[.int .i64 c, .int .i64 p] 65)).alloc (.cells #[.int .i64 K, .int .i64 N, .slice spX X.length capX] 73)) from ((Below.refl _ _).alloc (Nat.le_refl _) _).alloc (by simp) _)
  clear hk
  go_enter Try.func30, Try.ntmps30
  go_wp2
  exact bodyPost_ret (v := .tuple #[.slice sp 0 cap, .int .i64 270, .int .i64 0, .int .i64 0]) (by simp [results, Try.results30, go_sem]) rfl ⟨rfl, HB.out⟩
set_option maxHeartbeats 4000000 in
set_option maxRecDepth 100000 in
theorem step_some (c p K N : Int) (y : Int) (L' : List Int) (h : SI T w sp cap (y :: L')) (hT : ∀ j, T j → j < w.heap.size) (hL : L'.length ≤ 100) (hk : kd5 K = 3) :
    Calls Try.prog 30 #[.agg #[.int .i64 c, .int .i64 p], .slice sp (L'.length + 1) cap, .agg #[.int .i64 K, .int .i64 N, .slice spX X.length capX]] w fun e w' => ∃ sp' cap', e = .returned (.tuple #[.slice sp' L'.length cap', .int .i64 0, .int .i64 y, .int .i64 0]) ∧ SI T w' sp' cap' L' ∧ Below w.heap.size w w' := by
  obtain ⟨i0, hi, hz0, hz1, hz2⟩ := info_parts infoInt
  obtain ⟨x, hx, x0, x1, hy⟩ := kd5_parts K 3 hk
  obtain ⟨b, o, rfl, hTb⟩ := h.addr (by simp)
  have hcap := h.cap
  simp only [List.length_cons] at hcap
  obtain ⟨w2, hw2⟩ : ∃ w2, w2 = (w.alloc (.cells #[.int .i64 c, .int .i64 p] 65)).alloc (.cells #[.int .i64 K, .int .i64 N, .slice spX X.length capX] 73) := ⟨_, rfl⟩
  have hb2 : Below w.heap.size w w2 := by rw [hw2]; exact ((Below.refl _ _).alloc (Nat.le_refl _) _).alloc (by simp) _
  have hsz := hb2.size
  have h2 := h.new hb2
  have HX2 := Lib.hid (show w2.cell? ⟨w.heap.size + 1, 0, none⟩ = some (.int .i64 K) from by rw [hw2]; simp [go_sem])
  have HC := Lib.hid (show ∀ w', Below w2.heap.size w2 w' → w'.cell? ⟨b, o, none⟩ = some (.int .i64 y) from fun w' hb => by
    have := (h2.new hb).cells 0 b o rfl 0 (.int .i64 y) rfl
    rw [Addr.add_lit] at this
    exact this)
  have HD := Lib.hid (show ∀ w', Below w2.heap.size w2 w' → ∀ ad : Addr, (ad = ⟨b, o + 1, none⟩ ∨ L'.length = 0) → ∀ j u, (rowI L')[j]? = some u → w'.cell? (ad.add j) = some u from fun w' hb ad hd j u hu => by
    rcases hd with rfl | h0
    · exact (h2.new hb).cells 1 b o rfl j u hu
    · have := (rowI_at _ _ _ hu).1; omega)
  have HB2 := Lib.hid (And.intro hb2 hT)
  have HL' := Lib.hid (rowI_len L')
  obtain ⟨n, hn⟩ : ∃ n, n = L'.length := ⟨_, rfl⟩
  have HN := Lib.hid hn
  rw [← hn] at hcap hL ⊢
  have c1 : (1 : Int) ≤ (n : Int) + 1 := by omega
  have c2 : (n : Int) + 1 ≤ (cap : Int) := by omega
  clear hk h h2 hb2 hT hsz hn
  go_enter Try.func30, Try.ntmps30
  go_upto_region 2 with fail
  rw [← hw2]
  have x2 := HX2.out
  clear hw2
  go_upto_region 6 with fail
  have HB3 := Lib.hid (show Below w2.heap.size w2 (w2.alloc (.cells #[] 3)).drew from ((Below.refl _ _).alloc (Nat.le_refl _) _).drew)
  obtain ⟨w3, hw3⟩ : ∃ w3, w3 = (w2.alloc (.cells #[] 3)).drew := ⟨_, rfl⟩
  obtain ⟨z, hz⟩ : ∃ z, z = w2.heap.size := ⟨_, rfl⟩
  have HO := Lib.hid (show w3.ownsRow z 3 1 (.slice (some ⟨z, 0, none⟩) 0 0) 0 [] from by rw [hw3, hz]; exact (own_fresh w2 w2.heap.size 3 1 (Nat.le_refl _)).drew)
  have HZL := Lib.hid (show z ≤ w3.heap.size from by rw [hw3, hz]; exact HB3.out.size)
  have HB3' := Lib.hid (show Below w2.heap.size w2 w3 from by rw [hw3]; exact HB3.out)
  have HLEN := Lib.hid (show (rowI L').length = n * 1 from by rw [HL'.out, HN.out, Nat.mul_one])
  have HEND := Lib.hid (show ∀ v' w4, w4.ownsRow z 3 1 v' (0 + n) ([] ++ rowI L') → w3.grownBy w4 (Value.slice (some ⟨z, 0, none⟩) 0 0).ownBlock → ∃ sp' cap', v' = .slice sp' n cap' ∧ SI T w4 sp' cap' L' ∧ Below w.heap.size w w4 ∧ Below w2.heap.size w2 w4 from fun v' w4 hown hg => by
    rw [Nat.zero_add, List.nil_append] at hown
    obtain ⟨sp', cap', rfl⟩ := own_val hown
    have hb4 : Below w2.heap.size w2 w4 := HB3'.out.trans ((ch_grown hg).below (fun j hj e => by simp [Value.ownBlock] at e; omega) HB3'.out.size)
    have hs2 := HB2.out.1.size
    exact ⟨sp', cap', rfl, SI.of_own hown HN.out (fun j hj => by have := HB2.out.2 j hj; omega), HB2.out.1.trans (hb4.mono hs2), hb4⟩)
  have HW3 := Lib.hid hw3
  have HZ := Lib.hid hz
  clear hw3 hz
  by_cases hc1 : cap = 1
  · subst hc1
    obtain rfl : n = 0 := by omega
    clear hcap c1 c2
    refine wp_region_held_drew (S := fun w' => w'.cell? ⟨b, o, none⟩ = some (.int .i64 y)) (by kernel_rfl) (HC.out _ (Below.refl _ _).drew) (fun hS => ?_)
    refine wpAnyH_take (i := 1) (oi := { dst := some 32, op := .move (.tmp 1), type := 25, pos := "law.go:60", after := #[], guard := none }) (v := ?_) rfl (by kernel_rfl) (by kernel_rfl) (by kernel_rfl) (fun _ _ _ h => h) (Or.inl ⟨by rfl, ?_⟩) hS ?_
    rotate_left 1
    · intro w hw; obtain s0 := hw; go_simp; try (with_reducible rfl)
    simp only [Act.put, List.setIfInBounds_toArray, List.set_cons_zero, List.set_cons_succ]
    refine wpAnyH_take (i := 2) (oi := { dst := some 33, op := .slice 25 (.tmp 32) (some (.const (.int .i64 1))) none none, type := 25, pos := "law.go:60", after := #[{ on := 1, ground := .data }], guard := none }) (v := ?_) rfl (by kernel_rfl) (by kernel_rfl) (by kernel_rfl) (fun _ _ _ h => h) (Or.inl ⟨by rfl, ?_⟩) hS ?_
    rotate_left 1
    · intro w hw; obtain s0 := hw; go_simp; try (with_reducible rfl)
    simp only [Act.put, List.setIfInBounds_toArray, List.set_cons_zero, List.set_cons_succ]
    refine wpAnyH_take (i := 4) (oi := { dst := some 35, op := .move (.tmp 1), type := 25, pos := "law.go:60", after := #[{ on := 8, ground := .gcOnly Go.Departure.lateStores }], guard := none }) (v := ?_) rfl (by kernel_rfl) (by kernel_rfl) (by kernel_rfl) (fun _ _ _ h => h) (Or.inl ⟨by rfl, ?_⟩) hS ?_
    rotate_left 1
    · intro w hw; obtain s0 := hw; go_simp; try (with_reducible rfl)
    simp only [Act.put, List.setIfInBounds_toArray, List.set_cons_zero, List.set_cons_succ]
    refine wpAnyH_take (i := 5) (oi := { dst := some 36, op := .indexAddr 25 (.tmp 35) (.const (.int .i64 0)), type := 0, pos := "law.go:60", after := #[{ on := 4, ground := .data }, { on := 8, ground := .gcOnly Go.Departure.lateStores }], guard := none }) (v := ?_) rfl (by kernel_rfl) (by kernel_rfl) (by kernel_rfl) (fun _ _ _ h => h) (Or.inl ⟨by rfl, ?_⟩) hS ?_
    rotate_left 1
    · intro w hw; obtain s0 := hw; go_simp; try (with_reducible rfl)
    simp only [Act.put, List.setIfInBounds_toArray, List.set_cons_zero, List.set_cons_succ]
    refine wpAnyH_take (i := 6) (oi := { dst := some 37, op := .load 3 (.tmp 36), type := 3, pos := "law.go:60", after := #[{ on := 5, ground := .data }, { on := 8, ground := .gcOnly Go.Departure.lateStores }], guard := none }) (v := ?_) rfl (by kernel_rfl) (by kernel_rfl) (by kernel_rfl) (fun _ _ _ h => h) (Or.inl ⟨by rfl, ?_⟩) hS ?_
    rotate_left 1
    · intro w hw; obtain s0 := hw; go_simp; try (with_reducible rfl)
    simp only [Act.put, List.setIfInBounds_toArray, List.set_cons_zero, List.set_cons_succ]
    refine wpAnyH_ready (rs := [0]) (by kernel_rfl) (by simp) (AllReadyH.cons (o := { dst := some 31, op := .buildSlice 25 0 #[], type := 25, pos := "law.go:60", after := #[], guard := none }) rfl (fun K hK => ?_) AllReadyH.nil)
    go_simp
    refine hK.out _ _ (HC.out _ HB3.out) (fun hHeld => ?_)
    clear hK K
    try simp only [Act.put, List.setIfInBounds_toArray, List.set_cons_zero, List.set_cons_succ]
    rw [← HW3.out, ← HZ.out]
    refine wpAnyH_ready (rs := [3]) (by kernel_rfl) (by simp) (AllReadyH.cons (o := { dst := some 34, op := .call { callee := .builtin .append, args := #[.tmp 31, .tmp 33], argTypes := #[25, 25] }, type := 25, pos := "law.go:60", after := #[{ on := 0, ground := .data }, { on := 2, ground := .data }], guard := none }) rfl (fun K hK => ?_) AllReadyH.nil)
    rw [if_pos (by rfl)]
    refine wp_append_vary (.tmp 31) (.tmp 33) 25 (by rfl) z 3 i0 (.int .i64 0) 1 8 Try.underlying25 hi hz0 hz1 hz2 rfl (by decide) (.slice (some ⟨z, 0, none⟩) 0 0) 0 [] (by rfl) HO.out _ 0 _ (rowI L') (by rfl) HLEN.out (fun h => by cases h) (fun ad hd => HD.out _ HB3'.out ad (by injection hd with hd; exact .inr HN.out.symm)) (rowI_one _) (by unfold maxLen; omega) (by omega) HZL.out ?_
    intro v' w4 hown' hgrow hat
    obtain ⟨sp', cap', rfl, HE⟩ := HEND.out _ _ hown' hgrow
    have HE := Lib.hid HE
    clear hown' hgrow hat
    refine hK.out _ _ (HC.out _ HE.out.2.2) (fun hHeld => ?_)
    clear hK K
    try simp only [Act.put, List.setIfInBounds_toArray, List.set_cons_zero, List.set_cons_succ]
    refine wpAnyH_take (i := 7) (oi := { dst := some 6, op := .assign (.tmp 34), type := 25, pos := "law.go:60", after := #[{ on := 3, ground := .data }, { on := 3, ground := .chain }, { on := 0, ground := .phase }, { on := 1, ground := .phase }, { on := 2, ground := .phase }, { on := 3, ground := .phase }, { on := 4, ground := .textOnly Go.Departure.lateStores }, { on := 5, ground := .textOnly Go.Departure.lateStores }, { on := 6, ground := .textOnly Go.Departure.lateStores }], guard := none }) (v := ?_) rfl (by kernel_rfl) (by kernel_rfl) (by kernel_rfl) (fun _ _ _ h => h) (Or.inl ⟨by rfl, ?_⟩) (HC.out _ HE.out.2.2) ?_
    rotate_left 1
    · intro w hw; obtain s0 := hw; go_simp; try (with_reducible rfl)
    simp only [Act.put, List.setIfInBounds_toArray, List.set_cons_zero, List.set_cons_succ]
    refine wpAnyH_take (i := 8) (oi := { dst := some 7, op := .assign (.const (.int .i64 0)), type := 3, pos := "law.go:60", after := #[{ on := 7, ground := .chain }, { on := 0, ground := .phase }, { on := 1, ground := .phase }, { on := 2, ground := .phase }, { on := 3, ground := .phase }, { on := 4, ground := .textOnly Go.Departure.lateStores }, { on := 5, ground := .textOnly Go.Departure.lateStores }, { on := 6, ground := .textOnly Go.Departure.lateStores }, { on := 7, ground := .phase }], guard := none }) (v := ?_) rfl (by kernel_rfl) (by kernel_rfl) (by kernel_rfl) (fun _ _ _ h => h) (Or.inl ⟨by rfl, ?_⟩) (HC.out _ HE.out.2.2) ?_
    rotate_left 1
    · intro w hw; obtain s0 := hw; go_simp; try (with_reducible rfl)
    simp only [Act.put, List.setIfInBounds_toArray, List.set_cons_zero, List.set_cons_succ]
    refine wpAnyH_take (i := 9) (oi := { dst := some 8, op := .assign (.tmp 37), type := 3, pos := "law.go:60", after := #[{ on := 6, ground := .data }, { on := 8, ground := .chain }, { on := 0, ground := .phase }, { on := 1, ground := .phase }, { on := 2, ground := .phase }, { on := 3, ground := .phase }, { on := 4, ground := .phase }, { on := 5, ground := .phase }, { on := 6, ground := .phase }, { on := 7, ground := .phase }, { on := 8, ground := .phase }], guard := none }) (v := ?_) rfl (by kernel_rfl) (by kernel_rfl) (by kernel_rfl) (fun _ _ _ h => h) (Or.inl ⟨by rfl, ?_⟩) (HC.out _ HE.out.2.2) ?_
    rotate_left 1
    · intro w hw; obtain s0 := hw; go_simp; try (with_reducible rfl)
    simp only [Act.put, List.setIfInBounds_toArray, List.set_cons_zero, List.set_cons_succ]
    refine wpAnyH_take (i := 10) (oi := { dst := some 9, op := .assign (.const (.int .i64 0)), type := 3, pos := "law.go:60", after := #[{ on := 9, ground := .chain }, { on := 0, ground := .phase }, { on := 1, ground := .phase }, { on := 2, ground := .phase }, { on := 3, ground := .phase }, { on := 4, ground := .phase }, { on := 5, ground := .phase }, { on := 6, ground := .phase }, { on := 7, ground := .phase }, { on := 8, ground := .phase }, { on := 9, ground := .phase }], guard := none }) (v := ?_) rfl (by kernel_rfl) (by kernel_rfl) (by kernel_rfl) (fun _ _ _ h => h) (Or.inl ⟨by rfl, ?_⟩) (HC.out _ HE.out.2.2) ?_
    rotate_left 1
    · intro w hw; obtain s0 := hw; go_simp; try (with_reducible rfl)
    simp only [Act.put, List.setIfInBounds_toArray, List.set_cons_zero, List.set_cons_succ]
    refine wpAnyH_done (by kernel_rfl) ?_ _
    go_wp2
    exact bodyPost_ret (v := .tuple #[.slice sp' 0 cap', .int .i64 0, .int .i64 y, .int .i64 0]) (by simp [results, Try.results30, go_sem]) rfl ⟨_, _, rfl, HE.out.1, HE.out.2.1⟩

  · have c3 : ¬ cap = 0 := by omega
    refine wp_region_held_drew (S := fun w' => w'.cell? ⟨b, o, none⟩ = some (.int .i64 y)) (by kernel_rfl) (HC.out _ (Below.refl _ _).drew) (fun hS => ?_)
    refine wpAnyH_take (i := 1) (oi := { dst := some 32, op := .move (.tmp 1), type := 25, pos := "law.go:60", after := #[], guard := none }) (v := ?_) rfl (by kernel_rfl) (by kernel_rfl) (by kernel_rfl) (fun _ _ _ h => h) (Or.inl ⟨by rfl, ?_⟩) hS ?_
    rotate_left 1
    · intro w hw; obtain s0 := hw; go_simp; try (with_reducible rfl)
    simp only [Act.put, List.setIfInBounds_toArray, List.set_cons_zero, List.set_cons_succ]
    refine wpAnyH_take (i := 2) (oi := { dst := some 33, op := .slice 25 (.tmp 32) (some (.const (.int .i64 1))) none none, type := 25, pos := "law.go:60", after := #[{ on := 1, ground := .data }], guard := none }) (v := ?_) rfl (by kernel_rfl) (by kernel_rfl) (by kernel_rfl) (fun _ _ _ h => h) (Or.inl ⟨by rfl, ?_⟩) hS ?_
    rotate_left 1
    · intro w hw; obtain s0 := hw; go_simp; try (with_reducible rfl)
    simp only [Act.put, List.setIfInBounds_toArray, List.set_cons_zero, List.set_cons_succ]
    refine wpAnyH_take (i := 4) (oi := { dst := some 35, op := .move (.tmp 1), type := 25, pos := "law.go:60", after := #[{ on := 8, ground := .gcOnly Go.Departure.lateStores }], guard := none }) (v := ?_) rfl (by kernel_rfl) (by kernel_rfl) (by kernel_rfl) (fun _ _ _ h => h) (Or.inl ⟨by rfl, ?_⟩) hS ?_
    rotate_left 1
    · intro w hw; obtain s0 := hw; go_simp; try (with_reducible rfl)
    simp only [Act.put, List.setIfInBounds_toArray, List.set_cons_zero, List.set_cons_succ]
    refine wpAnyH_take (i := 5) (oi := { dst := some 36, op := .indexAddr 25 (.tmp 35) (.const (.int .i64 0)), type := 0, pos := "law.go:60", after := #[{ on := 4, ground := .data }, { on := 8, ground := .gcOnly Go.Departure.lateStores }], guard := none }) (v := ?_) rfl (by kernel_rfl) (by kernel_rfl) (by kernel_rfl) (fun _ _ _ h => h) (Or.inl ⟨by rfl, ?_⟩) hS ?_
    rotate_left 1
    · intro w hw; obtain s0 := hw; go_simp; try (with_reducible rfl)
    simp only [Act.put, List.setIfInBounds_toArray, List.set_cons_zero, List.set_cons_succ]
    refine wpAnyH_take (i := 6) (oi := { dst := some 37, op := .load 3 (.tmp 36), type := 3, pos := "law.go:60", after := #[{ on := 5, ground := .data }, { on := 8, ground := .gcOnly Go.Departure.lateStores }], guard := none }) (v := ?_) rfl (by kernel_rfl) (by kernel_rfl) (by kernel_rfl) (fun _ _ _ h => h) (Or.inl ⟨by rfl, ?_⟩) hS ?_
    rotate_left 1
    · intro w hw; obtain s0 := hw; go_simp; try (with_reducible rfl)
    simp only [Act.put, List.setIfInBounds_toArray, List.set_cons_zero, List.set_cons_succ]
    refine wpAnyH_ready (rs := [0]) (by kernel_rfl) (by simp) (AllReadyH.cons (o := { dst := some 31, op := .buildSlice 25 0 #[], type := 25, pos := "law.go:60", after := #[], guard := none }) rfl (fun K hK => ?_) AllReadyH.nil)
    go_simp
    refine hK.out _ _ (HC.out _ HB3.out) (fun hHeld => ?_)
    clear hK K
    try simp only [Act.put, List.setIfInBounds_toArray, List.set_cons_zero, List.set_cons_succ]
    rw [← HW3.out, ← HZ.out]
    refine wpAnyH_ready (rs := [3]) (by kernel_rfl) (by simp) (AllReadyH.cons (o := { dst := some 34, op := .call { callee := .builtin .append, args := #[.tmp 31, .tmp 33], argTypes := #[25, 25] }, type := 25, pos := "law.go:60", after := #[{ on := 0, ground := .data }, { on := 2, ground := .data }], guard := none }) rfl (fun K hK => ?_) AllReadyH.nil)
    rw [if_pos (by rfl)]
    refine wp_append_vary (.tmp 31) (.tmp 33) 25 (by rfl) z 3 i0 (.int .i64 0) 1 8 Try.underlying25 hi hz0 hz1 hz2 rfl (by decide) (.slice (some ⟨z, 0, none⟩) 0 0) 0 [] (by rfl) HO.out _ n _ (rowI L') (by rfl) HLEN.out (fun h => by cases h) (fun ad hd => HD.out _ HB3'.out ad (by injection hd with hd; exact .inl hd.symm)) (rowI_one _) (by unfold maxLen; omega) (by omega) HZL.out ?_
    intro v' w4 hown' hgrow hat
    obtain ⟨sp', cap', rfl, HE⟩ := HEND.out _ _ hown' hgrow
    have HE := Lib.hid HE
    clear hown' hgrow hat
    refine hK.out _ _ (HC.out _ HE.out.2.2) (fun hHeld => ?_)
    clear hK K
    try simp only [Act.put, List.setIfInBounds_toArray, List.set_cons_zero, List.set_cons_succ]
    refine wpAnyH_take (i := 7) (oi := { dst := some 6, op := .assign (.tmp 34), type := 25, pos := "law.go:60", after := #[{ on := 3, ground := .data }, { on := 3, ground := .chain }, { on := 0, ground := .phase }, { on := 1, ground := .phase }, { on := 2, ground := .phase }, { on := 3, ground := .phase }, { on := 4, ground := .textOnly Go.Departure.lateStores }, { on := 5, ground := .textOnly Go.Departure.lateStores }, { on := 6, ground := .textOnly Go.Departure.lateStores }], guard := none }) (v := ?_) rfl (by kernel_rfl) (by kernel_rfl) (by kernel_rfl) (fun _ _ _ h => h) (Or.inl ⟨by rfl, ?_⟩) (HC.out _ HE.out.2.2) ?_
    rotate_left 1
    · intro w hw; obtain s0 := hw; go_simp; try (with_reducible rfl)
    simp only [Act.put, List.setIfInBounds_toArray, List.set_cons_zero, List.set_cons_succ]
    refine wpAnyH_take (i := 8) (oi := { dst := some 7, op := .assign (.const (.int .i64 0)), type := 3, pos := "law.go:60", after := #[{ on := 7, ground := .chain }, { on := 0, ground := .phase }, { on := 1, ground := .phase }, { on := 2, ground := .phase }, { on := 3, ground := .phase }, { on := 4, ground := .textOnly Go.Departure.lateStores }, { on := 5, ground := .textOnly Go.Departure.lateStores }, { on := 6, ground := .textOnly Go.Departure.lateStores }, { on := 7, ground := .phase }], guard := none }) (v := ?_) rfl (by kernel_rfl) (by kernel_rfl) (by kernel_rfl) (fun _ _ _ h => h) (Or.inl ⟨by rfl, ?_⟩) (HC.out _ HE.out.2.2) ?_
    rotate_left 1
    · intro w hw; obtain s0 := hw; go_simp; try (with_reducible rfl)
    simp only [Act.put, List.setIfInBounds_toArray, List.set_cons_zero, List.set_cons_succ]
    refine wpAnyH_take (i := 9) (oi := { dst := some 8, op := .assign (.tmp 37), type := 3, pos := "law.go:60", after := #[{ on := 6, ground := .data }, { on := 8, ground := .chain }, { on := 0, ground := .phase }, { on := 1, ground := .phase }, { on := 2, ground := .phase }, { on := 3, ground := .phase }, { on := 4, ground := .phase }, { on := 5, ground := .phase }, { on := 6, ground := .phase }, { on := 7, ground := .phase }, { on := 8, ground := .phase }], guard := none }) (v := ?_) rfl (by kernel_rfl) (by kernel_rfl) (by kernel_rfl) (fun _ _ _ h => h) (Or.inl ⟨by rfl, ?_⟩) (HC.out _ HE.out.2.2) ?_
    rotate_left 1
    · intro w hw; obtain s0 := hw; go_simp; try (with_reducible rfl)
    simp only [Act.put, List.setIfInBounds_toArray, List.set_cons_zero, List.set_cons_succ]
    refine wpAnyH_take (i := 10) (oi := { dst := some 9, op := .assign (.const (.int .i64 0)), type := 3, pos := "law.go:60", after := #[{ on := 9, ground := .chain }, { on := 0, ground := .phase }, { on := 1, ground := .phase }, { on := 2, ground := .phase }, { on := 3, ground := .phase }, { on := 4, ground := .phase }, { on := 5, ground := .phase }, { on := 6, ground := .phase }, { on := 7, ground := .phase }, { on := 8, ground := .phase }, { on := 9, ground := .phase }], guard := none }) (v := ?_) rfl (by kernel_rfl) (by kernel_rfl) (by kernel_rfl) (fun _ _ _ h => h) (Or.inl ⟨by rfl, ?_⟩) (HC.out _ HE.out.2.2) ?_
    rotate_left 1
    · intro w hw; obtain s0 := hw; go_simp; try (with_reducible rfl)
    simp only [Act.put, List.setIfInBounds_toArray, List.set_cons_zero, List.set_cons_succ]
    refine wpAnyH_done (by kernel_rfl) ?_ _
    go_wp2
    exact bodyPost_ret (v := .tuple #[.slice sp' n cap', .int .i64 0, .int .i64 y, .int .i64 0]) (by simp [results, Try.results30, go_sem]) rfl ⟨_, _, rfl, HE.out.1, HE.out.2.1⟩

/-- Facts for the two appends of a row that was just made. -/
structure Apps (T : Nat → Prop) (w w2 w3 : World) (z : Nat) : Prop where
  own : w3.ownsRow z 3 1 (.slice (some ⟨z, 0, none⟩) 0 0) 0 []
  zw : z ≤ w3.heap.size
  b3 : Below w2.heap.size w2 w3
  z2 : z = w2.heap.size
  b2 : Below w.heap.size w w2
  hT : ∀ j, T j → j < w.heap.size
theorem Apps.mk_new {w2 : World} (hb : Below w.heap.size w w2) (hT : ∀ j, T j → j < w.heap.size) : Apps T w w2 (w2.alloc (.cells #[] 3)).drew w2.heap.size :=
  have b3 : Below w2.heap.size w2 (w2.alloc (.cells #[] 3)).drew := ((Below.refl _ _).alloc (Nat.le_refl _) _).drew
  ⟨(own_fresh w2 w2.heap.size 3 1 (Nat.le_refl _)).drew, b3.size, b3, rfl, hb, hT⟩
theorem Apps.next {w2 w3 w4 : World} {z n : Nat} {v v' : Value} {xs : List Value} (h : Apps T w w2 w3 z) (hb : Below w2.heap.size w2 w4) {w5 : World} (hv : ∀ j, v.ownBlock = some j → z ≤ j) (_hown : w5.ownsRow z 3 1 v' n xs) (hg : w4.grownBy w5 v.ownBlock) : Below w2.heap.size w2 w5 ∧ z ≤ w5.heap.size :=
  have hb5 : Below w2.heap.size w2 w5 := hb.trans ((ch_grown hg).below (fun j hj e => by have := hv j e; have := h.z2; omega) hb.size)
  ⟨hb5, by rw [h.z2]; exact hb5.size⟩
theorem Apps.done {w2 w3 w4 : World} {z n cap' : Nat} {sp' : Option Addr} {Y : List Int} (h : Apps T w w2 w3 z) (hb : Below w2.heap.size w2 w4) (hown : w4.ownsRow z 3 1 (.slice sp' n cap') n (rowI Y)) (hn : n = Y.length) : SI T w4 sp' cap' Y ∧ Below w.heap.size w w4 :=
  ⟨SI.of_own hown hn (fun j hj => by have := h.hT j hj; have := h.z2; have := h.b2.size; omega), h.b2.trans (hb.mono h.b2.size)⟩
set_option maxHeartbeats 4000000 in
set_option maxRecDepth 100000 in
theorem step_fill (C : Nat) (p K N : Int) (h : SI T w sp cap L) (hx : SI T w spX capX X) (hT : ∀ j, T j → j < w.heap.size) (hL : L.length ≤ 100) (hX : X.length ≤ 100) (hC : C ≤ 1000) (hk : kd5 K = 4) :
    Calls Try.prog 30 #[.agg #[.int .i64 C, .int .i64 p], .slice sp L.length cap, .agg #[.int .i64 K, .int .i64 N, .slice spX X.length capX]] w
      (StepR T w (lastL (L ++ X) C, 0, ((L ++ X).length : Int) - ((lastL (L ++ X) C).length : Int), ((L ++ X).length : Int) - ((lastL (L ++ X) C).length : Int))) := by
  unfold StepR
  obtain ⟨i0, hi, hz0, hz1, hz2⟩ := info_parts infoInt
  obtain ⟨x, hx', x0, x1, hy⟩ := kd5_parts K 4 hk
  obtain ⟨w2, hw2⟩ : ∃ w2, w2 = (w.alloc (.cells #[.int .i64 C, .int .i64 p] 65)).alloc (.cells #[.int .i64 K, .int .i64 N, .slice spX X.length capX] 73) := ⟨_, rfl⟩
  obtain ⟨y, hyz⟩ : ∃ y, y = w.heap.size := ⟨_, rfl⟩
  have hb2 : Below w.heap.size w w2 := by rw [hw2]; exact ((Below.refl _ _).alloc (Nat.le_refl _) _).alloc (by simp) _
  have z2 : w2.heap.size = y + 2 := by rw [hw2, hyz]; simp
  have HX2 := Lib.hid (show w2.cell? ⟨y + 1, 0, none⟩ = some (.int .i64 K) ∧ w2.cell? ⟨y + 1, 2, none⟩ = some (.slice spX X.length capX) ∧ w2.cell? ⟨y, 0, none⟩ = some (.int .i64 C) from by rw [hw2, hyz]; simp [go_sem])
  have HK := Lib.hid (show ∀ w', Below w2.heap.size w2 w' → w'.cell? ⟨y + 1, 2, none⟩ = some (.slice spX X.length capX) ∧ w'.cell? ⟨y, 0, none⟩ = some (.int .i64 C) ∧ SI T w' sp cap L ∧ SI T w' spX capX X from fun w' hb =>
    ⟨(hb.cell (p := ⟨y + 1, 2, none⟩) (show y + 1 < w2.heap.size by omega)).trans HX2.out.2.1, (hb.cell (p := ⟨y, 0, none⟩) (show y < w2.heap.size by omega)).trans HX2.out.2.2, (h.new hb2).new hb, (hx.new hb2).new hb⟩)
  obtain ⟨w3, hw3⟩ : ∃ w3, w3 = (w2.alloc (.cells #[] 3)).drew := ⟨_, rfl⟩
  have HA := Lib.hid (show Apps T w w2 w3 (y + 2) from by rw [hw3, ← z2]; exact Apps.mk_new hb2 hT)
  have HN := Lib.hid (And.intro h.no (And.intro hx.no (And.intro (rowI_len L) (rowI_len X))))
  obtain ⟨n, hn⟩ : ∃ n, n = L.length := ⟨_, rfl⟩
  obtain ⟨m, hm⟩ : ∃ m, m = X.length := ⟨_, rfl⟩
  have HNM := Lib.hid (And.intro hn hm)
  have HLl := Lib.hid (show (L ++ X).length = n + m from by rw [List.length_append, hn, hm])
  have HT := Lib.hid hT
  have HW2 := Lib.hid hw2
  have HW3 := Lib.hid hw3
  have HY := Lib.hid hyz
  have HZ2 := Lib.hid z2
  rw [HLl.out]
  dsimp only
  rw [← hm] at HX2 HK
  rw [← hn] at hL HN
  rw [← hm] at hX HN
  rw [← hm] at HW2
  rw [← hn, ← hm]
  have hll : (lastL (L ++ X) C).length ≤ 200 := by rw [lastL_len, HLl.out]; omega
  obtain ⟨ln, hln⟩ : ∃ ln, ln = (lastL (L ++ X) C).length := ⟨_, rfl⟩
  rw [← hln] at hll ⊢
  have HLN := Lib.hid hln
  clear hln
  clear hk h hx hb2 hT hn hm hw2 hw3 hyz z2
  go_enter Try.func30, Try.ntmps30
  go_upto_region 2 with fail
  rw [← HW2.out, ← HY.out]
  obtain ⟨k0, k1, k2⟩ := HX2.out
  go_upto_region 8 with fail
  refine wp_region_held_drew (S := fun w' => w'.cell? ⟨y + 1, 2, none⟩ = some (.slice spX m capX)) (by kernel_rfl) (HK.out _ (Below.refl _ _).drew).1 (fun hS => ?_)
  refine wpAnyH_take (i := 1) (oi := { dst := some 41, op := .move (.tmp 1), type := 25, pos := "law.go:62", after := #[], guard := none }) (v := ?_) rfl (by kernel_rfl) (by kernel_rfl) (by kernel_rfl) (fun _ _ _ h => h) (Or.inl ⟨by rfl, ?_⟩) hS ?_
  rotate_left 1
  · intro w hw; obtain s0 := hw; go_simp; try (with_reducible rfl)
  simp only [Act.put, List.setIfInBounds_toArray, List.set_cons_zero, List.set_cons_succ]
  refine wpAnyH_take (i := 3) (oi := { dst := some 43, op := .fieldAddr 73 (.tmp 5) 2, type := 0, pos := "law.go:62", after := #[], guard := none }) (v := ?_) rfl (by kernel_rfl) (by kernel_rfl) (by kernel_rfl) (fun _ _ _ h => h) (Or.inl ⟨by rfl, ?_⟩) hS ?_
  rotate_left 1
  · intro w hw; obtain s0 := hw; go_simp; try (with_reducible rfl)
  simp only [Act.put, List.setIfInBounds_toArray, List.set_cons_zero, List.set_cons_succ]
  refine wpAnyH_take (i := 4) (oi := { dst := some 44, op := .load 25 (.tmp 43), type := 25, pos := "law.go:62", after := #[{ on := 3, ground := .data }], guard := none }) (v := ?_) rfl (by kernel_rfl) (by kernel_rfl) (by kernel_rfl) (fun _ _ _ h => h) (Or.inl ⟨by rfl, ?_⟩) hS ?_
  rotate_left 1
  · intro w hw; obtain s0 := hw; go_simp; try (with_reducible rfl)
  simp only [Act.put, List.setIfInBounds_toArray, List.set_cons_zero, List.set_cons_succ]
  refine wpAnyH_ready (rs := [0]) (by kernel_rfl) (by simp) (AllReadyH.cons (o := { dst := some 40, op := .buildSlice 25 0 #[], type := 25, pos := "law.go:62", after := #[], guard := none }) rfl (fun K hK => ?_) AllReadyH.nil)
  go_simp
  refine hK.out _ _ (HK.out _ ((Below.refl _ _).alloc (Nat.le_refl _) _).drew).1 (fun hHeld => ?_)
  clear hK K
  try simp only [Act.put, List.setIfInBounds_toArray, List.set_cons_zero, List.set_cons_succ]
  rw [← HW3.out, HZ2.out]
  refine wpAnyH_ready (rs := [2]) (by kernel_rfl) (by simp) (AllReadyH.cons (o := { dst := some 42, op := .call { callee := .builtin .append, args := #[.tmp 40, .tmp 41], argTypes := #[25, 25] }, type := 25, pos := "law.go:62", after := #[{ on := 0, ground := .data }, { on := 1, ground := .data }], guard := none }) rfl (fun K hK => ?_) AllReadyH.nil)
  rw [if_pos (by rfl)]
  refine wp_append_vary (.tmp 40) (.tmp 41) 25 (by rfl) (y + 2) 3 i0 (.int .i64 0) 1 8 Try.underlying25 hi hz0 hz1 hz2 rfl (by decide) (.slice (some ⟨y + 2, 0, none⟩) 0 0) 0 [] (by rfl) HA.out.own _ n _ (rowI L) (by rfl) (by rw [HN.out.2.2.1]; exact (Nat.mul_one _).symm) HN.out.1 (HK.out _ HA.out.b3).2.2.1.src (rowI_one _) (by unfold maxLen; omega) (by omega) HA.out.zw ?_
  intro v4 w4 hown hgrow hat
  rw [Nat.zero_add, List.nil_append] at hown
  obtain ⟨sp4, cap4, rfl⟩ := own_val hown
  have H4 := Lib.hid (And.intro hown (HA.out.next HA.out.b3 (fun j e => by simp [Value.ownBlock] at e; omega) hown hgrow))
  clear hown hgrow hat
  refine hK.out _ _ (HK.out _ H4.out.2.1).1 (fun hHeld => ?_)
  clear hK K
  try simp only [Act.put, List.setIfInBounds_toArray, List.set_cons_zero, List.set_cons_succ]
  refine wpAnyH_ready (rs := [5]) (by kernel_rfl) (by simp) (AllReadyH.cons (o := { dst := some 45, op := .call { callee := .builtin .append, args := #[.tmp 42, .tmp 44], argTypes := #[25, 25] }, type := 25, pos := "law.go:62", after := #[{ on := 2, ground := .data }, { on := 4, ground := .data }, { on := 2, ground := .chain }], guard := none }) rfl (fun K hK => ?_) AllReadyH.nil)
  rw [if_pos (by rfl)]
  refine wp_append_vary (.tmp 42) (.tmp 44) 25 (by rfl) (y + 2) 3 i0 (.int .i64 0) 1 8 Try.underlying25 hi hz0 hz1 hz2 rfl (by decide) (.slice sp4 n cap4) n (rowI L) (by rfl) H4.out.1 _ m _ (rowI X) (by rfl) (by rw [HN.out.2.2.2]; exact (Nat.mul_one _).symm) HN.out.2.1 (HK.out _ H4.out.2.1).2.2.2.src (rowI_one _) (by unfold maxLen; omega) (by omega) H4.out.2.2 ?_
  intro v5 w5 hown hgrow hat
  have hown' : w5.ownsRow (y + 2) 3 1 v5 (n + m) (rowI (L ++ X)) := by rw [show rowI (L ++ X) = rowI L ++ rowI X by simp [rowI]]; exact hown
  obtain ⟨sp5, cap5, rfl⟩ := own_val hown
  have hb5 := HA.out.next H4.out.2.1 (fun j e => own_ge H4.out.1 j e) hown hgrow
  have H5 := Lib.hid (And.intro (HA.out.done hb5.1 hown' HLl.out.symm) hb5)
  clear hown hown' hgrow hat hb5
  refine hK.out _ _ (HK.out _ H5.out.2.1).1 (fun hHeld => ?_)
  clear hK K
  try simp only [Act.put, List.setIfInBounds_toArray, List.set_cons_zero, List.set_cons_succ]
  refine wpAnyH_take (i := 6) (oi := { dst := some 11, op := .assign (.tmp 45), type := 25, pos := "law.go:62", after := #[{ on := 5, ground := .data }, { on := 5, ground := .chain }, { on := 0, ground := .phase }, { on := 1, ground := .phase }, { on := 2, ground := .phase }, { on := 3, ground := .phase }, { on := 4, ground := .phase }, { on := 5, ground := .phase }], guard := none }) (v := ?_) rfl (by kernel_rfl) (by kernel_rfl) (by kernel_rfl) (fun _ _ _ h => h) (Or.inl ⟨by rfl, ?_⟩) (HK.out _ H5.out.2.1).1 ?_
  rotate_left 1
  · intro w hw; obtain s0 := hw; go_simp; try (with_reducible rfl)
  simp only [Act.put, List.setIfInBounds_toArray, List.set_cons_zero, List.set_cons_succ]
  refine wpAnyH_done (by kernel_rfl) ?_ _

  have c5 := (HK.out _ H5.out.2.1).2.1
  have HLA := Lib.hid (show Calls Try.prog 39 #[.slice sp5 (n + m) cap5, .int .i64 (C : Nat)] w5 fun e w' => ∃ sp' cap', e = .returned (.slice sp' (lastL (L ++ X) C).length cap') ∧ SI T w' sp' cap' (lastL (L ++ X) C) ∧ Below w5.heap.size w5 w' from by
    have := last_any H5.out.1.1 (fun j hj => Nat.lt_of_lt_of_le (HT.out j hj) H5.out.1.2.size) (by rw [HLl.out]; omega) C hC
    rwa [HLl.out] at this)
  rw [← HLN.out] at HLA
  go_wp2_with (go_at_call 39; refine HLA.out.mono ?_; rintro e w6 ⟨sp6, cap6, rfl, hs6, hb6⟩; have H6 := Lib.hid (And.intro hs6 (H5.out.1.2.trans (hb6.mono H5.out.1.2.size))); clear hs6 hb6)
  exact bodyPost_ret (v := .tuple #[.slice sp6 ln cap6, .int .i64 0, .int .i64 (((n + m : Nat) : Int) - (ln : Int)), .int .i64 (((n + m : Nat) : Int) - (ln : Int))]) (by simp [results, Try.results30, go_sem]) rfl ⟨_, _, rfl, H6.out.1, H6.out.2⟩
set_option maxHeartbeats 2000000 in
set_option maxRecDepth 100000 in
theorem step_same (C : Nat) (p K N : Int) (h : SI T w sp cap L) (hk3 : kd5 K ≠ 3) (hk4 : kd5 K ≠ 4) (hC : L.length = C) (hp : p = 1 ∨ p = 3) :
    Calls Try.prog 30 #[.agg #[.int .i64 C, .int .i64 p], .slice sp L.length cap, .agg #[.int .i64 K, .int .i64 N, .slice spX X.length capX]] w
      (StepR T w (L, if p = 1 then 271 else 0, 0, if p = 1 then 0 else 1)) := by
  unfold StepR
  obtain ⟨x, hx', x0, x1, hy⟩ := kd5_parts K _ rfl
  obtain ⟨k, hkk⟩ : ∃ k, kd5 K = k := ⟨_, rfl⟩
  rw [hkk] at hk3 hk4 hy
  have HB := Lib.hid (show Below w.heap.size w ((w.alloc (.cells #[.int .i64 C, .int .i64 p] 65)).alloc (.cells #[.int .i64 K, .int .i64 N, .slice spX X.length capX] 73)) from ((Below.refl _ _).alloc (Nat.le_refl _) _).alloc (by simp) _)
  have HS := Lib.hid (h.new HB.out)
  clear hkk h
  rw [hC]
  have HC := Lib.hid hC
  clear hC
  rcases hp with rfl | rfl
  · go_enter Try.func30, Try.ntmps30
    go_wp2
    exact bodyPost_ret (v := .tuple #[.slice sp C cap, .int .i64 271, .int .i64 0, .int .i64 0]) (by simp [results, Try.results30, go_sem]) rfl ⟨_, _, by simp, HS.out, HB.out⟩
  · go_enter Try.func30, Try.ntmps30
    go_wp2
    exact bodyPost_ret (v := .tuple #[.slice sp C cap, .int .i64 0, .int .i64 0, .int .i64 1]) (by simp [results, Try.results30, go_sem]) rfl ⟨_, _, by simp, HS.out, HB.out⟩
end
end Go.Proofs.Ythpagbfabpfngaa
