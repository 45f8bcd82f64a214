/- The contract of the law's step: a message that is sent; and all of step. -/
import Derived.Test.YthpagbfabpfngaaQF
namespace Go.Proofs.Ythpagbfabpfngaa
open Go.RowKit

/-- A row of the call's own is there. -/
structure PuA (w2 w' : World) (v : Value) (k : Nat) (xs : List Value) : Prop where
  own : w'.ownsRow w2.heap.size 3 1 v k xs
  be : Below w2.heap.size w2 w'
/-- An element in a block of its own is there. -/
structure PuE (w2 w' : World) (N : Int) (e : Nat) : Prop where
  cell : w'.cell? ⟨e, 0, none⟩ = some (.int .i64 N)
  be : Below w2.heap.size w2 w'
  ge : w2.heap.size ≤ e
structure PuB (w2 w' : World) (v : Value) (k : Nat) (xs : List Value) (N : Int) (e : Nat) : Prop where
  a : PuA w2 w' v k xs
  el : PuE w2 w' N e
  ne : ∀ j, v.ownBlock = some j → j ≠ e
section
variable {w2 w' : World} {v : Value} {k e : Nat} {xs : List Value} {N : Int}
theorem PuE.lt (h : PuE w2 w' N e) : e < w'.heap.size := by have := World.block_lt_of_cell? w' _ h.cell; simpa using this
theorem PuA.first (w2 : World) : PuA w2 (w2.alloc (.cells #[] 3)).drew (.slice (some ⟨w2.heap.size, 0, none⟩) 0 0) 0 [] :=
  ⟨(own_fresh w2 w2.heap.size 3 1 (Nat.le_refl _)).drew, ((Below.refl _ _).alloc (Nat.le_refl _) _).drew⟩
theorem PuE.first (w2 : World) (N : Int) : PuE w2 (w2.alloc (.cells #[.int .i64 N] 3)).drew N w2.heap.size :=
  ⟨cell_one_new w2 _ _ 0 _ rfl, ((Below.refl _ _).alloc (Nat.le_refl _) _).drew, Nat.le_refl _⟩
theorem PuA.elt (h : PuA w2 w' v k xs) (N : Int) : PuB w2 (w'.alloc (.cells #[.int .i64 N] 3)) v k xs N w'.heap.size :=
  ⟨⟨h.own.alloc _, h.be.alloc h.be.size _⟩, ⟨cell_one_new w' _ _ 0 _ rfl, h.be.alloc h.be.size _, h.be.size⟩, fun j hj => by have := (h.own.lt j hj).2; omega⟩
theorem PuE.row (h : PuE w2 w' N e) : PuB w2 (w'.alloc (.cells #[] 3)) (.slice (some ⟨w'.heap.size, 0, none⟩) 0 0) 0 [] N e :=
  ⟨⟨own_fresh w' _ 3 1 h.be.size, h.be.alloc h.be.size _⟩, ⟨(World.cell?_alloc_old w' _ _ (Nat.ne_of_lt h.lt)).trans h.cell, h.be.alloc h.be.size _, h.ge⟩, fun j hj => by simp [Value.ownBlock] at hj; have := h.lt; omega⟩
theorem PuA.app {w5 : World} {v' : Value} {n : Nat} {ys : List Value} (h : PuA w2 w' v k xs) (hown : w5.ownsRow w2.heap.size 3 1 v' n ys) (hg : w'.grownBy w5 v.ownBlock) : PuA w2 w5 v' n ys :=
  ⟨hown, h.be.trans ((ch_grown hg).below (fun j hj e => by have := own_ge h.own j e; omega) h.be.size)⟩
theorem PuB.app {w5 : World} {v' : Value} {n : Nat} {ys : List Value} (h : PuB w2 w' v k xs N e) (hown : w5.ownsRow w2.heap.size 3 1 v' n ys) (hg : w'.grownBy w5 v.ownBlock) (hat : v'.ownBlock = v.ownBlock ∨ v'.ownBlock = some w'.heap.size) : PuB w2 w5 v' n ys N e :=
  have ha := h.a.app hown hg
  ⟨ha, ⟨(ch_grown hg).cell h.el.cell (fun e => h.ne _ e rfl), ha.be, h.el.ge⟩, fun j hj => by
    rcases hat with e1 | e1
    · exact h.ne j (by rw [← e1]; exact hj)
    · rw [e1] at hj; injection hj with hj; have := h.el.lt; omega⟩
theorem PuE.src (h : PuE w2 w' N e) : ∀ ad, (some (⟨e, 0, none⟩ : Addr)) = some ad → ∀ j u, (rowI [N])[j]? = some u → w'.cell? (ad.add j) = some u := by
  intro ad ha j u hu
  injection ha with ha
  subst ha
  obtain ⟨hj, rfl⟩ := rowI_at _ _ _ hu
  obtain rfl : j = 0 := by simp at hj; omega
  exact h.cell
end
section
variable {T : Nat → Prop} {w : World} {sp spX : Option Addr} {cap capX : Nat} {L X : List Int}
set_option maxHeartbeats 8000000 in
set_option maxRecDepth 100000 in
theorem step_send (C : Nat) (p K N : Int) (h : SI T w sp cap L) (hT : ∀ j, T j → j < w.heap.size) (hL : L.length ≤ 100) (hC : C ≤ 1000) (hk3 : kd5 K ≠ 3) (hk4 : kd5 K ≠ 4) (hno : ¬ (L.length = C ∧ (p = 1 ∨ p = 3))) :
    Calls Try.prog 30 #[.agg #[.int .i64 C, .int .i64 p], .slice sp L.length cap, .agg #[.int .i64 K, .int .i64 N, .slice spX X.length capX]] w
      (StepR T w (lastL (L ++ [N]) C, 0, 0, ((L ++ [N]).length : Int) - ((lastL (L ++ [N]) C).length : Int))) := by
  unfold StepR
  obtain ⟨i0, hi, hz0, hz1, hz2⟩ := info_parts infoInt
  obtain ⟨x, hx', x0, x1, hy⟩ := kd5_parts K _ rfl
  obtain ⟨k, hkk⟩ : ∃ k, kd5 K = k := ⟨_, rfl⟩
  rw [hkk] at hk3 hk4 hy
  obtain ⟨w2, hw2⟩ : ∃ w2, w2 = (w.alloc (.cells #[.int .i64 C, .int .i64 p] 65)).alloc (.cells #[.int .i64 K, .int .i64 N, .slice spX X.length capX] 73) := ⟨_, rfl⟩
  obtain ⟨y, hyz⟩ : ∃ y, y = w.heap.size := ⟨_, rfl⟩
  have hb2 : Below w.heap.size w w2 := by rw [hw2]; exact ((Below.refl _ _).alloc (Nat.le_refl _) _).alloc (by simp) _
  have z2 : w2.heap.size = y + 2 := by rw [hw2, hyz]; simp
  have HX2 := Lib.hid (show w2.cell? ⟨y + 1, 0, none⟩ = some (.int .i64 K) ∧ w2.cell? ⟨y + 1, 1, none⟩ = some (.int .i64 N) ∧ w2.cell? ⟨y, 0, none⟩ = some (.int .i64 C) ∧ w2.cell? ⟨y, 1, none⟩ = some (.int .i64 p) from by rw [hw2, hyz]; simp [go_sem])
  have HK := Lib.hid (show ∀ w', Below w2.heap.size w2 w' → w'.cell? ⟨y + 1, 1, none⟩ = some (.int .i64 N) ∧ w'.cell? ⟨y, 0, none⟩ = some (.int .i64 C) ∧ SI T w' sp cap L from fun w' hb =>
    ⟨(hb.cell (p := ⟨y + 1, 1, none⟩) (show y + 1 < w2.heap.size by omega)).trans HX2.out.2.1, (hb.cell (p := ⟨y, 0, none⟩) (show y < w2.heap.size by omega)).trans HX2.out.2.2.1, (h.new hb2).new hb⟩)
  have HB2 := Lib.hid hb2
  have HS := Lib.hid (And.intro h.no (rowI_len L))
  obtain ⟨n, hn⟩ : ∃ n, n = L.length := ⟨_, rfl⟩
  have HNn := Lib.hid hn
  have HLl := Lib.hid (show (L ++ [N]).length = n + 1 from by rw [List.length_append, hn]; rfl)
  have HT := Lib.hid (show ∀ j, T j → j < w2.heap.size from fun j hj => Nat.lt_of_lt_of_le (hT j hj) hb2.size)
  have HW2 := Lib.hid hw2
  have HY := Lib.hid hyz
  have HZ2 := Lib.hid z2
  rw [HLl.out]
  dsimp only
  rw [← hn] at hL HS hno ⊢
  have hll : (lastL (L ++ [N]) C).length ≤ 200 := by rw [lastL_len, HLl.out]; omega
  obtain ⟨ln, hln⟩ : ∃ ln, ln = (lastL (L ++ [N]) C).length := ⟨_, rfl⟩
  rw [← hln] at hll ⊢
  have HLN := Lib.hid hln
  have hp1 : ((n : Int) == (C : Int)) = false ∨ (((n : Int) == (C : Int)) = true ∧ p ≠ 1 ∧ p ≠ 3) := by
    by_cases e : n = C
    · exact .inr ⟨by simp [e], fun h => hno ⟨e, .inl h⟩, fun h => hno ⟨e, .inr h⟩⟩
    · exact .inl (by simp; omega)
  clear hln hkk h hb2 hT hn hw2 hyz z2 hno
  rcases hp1 with hp1 | ⟨hp1, hp2, hp3⟩
  all_goals
    go_enter Try.func30, Try.ntmps30
    go_upto_region 2 with fail
    rw [← HW2.out, ← HY.out]
    obtain ⟨k0, k1, k2, k3⟩ := HX2.out
    go_upto_region 15 with fail
    refine wp_region_held_drew (S := fun w' => w'.cell? ⟨y + 1, 1, none⟩ = some (.int .i64 N)) (by kernel_rfl) (HK.out _ (Below.refl _ _).drew).1 (fun hS => ?_)
    refine wpAnyH_take (i := 1) (oi := { dst := some 76, op := .move (.tmp 1), type := 25, pos := "law.go:72", after := #[], guard := none }) (v := ?_) rfl (by kernel_rfl) (by kernel_rfl) (by kernel_rfl) (fun _ _ _ h => h) (Or.inl ⟨by rfl, ?_⟩) hS ?_
    rotate_left 1
    · intro w hw; obtain s0 := hw; go_simp; try (with_reducible rfl)
    simp only [Act.put, List.setIfInBounds_toArray, List.set_cons_zero, List.set_cons_succ]
    refine wpAnyH_take (i := 3) (oi := { dst := some 78, op := .fieldAddr 73 (.tmp 5) 1, type := 0, pos := "law.go:72", after := #[], guard := none }) (v := ?_) rfl (by kernel_rfl) (by kernel_rfl) (by kernel_rfl) (fun _ _ _ h => h) (Or.inl ⟨by rfl, ?_⟩) hS ?_
    rotate_left 1
    · intro w hw; obtain s0 := hw; go_simp; try (with_reducible rfl)
    simp only [Act.put, List.setIfInBounds_toArray, List.set_cons_zero, List.set_cons_succ]
    refine wpAnyH_take (i := 4) (oi := { dst := some 79, op := .load 3 (.tmp 78), type := 3, pos := "law.go:72", after := #[{ on := 3, ground := .data }], guard := none }) (v := ?_) rfl (by kernel_rfl) (by kernel_rfl) (by kernel_rfl) (fun _ _ _ h => h) (Or.inl ⟨by rfl, ?_⟩) hS ?_
    rotate_left 1
    · intro w hw; obtain s0 := hw; go_simp; try (with_reducible rfl)
    simp only [Act.put, List.setIfInBounds_toArray, List.set_cons_zero, List.set_cons_succ]
    refine wpAnyH_ready (rs := [0, 5]) (by kernel_rfl) (by simp) (AllReadyH.cons (o := { dst := some 75, op := .buildSlice 25 0 #[], type := 25, pos := "law.go:72", after := #[], guard := none }) rfl (fun K hK => ?_) (AllReadyH.cons (o := { dst := some 80, op := .buildSlice 25 1 #[(0, .tmp 79)], type := 25, pos := "law.go:72", after := #[{ on := 4, ground := .data }], guard := none }) rfl (fun K hK => ?_) AllReadyH.nil))
    · go_simp
      refine hK.out _ _ (HK.out _ (PuA.first w2).be).1 (fun hHeld => ?_)
      clear hK K
      try simp only [Act.put, List.setIfInBounds_toArray, List.set_cons_zero, List.set_cons_succ]
      obtain ⟨u1, hu1⟩ : ∃ u, u = (w2.alloc (.cells #[] 3)).drew := ⟨_, rfl⟩
      obtain ⟨z1, hz1⟩ : ∃ z, z = w2.heap.size := ⟨_, rfl⟩
      have F1 := Lib.hid (show PuA w2 u1 (.slice (some ⟨z1, 0, none⟩) 0 0) 0 [] from by rw [hu1, hz1]; exact PuA.first w2)
      rw [← hu1, ← hz1]
      clear hu1 hz1
      refine wpAnyH_ready (rs := [2, 5]) (by kernel_rfl) (by simp) (AllReadyH.cons (o := { dst := some 77, op := .call { callee := .builtin .append, args := #[.tmp 75, .tmp 76], argTypes := #[25, 25] }, type := 25, pos := "law.go:72", after := #[{ on := 0, ground := .data }, { on := 1, ground := .data }], guard := none }) rfl (fun K hK => ?_) (AllReadyH.cons (o := { dst := some 80, op := .buildSlice 25 1 #[(0, .tmp 79)], type := 25, pos := "law.go:72", after := #[{ on := 4, ground := .data }], guard := none }) rfl (fun K hK => ?_) AllReadyH.nil))
      · rw [if_pos (by rfl)]
        refine wp_append_vary (.tmp 75) (.tmp 76) 25 (by rfl) w2.heap.size 3 i0 (.int .i64 0) 1 8 Try.underlying25 hi hz0 hz1 hz2 rfl (by decide) (.slice (some ⟨z1, 0, none⟩) 0 0) 0 [] (by rfl) F1.out.own _ n _ (rowI L) (by rfl) (by rw [HS.out.2]; exact (Nat.mul_one _).symm) HS.out.1 (HK.out _ F1.out.be).2.2.src (rowI_one _) (by unfold maxLen; omega) (by omega) F1.out.be.size ?_
        intro v2 u2 hown hgrow hat
        rw [Nat.zero_add, List.nil_append] at hown
        obtain ⟨sp2, cap2, rfl⟩ := own_val hown
        have F2 := Lib.hid (F1.out.app hown hgrow)
        clear hown hgrow hat
        refine hK.out _ _ (HK.out _ F2.out.be).1 (fun hHeld => ?_)
        clear hK K
        try simp only [Act.put, List.setIfInBounds_toArray, List.set_cons_zero, List.set_cons_succ]
        refine wpAnyH_ready (rs := [5]) (by kernel_rfl) (by simp) (AllReadyH.cons (o := { dst := some 80, op := .buildSlice 25 1 #[(0, .tmp 79)], type := 25, pos := "law.go:72", after := #[{ on := 4, ground := .data }], guard := none }) rfl (fun K hK => ?_) AllReadyH.nil)
        go_simp
        refine hK.out _ _ (HK.out _ (F2.out.elt N).a.be).1 (fun hHeld => ?_)
        clear hK K
        try simp only [Act.put, List.setIfInBounds_toArray, List.set_cons_zero, List.set_cons_succ]
        obtain ⟨u3, hu3⟩ : ∃ u, u = u2.alloc (.cells #[.int .i64 N] 3) := ⟨_, rfl⟩
        obtain ⟨z3, hz3⟩ : ∃ z, z = u2.heap.size := ⟨_, rfl⟩
        have F3 := Lib.hid (show PuB w2 u3 (.slice sp2 n cap2) n (rowI L) N z3 from by rw [hu3, hz3]; exact F2.out.elt N)
        rw [← hu3, ← hz3]
        clear hu3 hz3
        refine wpAnyH_ready (rs := [6]) (by kernel_rfl) (by simp) (AllReadyH.cons (o := { dst := some 81, op := .call { callee := .builtin .append, args := #[.tmp 77, .tmp 80], argTypes := #[25, 25] }, type := 25, pos := "law.go:72", after := #[{ on := 2, ground := .data }, { on := 5, ground := .data }, { on := 2, ground := .chain }], guard := none }) rfl (fun K hK => ?_) AllReadyH.nil)
        rw [if_pos (by rfl)]
        refine wp_append_vary (.tmp 77) (.tmp 80) 25 (by rfl) w2.heap.size 3 i0 (.int .i64 0) 1 8 Try.underlying25 hi hz0 hz1 hz2 rfl (by decide) (.slice sp2 n cap2) n (rowI L) (by rfl) F3.out.a.own _ 1 _ (rowI [N]) (by rfl) (by rfl) (fun h => by cases h) F3.out.el.src (rowI_one _) (by unfold maxLen; omega) (by omega) F3.out.a.be.size ?_
        intro v5 w5 hown hgrow hat
        have h5 := F3.out.app hown hgrow hat
        obtain ⟨sp5, cap5, rfl⟩ := own_val hown
        have H5 := Lib.hid (And.intro (SI.of_own (L := L ++ [N]) (by rw [show rowI (L ++ [N]) = rowI L ++ rowI [N] by simp [rowI]]; exact hown) HLl.out.symm HT.out) h5.a.be)
        clear hown hgrow hat h5
        refine hK.out _ _ (HK.out _ H5.out.2).1 (fun hHeld => ?_)
        clear hK K
        try simp only [Act.put, List.setIfInBounds_toArray, List.set_cons_zero, List.set_cons_succ]
        refine wpAnyH_take (i := 7) (oi := { dst := some 13, op := .assign (.tmp 81), type := 25, pos := "law.go:72", after := #[{ on := 6, ground := .data }, { on := 6, ground := .chain }, { on := 0, ground := .phase }, { on := 1, ground := .phase }, { on := 2, ground := .phase }, { on := 3, ground := .phase }, { on := 4, ground := .phase }, { on := 5, ground := .phase }, { on := 6, ground := .phase }], guard := none }) (v := ?_) rfl (by kernel_rfl) (by kernel_rfl) (by kernel_rfl) (fun _ _ _ h => h) (Or.inl ⟨by rfl, ?_⟩) (HK.out _ H5.out.2).1 ?_
        rotate_left 1
        · intro w hw; obtain s0 := hw; go_simp; try (with_reducible rfl)
        simp only [Act.put, List.setIfInBounds_toArray, List.set_cons_zero, List.set_cons_succ]
        refine wpAnyH_done (by kernel_rfl) ?_ _
        have c5 := (HK.out _ H5.out.2).2.1
        have HLA := Lib.hid (show Calls Try.prog 39 #[.slice sp5 (n + 1) cap5, .int .i64 (C : Nat)] w5 fun e w' => ∃ sp' cap', e = .returned (.slice sp' (lastL (L ++ [N]) C).length cap') ∧ SI T w' sp' cap' (lastL (L ++ [N]) C) ∧ Below w5.heap.size w5 w' from by
          have := last_any H5.out.1 (fun j hj => Nat.lt_of_lt_of_le (HT.out j hj) H5.out.2.size) (by rw [HLl.out]; omega) C hC
          rwa [HLl.out] at this)
        rw [← HLN.out] at HLA
        go_wp2_with (go_at_call 39; refine HLA.out.mono ?_; rintro e w6 ⟨sp6, cap6, rfl, hs6, hb6⟩; have H6 := Lib.hid (And.intro hs6 (HB2.out.trans ((H5.out.2.trans (hb6.mono H5.out.2.size)).mono HB2.out.size))); clear hs6 hb6)
        exact bodyPost_ret (v := .tuple #[.slice sp6 ln cap6, .int .i64 0, .int .i64 0, .int .i64 (((n + 1 : Nat) : Int) - (ln : Int))]) (by simp [results, Try.results30, go_sem]) rfl ⟨_, _, rfl, H6.out.1, H6.out.2⟩
      · go_simp
        refine hK.out _ _ (HK.out _ (F1.out.elt N).a.be).1 (fun hHeld => ?_)
        clear hK K
        try simp only [Act.put, List.setIfInBounds_toArray, List.set_cons_zero, List.set_cons_succ]
        obtain ⟨u5, hu5⟩ : ∃ u, u = u1.alloc (.cells #[.int .i64 N] 3) := ⟨_, rfl⟩
        obtain ⟨z5, hz5⟩ : ∃ z, z = u1.heap.size := ⟨_, rfl⟩
        have F5 := Lib.hid (show PuB w2 u5 (.slice (some ⟨z1, 0, none⟩) 0 0) 0 [] N z5 from by rw [hu5, hz5]; exact F1.out.elt N)
        rw [← hu5, ← hz5]
        clear hu5 hz5
        refine wpAnyH_ready (rs := [2]) (by kernel_rfl) (by simp) (AllReadyH.cons (o := { dst := some 77, op := .call { callee := .builtin .append, args := #[.tmp 75, .tmp 76], argTypes := #[25, 25] }, type := 25, pos := "law.go:72", after := #[{ on := 0, ground := .data }, { on := 1, ground := .data }], guard := none }) rfl (fun K hK => ?_) AllReadyH.nil)
        rw [if_pos (by rfl)]
        refine wp_append_vary (.tmp 75) (.tmp 76) 25 (by rfl) w2.heap.size 3 i0 (.int .i64 0) 1 8 Try.underlying25 hi hz0 hz1 hz2 rfl (by decide) (.slice (some ⟨z1, 0, none⟩) 0 0) 0 [] (by rfl) F5.out.a.own _ n _ (rowI L) (by rfl) (by rw [HS.out.2]; exact (Nat.mul_one _).symm) HS.out.1 (HK.out _ F5.out.a.be).2.2.src (rowI_one _) (by unfold maxLen; omega) (by omega) F5.out.a.be.size ?_
        intro v6 u6 hown hgrow hat
        rw [Nat.zero_add, List.nil_append] at hown
        obtain ⟨sp6, cap6, rfl⟩ := own_val hown
        have F6 := Lib.hid (F5.out.app hown hgrow hat)
        clear hown hgrow hat
        refine hK.out _ _ (HK.out _ F6.out.a.be).1 (fun hHeld => ?_)
        clear hK K
        try simp only [Act.put, List.setIfInBounds_toArray, List.set_cons_zero, List.set_cons_succ]
        refine wpAnyH_ready (rs := [6]) (by kernel_rfl) (by simp) (AllReadyH.cons (o := { dst := some 81, op := .call { callee := .builtin .append, args := #[.tmp 77, .tmp 80], argTypes := #[25, 25] }, type := 25, pos := "law.go:72", after := #[{ on := 2, ground := .data }, { on := 5, ground := .data }, { on := 2, ground := .chain }], guard := none }) rfl (fun K hK => ?_) AllReadyH.nil)
        rw [if_pos (by rfl)]
        refine wp_append_vary (.tmp 77) (.tmp 80) 25 (by rfl) w2.heap.size 3 i0 (.int .i64 0) 1 8 Try.underlying25 hi hz0 hz1 hz2 rfl (by decide) (.slice sp6 n cap6) n (rowI L) (by rfl) F6.out.a.own _ 1 _ (rowI [N]) (by rfl) (by rfl) (fun h => by cases h) F6.out.el.src (rowI_one _) (by unfold maxLen; omega) (by omega) F6.out.a.be.size ?_
        intro v5 w5 hown hgrow hat
        have h5 := F6.out.app hown hgrow hat
        obtain ⟨sp5, cap5, rfl⟩ := own_val hown
        have H5 := Lib.hid (And.intro (SI.of_own (L := L ++ [N]) (by rw [show rowI (L ++ [N]) = rowI L ++ rowI [N] by simp [rowI]]; exact hown) HLl.out.symm HT.out) h5.a.be)
        clear hown hgrow hat h5
        refine hK.out _ _ (HK.out _ H5.out.2).1 (fun hHeld => ?_)
        clear hK K
        try simp only [Act.put, List.setIfInBounds_toArray, List.set_cons_zero, List.set_cons_succ]
        refine wpAnyH_take (i := 7) (oi := { dst := some 13, op := .assign (.tmp 81), type := 25, pos := "law.go:72", after := #[{ on := 6, ground := .data }, { on := 6, ground := .chain }, { on := 0, ground := .phase }, { on := 1, ground := .phase }, { on := 2, ground := .phase }, { on := 3, ground := .phase }, { on := 4, ground := .phase }, { on := 5, ground := .phase }, { on := 6, ground := .phase }], guard := none }) (v := ?_) rfl (by kernel_rfl) (by kernel_rfl) (by kernel_rfl) (fun _ _ _ h => h) (Or.inl ⟨by rfl, ?_⟩) (HK.out _ H5.out.2).1 ?_
        rotate_left 1
        · intro w hw; obtain s0 := hw; go_simp; try (with_reducible rfl)
        simp only [Act.put, List.setIfInBounds_toArray, List.set_cons_zero, List.set_cons_succ]
        refine wpAnyH_done (by kernel_rfl) ?_ _
        have c5 := (HK.out _ H5.out.2).2.1
        have HLA := Lib.hid (show Calls Try.prog 39 #[.slice sp5 (n + 1) cap5, .int .i64 (C : Nat)] w5 fun e w' => ∃ sp' cap', e = .returned (.slice sp' (lastL (L ++ [N]) C).length cap') ∧ SI T w' sp' cap' (lastL (L ++ [N]) C) ∧ Below w5.heap.size w5 w' from by
          have := last_any H5.out.1 (fun j hj => Nat.lt_of_lt_of_le (HT.out j hj) H5.out.2.size) (by rw [HLl.out]; omega) C hC
          rwa [HLl.out] at this)
        rw [← HLN.out] at HLA
        go_wp2_with (go_at_call 39; refine HLA.out.mono ?_; rintro e w6 ⟨sp6, cap6, rfl, hs6, hb6⟩; have H6 := Lib.hid (And.intro hs6 (HB2.out.trans ((H5.out.2.trans (hb6.mono H5.out.2.size)).mono HB2.out.size))); clear hs6 hb6)
        exact bodyPost_ret (v := .tuple #[.slice sp6 ln cap6, .int .i64 0, .int .i64 0, .int .i64 (((n + 1 : Nat) : Int) - (ln : Int))]) (by simp [results, Try.results30, go_sem]) rfl ⟨_, _, rfl, H6.out.1, H6.out.2⟩
    · go_simp
      refine hK.out _ _ (HK.out _ (PuE.first w2 N).be).1 (fun hHeld => ?_)
      clear hK K
      try simp only [Act.put, List.setIfInBounds_toArray, List.set_cons_zero, List.set_cons_succ]
      obtain ⟨u8, hu8⟩ : ∃ u, u = (w2.alloc (.cells #[.int .i64 N] 3)).drew := ⟨_, rfl⟩
      obtain ⟨z8, hz8⟩ : ∃ z, z = w2.heap.size := ⟨_, rfl⟩
      have F8 := Lib.hid (show PuE w2 u8 N z8 from by rw [hu8, hz8]; exact PuE.first w2 N)
      rw [← hu8, ← hz8]
      clear hu8 hz8
      refine wpAnyH_ready (rs := [0]) (by kernel_rfl) (by simp) (AllReadyH.cons (o := { dst := some 75, op := .buildSlice 25 0 #[], type := 25, pos := "law.go:72", after := #[], guard := none }) rfl (fun K hK => ?_) AllReadyH.nil)
      go_simp
      refine hK.out _ _ (HK.out _ (PuE.row F8.out).a.be).1 (fun hHeld => ?_)
      clear hK K
      try simp only [Act.put, List.setIfInBounds_toArray, List.set_cons_zero, List.set_cons_succ]
      obtain ⟨u9, hu9⟩ : ∃ u, u = u8.alloc (.cells #[] 3) := ⟨_, rfl⟩
      obtain ⟨z9, hz9⟩ : ∃ z, z = u8.heap.size := ⟨_, rfl⟩
      have F9 := Lib.hid (show PuB w2 u9 (.slice (some ⟨z9, 0, none⟩) 0 0) 0 [] N z8 from by rw [hu9, hz9]; exact PuE.row F8.out)
      rw [← hu9, ← hz9]
      clear hu9 hz9
      refine wpAnyH_ready (rs := [2]) (by kernel_rfl) (by simp) (AllReadyH.cons (o := { dst := some 77, op := .call { callee := .builtin .append, args := #[.tmp 75, .tmp 76], argTypes := #[25, 25] }, type := 25, pos := "law.go:72", after := #[{ on := 0, ground := .data }, { on := 1, ground := .data }], guard := none }) rfl (fun K hK => ?_) AllReadyH.nil)
      rw [if_pos (by rfl)]
      refine wp_append_vary (.tmp 75) (.tmp 76) 25 (by rfl) w2.heap.size 3 i0 (.int .i64 0) 1 8 Try.underlying25 hi hz0 hz1 hz2 rfl (by decide) (.slice (some ⟨z9, 0, none⟩) 0 0) 0 [] (by rfl) F9.out.a.own _ n _ (rowI L) (by rfl) (by rw [HS.out.2]; exact (Nat.mul_one _).symm) HS.out.1 (HK.out _ F9.out.a.be).2.2.src (rowI_one _) (by unfold maxLen; omega) (by omega) F9.out.a.be.size ?_
      intro v10 u10 hown hgrow hat
      rw [Nat.zero_add, List.nil_append] at hown
      obtain ⟨sp10, cap10, rfl⟩ := own_val hown
      have F10 := Lib.hid (F9.out.app hown hgrow hat)
      clear hown hgrow hat
      refine hK.out _ _ (HK.out _ F10.out.a.be).1 (fun hHeld => ?_)
      clear hK K
      try simp only [Act.put, List.setIfInBounds_toArray, List.set_cons_zero, List.set_cons_succ]
      refine wpAnyH_ready (rs := [6]) (by kernel_rfl) (by simp) (AllReadyH.cons (o := { dst := some 81, op := .call { callee := .builtin .append, args := #[.tmp 77, .tmp 80], argTypes := #[25, 25] }, type := 25, pos := "law.go:72", after := #[{ on := 2, ground := .data }, { on := 5, ground := .data }, { on := 2, ground := .chain }], guard := none }) rfl (fun K hK => ?_) AllReadyH.nil)
      rw [if_pos (by rfl)]
      refine wp_append_vary (.tmp 77) (.tmp 80) 25 (by rfl) w2.heap.size 3 i0 (.int .i64 0) 1 8 Try.underlying25 hi hz0 hz1 hz2 rfl (by decide) (.slice sp10 n cap10) n (rowI L) (by rfl) F10.out.a.own _ 1 _ (rowI [N]) (by rfl) (by rfl) (fun h => by cases h) F10.out.el.src (rowI_one _) (by unfold maxLen; omega) (by omega) F10.out.a.be.size ?_
      intro v5 w5 hown hgrow hat
      have h5 := F10.out.app hown hgrow hat
      obtain ⟨sp5, cap5, rfl⟩ := own_val hown
      have H5 := Lib.hid (And.intro (SI.of_own (L := L ++ [N]) (by rw [show rowI (L ++ [N]) = rowI L ++ rowI [N] by simp [rowI]]; exact hown) HLl.out.symm HT.out) h5.a.be)
      clear hown hgrow hat h5
      refine hK.out _ _ (HK.out _ H5.out.2).1 (fun hHeld => ?_)
      clear hK K
      try simp only [Act.put, List.setIfInBounds_toArray, List.set_cons_zero, List.set_cons_succ]
      refine wpAnyH_take (i := 7) (oi := { dst := some 13, op := .assign (.tmp 81), type := 25, pos := "law.go:72", after := #[{ on := 6, ground := .data }, { on := 6, ground := .chain }, { on := 0, ground := .phase }, { on := 1, ground := .phase }, { on := 2, ground := .phase }, { on := 3, ground := .phase }, { on := 4, ground := .phase }, { on := 5, ground := .phase }, { on := 6, ground := .phase }], guard := none }) (v := ?_) rfl (by kernel_rfl) (by kernel_rfl) (by kernel_rfl) (fun _ _ _ h => h) (Or.inl ⟨by rfl, ?_⟩) (HK.out _ H5.out.2).1 ?_
      rotate_left 1
      · intro w hw; obtain s0 := hw; go_simp; try (with_reducible rfl)
      simp only [Act.put, List.setIfInBounds_toArray, List.set_cons_zero, List.set_cons_succ]
      refine wpAnyH_done (by kernel_rfl) ?_ _
      have c5 := (HK.out _ H5.out.2).2.1
      have HLA := Lib.hid (show Calls Try.prog 39 #[.slice sp5 (n + 1) cap5, .int .i64 (C : Nat)] w5 fun e w' => ∃ sp' cap', e = .returned (.slice sp' (lastL (L ++ [N]) C).length cap') ∧ SI T w' sp' cap' (lastL (L ++ [N]) C) ∧ Below w5.heap.size w5 w' from by
        have := last_any H5.out.1 (fun j hj => Nat.lt_of_lt_of_le (HT.out j hj) H5.out.2.size) (by rw [HLl.out]; omega) C hC
        rwa [HLl.out] at this)
      rw [← HLN.out] at HLA
      go_wp2_with (go_at_call 39; refine HLA.out.mono ?_; rintro e w6 ⟨sp6, cap6, rfl, hs6, hb6⟩; have H6 := Lib.hid (And.intro hs6 (HB2.out.trans ((H5.out.2.trans (hb6.mono H5.out.2.size)).mono HB2.out.size))); clear hs6 hb6)
      exact bodyPost_ret (v := .tuple #[.slice sp6 ln cap6, .int .i64 0, .int .i64 0, .int .i64 (((n + 1 : Nat) : Int) - (ln : Int))]) (by simp [results, Try.results30, go_sem]) rfl ⟨_, _, rfl, H6.out.1, H6.out.2⟩

theorem step_any (C : Nat) (p K N : Int) (h : SI T w sp cap L) (hx : SI T w spX capX X) (hT : ∀ j, T j → j < w.heap.size) (hL : L.length ≤ 100) (hX : X.length ≤ 100) (hC : C ≤ 1000) :
    Calls Try.prog 30 #[.agg #[.int .i64 C, .int .i64 p], .slice sp L.length cap, .agg #[.int .i64 K, .int .i64 N, .slice spX X.length capX]] w (StepR T w (stepM C p L K N X)) := by
  unfold stepM
  rw [Int.toNat_natCast]
  by_cases k3 : kd5 K = 3
  · rw [if_pos k3]
    cases L with
    | nil =>
      rw [if_pos rfl]
      refine (step_none (sp := sp) (cap := cap) (spX := spX) (capX := capX) (X := X) (w := w) C p K N k3).mono ?_
      rintro e w' ⟨rfl, hb⟩
      exact ⟨sp, cap, rfl, h.new hb, hb⟩
    | cons y L' =>
      rw [if_neg (by simp)]
      exact step_some C p K N y L' h hT (by simp at hL; omega) k3
  · rw [if_neg k3]
    by_cases k4 : kd5 K = 4
    · rw [if_pos k4]
      exact step_fill C p K N h hx hT hL hX hC k4
    · rw [if_neg k4]
      by_cases f1 : (L.length : Int) = C ∧ p = 1
      · rw [if_pos f1]
        have := step_same (spX := spX) (capX := capX) (X := X) C p K N h k3 k4 (by omega) (.inl f1.2)
        rwa [if_pos f1.2, if_pos f1.2] at this
      · rw [if_neg f1]
        by_cases f3 : (L.length : Int) = C ∧ p = 3
        · rw [if_pos f3]
          have := step_same (spX := spX) (capX := capX) (X := X) C p K N h k3 k4 (by omega) (.inr f3.2)
          rwa [if_neg (by omega), if_neg (by omega)] at this
        · rw [if_neg f3]
          exact step_send C p K N h hT hL hC k3 k4 (fun hh => by
            rcases hh.2 with e | e
            · exact f1 ⟨by omega, e⟩
            · exact f3 ⟨by omega, e⟩)
end
end Go.Proofs.Ythpagbfabpfngaa
