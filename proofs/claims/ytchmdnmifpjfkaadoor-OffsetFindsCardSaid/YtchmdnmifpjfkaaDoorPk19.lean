/- Several texts in one: QZD, QZE, QZF, QZH. -/
import Derived.Test.YtchmdnmifpjfkaaDoorPk18
import Derived.Sort.CutIn
import Derived.Test.YtchmdnmifpjfkaaDoorPk14
import Derived.Test.YtchmdnmifpjfkaaDoorPk08
import Derived.DeepKeys
import Derived.ChangeKeysEq
/- Common: the least offset that does for all new tasks. -/
namespace Go.Proofs.YtchmdnmifpjfkaaDoor
open Go.RowKit

theorem zF_rng : ∀ j, j < 16 → 0 ≤ zF j ∧ zF j ≤ 16384 := fun j _ => by unfold zF; omega
/-- Far offsets for all that an edge brings. -/
def farE (x : Img) (k : Int) : Nat → Int := wdF zF (frE x k) 16384
theorem farE_rng (x : Img) (k : Int) : ∀ j, j < 16 → 0 ≤ farE x k j ∧ farE x k j ≤ 16384 := wdF_rng zF_rng (by omega)
def cmE (x : Img) (k : Int) : Nat := if fitE x k (farE x k) = true then lsE x k zF (frE x k) else 0
set_option maxHeartbeats 4000000 in
set_option maxRecDepth 100000 in
theorem ofCommon_any {w : World} {V : Nat → Prop} {x : Img} {S : ImgS} (h : ImgOk w V x S) (k : Int) :
    Calls Tryd.prog 27 #[.agg #[.int .i64 x.res, .slice S.t.sp x.tasks.length S.t.c, .slice S.m.sp x.modes.length S.m.c, .slice S.e.sp x.edges.length S.e.c], .int .i64 k] w fun e w' => e = .returned (.tuple #[.int .i64 (cmE x k : Nat), .bool (fitE x k (farE x k))]) ∧ Below w.heap.size w w' := by
  have HOk := Lib.hid (show ∀ wx, Below w.heap.size w wx → ImgOk wx V x S from fun wx hb => h.new hb)
  have hfr := frE_lt x k
  have HB := Lib.hid (fun (wx : World) (hb : Below w.heap.size w wx) => ofbrought_any (HOk.out wx hb) k)
  have HW := Lib.hid (fun (wx : World) (hb : Below w.heap.size w wx) => ofwith_any zF (frE x k) 16384 hfr (HOk.out wx hb).tab)
  have HFt := Lib.hid (fun (wx : World) (hb : Below w.heap.size w wx) => offit_any (HOk.out wx hb) k (farE x k) (farE_rng x k))
  have HLe := Lib.hid (fun (wx : World) (hb : Below w.heap.size w wx) => ofleast_any (HOk.out wx hb) k zF (frE x k) zF_rng hfr)
  have HRs := Lib.hid (show cmE x k = if fitE x k (farE x k) = true then lsE x k zF (frE x k) else 0 from rfl)
  rw [show wdF zF (frE x k) 16384 = farE x k from rfl] at HW
  have HTi := Lib.hid (show (Tryd.prog.info? 27).map (·.size) = some (tml zF).toArray.size by rw [show (tml zF).toArray.size = 16 by simp [tml_len]]; kernel_rfl)
  obtain ⟨nT, hnT⟩ : ∃ n, x.tasks.length = n := ⟨_, rfl⟩
  obtain ⟨nM, hnM⟩ : ∃ n, x.modes.length = n := ⟨_, rfl⟩
  obtain ⟨nE, hnE⟩ : ∃ n, x.edges.length = n := ⟨_, rfl⟩
  rw [hnT, hnM, hnE] at HB HFt HLe
  rw [hnT, hnM, hnE]
  obtain ⟨fs, hfs⟩ : ∃ b, frE x k = b := ⟨_, rfl⟩
  rw [hfs] at HB HW HLe HRs
  obtain ⟨r, hr⟩ : ∃ b, lsE x k zF fs = b := ⟨_, rfl⟩
  rw [hr] at HLe HRs
  obtain ⟨R, hR⟩ : ∃ b, cmE x k = b := ⟨_, rfl⟩
  rw [hR] at HRs ⊢
  obtain ⟨fr, hf⟩ : ∃ b, fitE x k (farE x k) = b := ⟨_, rfl⟩
  rw [hf] at HFt HRs ⊢
  obtain ⟨T, hT⟩ : ∃ T, (tml zF).toArray = T := ⟨_, rfl⟩
  rw [hT] at HTi HW HLe
  obtain ⟨T2, hT2⟩ : ∃ T, (tml (farE x k)).toArray = T := ⟨_, rfl⟩
  rw [hT2] at HW HFt
  have HT0 := Lib.hid hT
  obtain ⟨Z, hZ⟩ : ∃ Z, Z = w.heap.size := ⟨_, rfl⟩
  have HZ := Lib.hid hZ
  clear h hfr hnT hnM hnE hfs hr hR hf hT hT2 HOk
  go_enter Tryd.func27, Tryd.ntmps27
  go_upto_region 2 with fail
  rw [← hZ]
  generalize hw2 : World.alloc _ _ = w2
  have H2 := Lib.hid (show Below w.heap.size w w2 ∧ RowAt w2 Z 26 #[.int .i64 x.res, .slice S.t.sp nT S.t.c, .slice S.m.sp nM S.m.c, .slice S.e.sp nE S.e.c] ∧ RowAt w2 (Z + 1) 27 T by
    rw [← hw2, hZ, ← HT0.out]
    exact ⟨((Below.refl _ _).alloc (Nat.le_refl _) _).alloc (by simp) _, row_keep (RowAt.mk _ _ _) _, row_next _ (w.heap.size + 1) (by simp) _ _⟩)
  clear hw2 hZ
  have HA := Lib.hid (show ∀ wx, Below w2.heap.size w2 wx → (wx.cell? ⟨Z, 0, none⟩ = some (.int .i64 x.res) ∧ wx.cell? ⟨Z, 1, none⟩ = some (.slice S.t.sp nT S.t.c) ∧ wx.cell? ⟨Z, 2, none⟩ = some (.slice S.m.sp nM S.m.c) ∧ wx.cell? ⟨Z, 3, none⟩ = some (.slice S.e.sp nE S.e.c)) ∧ RowAt wx (Z + 1) 27 T ∧ Below w.heap.size w wx from fun wx hb => by
    have r := H2.out.2.1.new hb
    exact ⟨⟨r.cell 0, r.cell 1, r.cell 2, r.cell 3⟩, H2.out.2.2.new hb, H2.out.1.trans (hb.mono H2.out.1.size)⟩)
  obtain ⟨⟨a0, a1, a2, a3⟩, _, _⟩ := HA.out w2 (Below.refl _ _)
  go_upto_region 3 with (first
    | (go_at_call 50; refine (HB.out _ H2.out.1).mono ?_; rintro e w3 ⟨rfl, b3⟩; have H3 := Lib.hid (b3.mono (Nat.le_refl _)); clear b3 a0 a1 a2 a3)
    | fail)
  refine wp_region_held_drew (S := fun w' => Below w2.heap.size w2 w') (by kernel_rfl) (below_dn H3.out 1) (fun hS => ?_)
  refine wpAnyH_take (i := 0) (oi := { dst := some 11, op := .load 26 (.tmp 2), type := 26, pos := "offset.go:61", after := #[], guard := none }) (v := ?_) rfl (by kernel_rfl) (by kernel_rfl) (by kernel_rfl) (fun _ _ _ h => h) (Or.inl ⟨by rfl, ?_⟩) hS ?_
  rotate_left 1
  · intro w hw; obtain ⟨⟨k0, k1, k2, k3⟩, _, _⟩ := HA.out _ hw; go_simp; try (with_reducible rfl)
  simp only [Act.put, List.setIfInBounds_toArray, List.set_cons_zero, List.set_cons_succ]
  refine wpAnyH_take (i := 1) (oi := { dst := some 12, op := .move (.tmp 1), type := 3, pos := "offset.go:61", after := #[], guard := none }) (v := ?_) rfl (by kernel_rfl) (by kernel_rfl) (by kernel_rfl) (fun _ _ _ h => h) (Or.inl ⟨by rfl, ?_⟩) hS ?_
  rotate_left 1
  · intro w hw; go_simp; try (with_reducible rfl)
  simp only [Act.put, List.setIfInBounds_toArray, List.set_cons_zero, List.set_cons_succ]
  refine wpAnyH_take (i := 2) (oi := { dst := some 13, op := .load 27 (.tmp 6), type := 27, pos := "offset.go:61", after := #[], guard := none }) (v := (.agg T)) rfl (by kernel_rfl) (by kernel_rfl) (by kernel_rfl) (fun _ _ _ h => h) (Or.inl ⟨by rfl, ?_⟩) hS ?_
  · intro w hw; exact exec_load_row 27 (.tmp 6) (by exact rfl) (Z + 1) (by exact rfl) 27 T (0, 0) _ (HA.out _ hw).2.1 Tryd.underlying27 rfl HTi.out
  simp only [Act.put, List.setIfInBounds_toArray, List.set_cons_zero, List.set_cons_succ]
  refine wpAnyH_take (i := 3) (oi := { dst := some 14, op := .move (.tmp 7), type := 31, pos := "offset.go:61", after := #[], guard := none }) (v := ?_) rfl (by kernel_rfl) (by kernel_rfl) (by kernel_rfl) (fun _ _ _ h => h) (Or.inl ⟨by rfl, ?_⟩) hS ?_
  rotate_left 1
  · intro w hw; go_simp; try (with_reducible rfl)
  simp only [Act.put, List.setIfInBounds_toArray, List.set_cons_zero, List.set_cons_succ]
  refine wpAnyH_ready (rs := [4]) (by kernel_rfl) (by simp) (AllReadyH.cons (o := { dst := some 15, op := .call { callee := .value (.func 51), args := #[.tmp 13, .tmp 14, .const (.int .i64 16384)], argTypes := #[27, 31, 3] }, type := 27, pos := "offset.go:61", after := #[{ on := 2, ground := .data }, { on := 3, ground := .data }], guard := none }) rfl (fun K hK => ?_) AllReadyH.nil)
  go_simp
  go_at_call 51
  refine (HW.out _ (HA.out _ (below_dn H3.out 1)).2.2).mono ?_
  rintro e w4 ⟨rfl, b4⟩
  have H4 := Lib.hid (show Below w2.heap.size w2 w4 from (below_dn H3.out 1).trans (b4.mono (below_dn H3.out 1).size))
  clear b4
  try dsimp only
  refine hK.out _ _ H4.out (fun hHeld => ?_)
  clear hK K
  try simp only [Act.put, List.setIfInBounds_toArray, List.set_cons_zero, List.set_cons_succ]
  refine wpAnyH_ready (rs := [5]) (by kernel_rfl) (by simp) (AllReadyH.cons (o := { dst := some 16, op := .call { callee := .value (.func 52), args := #[.tmp 11, .tmp 12, .tmp 15], argTypes := #[26, 3, 27] }, type := 4, pos := "offset.go:61", after := #[{ on := 0, ground := .data }, { on := 1, ground := .data }, { on := 4, ground := .data }, { on := 4, ground := .chain }], guard := none }) rfl (fun K hK => ?_) AllReadyH.nil)
  go_simp
  go_at_call 52
  refine (HFt.out _ (HA.out _ H4.out).2.2).mono ?_
  rintro e w5 ⟨rfl, b5⟩
  have H5 := Lib.hid (show Below w2.heap.size w2 w5 from H4.out.trans (b5.mono H4.out.size))
  clear b5
  try dsimp only
  refine hK.out _ _ H5.out (fun hHeld => ?_)
  clear hK K
  try simp only [Act.put, List.setIfInBounds_toArray, List.set_cons_zero, List.set_cons_succ]
  refine wpAnyH_take (i := 6) (oi := { dst := some 17, op := .unOp .not 4 (.tmp 16), type := 4, pos := "offset.go:61", after := #[{ on := 5, ground := .data }], guard := none }) (v := ?_) rfl (by kernel_rfl) (by kernel_rfl) (by kernel_rfl) (fun _ _ _ h => h) (Or.inl ⟨by rfl, ?_⟩) H5.out ?_
  rotate_left 1
  · intro w hw; go_simp; try (with_reducible rfl)
  simp only [Act.put, List.setIfInBounds_toArray, List.set_cons_zero, List.set_cons_succ]
  refine wpAnyH_done (by kernel_rfl) ?_ _

  cases fr with
  | false =>
    have he := HRs.out
    rw [if_neg (by simp)] at he
    subst he
    go_wp2
    go_ret2
    exact ⟨rfl, (HA.out _ H5.out).2.2⟩
  | true =>
    have he := HRs.out
    rw [if_pos rfl] at he
    subst he
    obtain ⟨⟨a0, a1, a2, a3⟩, _, _⟩ := HA.out _ H5.out
    go_wp2_with (first
      | (refine wpList_load_row rfl 27 (.tmp 6) rfl (Z + 1) rfl 27 T (0, 0) _ (HA.out _ H5.out).2.1 Tryd.underlying27 rfl HTi.out ?_)
      | (go_at_call 54; refine (HLe.out _ (HA.out _ H5.out).2.2).mono ?_; rintro e w6 ⟨rfl, b6⟩; have H6 := Lib.hid (H5.out.trans (b6.mono H5.out.size)); clear b6 a0 a1 a2 a3)
      | fail)
    go_ret2
    exact ⟨rfl, (HA.out _ H6.out).2.2⟩
end Go.Proofs.YtchmdnmifpjfkaaDoor
/- Find: from which offset on each new task of an edge may come. -/
namespace Go.Proofs.YtchmdnmifpjfkaaDoor
open Go.RowKit
attribute [local go_sem] Oper.semAt_some

section
variable {n0 : Nat} {P : Program} {ops : Array Oper} {rest : List Oper} {o : Oper} {a : Act} {w : World} {Q : Exit → Act → World → Prop}
theorem wpListIn_build_noneW (hgd : o.guard = none) (t : TypeId) (ho : o.op = .build t #[]) (cs : Array Value) (hf : P.built t [] = some cs)
    (h : wpListIn Fence.wide n0 P ops Q rest (a.put o.dst (.agg cs)) w) : wpListIn Fence.wide n0 P ops Q (o :: rest) a w := by
  refine wpListIn_plain hgd fun K hK => ⟨fun _ _ => trivial, ?_⟩
  rw [show Fence.wide.round = none from rfl, Oper.semAt_none]
  have hc : P.built t ((#[] : Array (Nat × Operand)).map fun (i, x) => (i, a.eval x)).toList = some cs := by simpa using hf
  unfold execOp
  simp only [ho, Sem.run_bind, run_build w t _ cs hc, Result.andThen_ok]
  exact hK _ _ h
end
/-- The offsets, where one task behind the other got its least one. -/
def fdF (x : Img) (k : Int) (l : Nat → Int) (M : List Nat) : Nat → Int := M.foldl (fun l i => updF l i (lsE x k l (onl (i : Int)) : Nat)) l
theorem fdF_snoc (x : Img) (k : Int) (l : Nat → Int) (M : List Nat) (i : Nat) : fdF x k l (M ++ [i]) = updF (fdF x k l M) i (lsE x k (fdF x k l M) (onl (i : Int)) : Nat) := by unfold fdF; rw [List.foldl_append]; rfl
theorem lsE_le (x : Img) (k : Int) (l : Nat → Int) (s : BitVec 32) : lsE x k l s ≤ 16384 := (bsN_ok _ _).1
theorem fdF_rng (x : Img) (k : Int) : ∀ (M : List Nat) {l : Nat → Int}, (∀ j, j < 16 → 0 ≤ l j ∧ l j ≤ 16384) → ∀ j, j < 16 → 0 ≤ fdF x k l M j ∧ fdF x k l M j ≤ 16384
  | [], _, h => h
  | i :: M, l, h => fdF_rng x k M fun j hj => by
    have := lsE_le x k l (onl (i : Int))
    show 0 ≤ updF l i (lsE x k l (onl (i : Int)) : Nat) j ∧ updF l i (lsE x k l (onl (i : Int)) : Nat) j ≤ 16384
    unfold updF
    split
    · omega
    · exact h j hj
def fdE (x : Img) (k : Int) : Nat → Int := if fitE x k (farE x k) = true then fdF x k (farE x k) (lst (frE x k) 32) else zF
theorem tml_ok (f : Nat → Int) : (Tryd.prog.info? 27).map (·.size) = some (tml f).toArray.size ∧ (tml f).toArray.size = 16 ∧ (tml f).toArray.all (·.oneCell') = true := ⟨by rw [show (tml f).toArray.size = 16 by simp [tml_len]]; kernel_rfl, by simp [tml_len], all_oneCell_toArray fun u hu => by
    unfold tml at hu
    simp only [List.mem_map] at hu
    obtain ⟨j, _, rfl⟩ := hu
    rfl⟩
set_option maxHeartbeats 4000000 in
set_option maxRecDepth 100000 in
theorem ofFind_any {w : World} {V : Nat → Prop} {x : Img} {S : ImgS} (h : ImgOk w V x S) (k : Int) :
    Calls Tryd.prog 22 #[.agg #[.int .i64 x.res, .slice S.t.sp x.tasks.length S.t.c, .slice S.m.sp x.modes.length S.m.c, .slice S.e.sp x.edges.length S.e.c], .int .i64 k] w fun e w' => e = .returned (.tuple #[.agg (tml (fdE x k)).toArray, .bool (fitE x k (farE x k))]) ∧ Below w.heap.size w w' := by
  refine (callsIn_wide (n := 0)).1 ?_
  have HOk := Lib.hid (show ∀ wx, Below w.heap.size w wx → ImgOk wx V x S from fun wx hb => h.new hb)
  have hfr := frE_lt x k
  have HB := Lib.hid (fun (wx : World) (hb : Below w.heap.size w wx) => ofbrought_any (HOk.out wx hb) k)
  have HW := Lib.hid (fun (wx : World) (hb : Below w.heap.size w wx) => ofwith_any zF (frE x k) 16384 hfr (HOk.out wx hb).tab)
  have HFt := Lib.hid (fun (wx : World) (hb : Below w.heap.size w wx) => offit_any (HOk.out wx hb) k (farE x k) (farE_rng x k))
  have HTb := Lib.hid (show ∀ w', Below w.heap.size w w' → Tab w' from fun w' hb => (HOk.out w' hb).tab)
  have HTi := Lib.hid tml_ok
  have HLt := Lib.hid (show ∀ j, j < (lst (frE x k) 32).length → (lst (frE x k) 32).getD j 0 < 16 from fun j hj => by
    have hm : (lst (frE x k) 32).getD j 0 ∈ lst (frE x k) 32 := by
      rw [List.getD_eq_getElem?_getD, List.getElem?_eq_getElem hj]
      exact List.getElem_mem hj
    obtain ⟨h1, h2⟩ := (mem_lst _ _ _).1 hm
    exact hfr _ h1 h2)
  have HLe := Lib.hid (fun (wx : World) (hb : Below w.heap.size w wx) (j i : Nat) (hi : i < 16) => ofleast_any (HOk.out wx hb) k (fdF x k (farE x k) ((lst (frE x k) 32).take j)) (onl (i : Int)) (fdF_rng x k _ (farE_rng x k)) (fun m hm hb => by
    rw [onl_bit _ _ hm] at hb
    have := of_decide_eq_true hb
    omega))
  have HSn := Lib.hid (fun (j : Nat) (hj : j < (lst (frE x k) 32).length) => show fdF x k (farE x k) ((lst (frE x k) 32).take (j + 1)) = updF (fdF x k (farE x k) ((lst (frE x k) 32).take j)) ((lst (frE x k) 32).getD j 0) (lsE x k (fdF x k (farE x k) ((lst (frE x k) 32).take j)) (onl ((lst (frE x k) 32).getD j 0 : Nat)) : Nat) by rw [take_snoc hj, fdF_snoc])
  have HRs := Lib.hid (show fdE x k = if fitE x k (farE x k) = true then fdF x k (farE x k) (lst (frE x k) 32) else zF from rfl)
  rw [show wdF zF (frE x k) 16384 = farE x k from rfl] at HW
  obtain ⟨nT, hnT⟩ : ∃ n, x.tasks.length = n := ⟨_, rfl⟩
  obtain ⟨nM, hnM⟩ : ∃ n, x.modes.length = n := ⟨_, rfl⟩
  obtain ⟨nE, hnE⟩ : ∃ n, x.edges.length = n := ⟨_, rfl⟩
  rw [hnT, hnM, hnE] at HB HFt HLe
  rw [hnT, hnM, hnE]
  obtain ⟨fs, hfs⟩ : ∃ b, frE x k = b := ⟨_, rfl⟩
  rw [hfs] at HB HW HLe HRs HLt HSn
  obtain ⟨L, hL⟩ : ∃ L, lst fs 32 = L := ⟨_, rfl⟩
  have HTL := Lib.hid hL
  rw [hL] at HLt HSn HLe HRs
  obtain ⟨N, hN⟩ : ∃ N, L.length = N := ⟨_, rfl⟩
  have HNN := Lib.hid hN
  have HTk := Lib.hid (show L.take N = L by rw [← hN]; simp)
  rw [hN] at HLt HSn
  obtain ⟨r, hr⟩ : ∃ r : Nat → Nat → Nat, (fun j (i : Nat) => lsE x k (fdF x k (farE x k) (L.take j)) (onl (i : Int))) = r := ⟨_, rfl⟩
  have hre : ∀ j i : Nat, lsE x k (fdF x k (farE x k) (L.take j)) (onl (i : Int)) = r j i := fun j i => by rw [← hr]
  simp only [hre] at HLe HSn
  obtain ⟨f, hf⟩ : ∃ f : Nat → Nat → Int, (fun j => fdF x k (farE x k) (L.take j)) = f := ⟨_, rfl⟩
  have hfe : ∀ j, fdF x k (farE x k) (L.take j) = f j := fun j => by rw [← hf]
  simp only [hfe] at HLe HSn
  have HF0 := Lib.hid (show f 0 = farE x k by rw [← hf]; rfl)
  have HFn := Lib.hid (show fdF x k (farE x k) L = f N by rw [← hfe, HTk.out])
  rw [HFn.out] at HRs
  obtain ⟨R, hR⟩ : ∃ b, fdE x k = b := ⟨_, rfl⟩
  rw [hR] at HRs ⊢
  rw [← HF0.out] at HRs HFt HW ⊢
  obtain ⟨fr, hff⟩ : ∃ b, fitE x k (f 0) = b := ⟨_, rfl⟩
  rw [hff] at HFt HRs ⊢
  have HSet := Lib.hid (show ∀ (g : Nat → Int) (i : Nat) (u : Int), (tml g).toArray.setIfInBounds i (.int .i64 u) = (tml (updF g i u)).toArray from fun g i u => by rw [List.setIfInBounds_toArray, tml_set])
  have HCell := Lib.hid (show ∀ g : Nat → Int, ∀ i, i < 16 → (tml g).toArray[i]? = some (.int .i64 (g i)) from fun g i hi => by rw [List.getElem?_toArray]; exact tml_at g i hi)
  obtain ⟨C, hC⟩ : ∃ C : (Nat → Int) → Array Value, (fun g => (tml g).toArray) = C := ⟨_, rfl⟩
  have hCe : ∀ g, (tml g).toArray = C g := fun g => by rw [← hC]
  simp only [hCe] at HTi HSet HCell HW HFt HLe ⊢
  have HC0 := Lib.hid hCe
  have HM := Lib.hid (show ∀ (wx : World) (b i : Nat), RowAt wx b 3 #[.int .i64 (i : Nat)] → Calls Tryd.prog 55 #[.slice (some ⟨b, 0, none⟩) 1 1] wx fun e w' => e = .returned (.int .u32 (w32 (onl (i : Int)))) ∧ wx = w' from fun wx b i hr => by
    have e : ofL [(i : Int)] = onl (i : Int) := by unfold ofL; simp
    have h := mOf_any (some ⟨b, 0, none⟩) b 0 1 [(i : Int)] wx (by simp) ⟨fun _ => ⟨rfl, hr.lt⟩, fun k hk => by
      have hk3 : k < 1 := hk
      rcases k with _ | k
      · exact hr.cell 0
      · omega⟩
    rw [e] at h
    exact h)
  obtain ⟨Z, hZ⟩ : ∃ Z, Z = w.heap.size := ⟨_, rfl⟩
  have HZ := Lib.hid hZ
  clear h hfr hnT hnM hnE hfs hL hN hr hre hf hfe hR hff hC hCe HOk
  refine callsIn_of_wp_marks Tryd.func22 rfl trivial ?_ rfl
  simp only [Tryd.ntmps22, List.size_toArray, List.length_cons, List.length_nil, Nat.reduceAdd, Nat.reduceSub, Array.replicate_succ, Array.replicate_zero, List.push_toArray, List.append_toArray, List.nil_append, List.cons_append]
  gi_upto_region 1 with fail
  rw [show w.heap.size + 1 + 1 = Z + 2 by omega, show w.heap.size + 1 = Z + 1 by omega, ← hZ]
  generalize hw2 : World.alloc (World.alloc (World.alloc w _) _) _ = w2
  have H2 := Lib.hid (show Below w.heap.size w w2 ∧ w2.heap.size = Z + 3 ∧ RowAt w2 Z 26 #[.int .i64 x.res, .slice S.t.sp nT S.t.c, .slice S.m.sp nM S.m.c, .slice S.e.sp nE S.e.c] ∧ RowAt w2 (Z + 1) 3 #[.int .i64 k] ∧ RowAt w2 (Z + 2) 27 (C zF) by
    rw [hZ]
    obtain ⟨g1, g2, g3, g4, g5⟩ := rows3 w #[.int .i64 x.res, .slice S.t.sp nT S.t.c, .slice S.m.sp nM S.m.c, .slice S.e.sp nE S.e.c] #[.int .i64 k] (C zF) 26 3 27
    have e : ((w.alloc (.cells #[.int .i64 x.res, .slice S.t.sp nT S.t.c, .slice S.m.sp nM S.m.c, .slice S.e.sp nE S.e.c] 26)).alloc (.cells #[.int .i64 k] 3)).alloc (.cells (C zF) 27) = w2 := by rw [← hw2, ← HC0.out zF]; rfl
    rw [e] at g1 g2 g3 g4 g5
    exact ⟨g1, g2, g3, g4, g5⟩)
  clear hw2 hZ
  have HA := Lib.hid (show ∀ wx, Below w2.heap.size w2 wx → ((wx.cell? ⟨Z, 0, none⟩ = some (.int .i64 x.res) ∧ wx.cell? ⟨Z, 1, none⟩ = some (.slice S.t.sp nT S.t.c) ∧ wx.cell? ⟨Z, 2, none⟩ = some (.slice S.m.sp nM S.m.c) ∧ wx.cell? ⟨Z, 3, none⟩ = some (.slice S.e.sp nE S.e.c)) ∧ wx.cell? ⟨Z + 1, 0, none⟩ = some (.int .i64 k)) ∧ RowAt wx (Z + 2) 27 (C zF) ∧ Below w.heap.size w wx from fun wx hb => by
    have r := H2.out.2.2.1.new hb
    exact ⟨⟨⟨r.cell 0, r.cell 1, r.cell 2, r.cell 3⟩, (H2.out.2.2.2.1.new hb).cell 0⟩, H2.out.2.2.2.2.new hb, H2.out.1.trans (hb.mono H2.out.1.size)⟩)
  obtain ⟨⟨⟨a0, a1, a2, a3⟩, a4⟩, _, _⟩ := HA.out w2 (Below.refl _ _)
  gi_upto_region 2 with (first
    | (refine ⟨trivial, rfl, ?_⟩; gi_at_call 50; refine (callsIn_wide.2 (HB.out _ H2.out.1)).mono ?_; rintro e w3 ⟨rfl, b3⟩; have H3 := Lib.hid (b3.mono (Nat.le_refl _)); clear b3 a0 a1 a2 a3 a4)
    | fail)
  have hbn : Tryd.prog.built 27 [] = some (C zF) := by rw [← HC0.out]; kernel_rfl
  gi_upto_region 3 with (first
    | (refine wpListIn_build_noneW rfl 27 rfl (C zF) hbn ?_)
    | (refine ⟨trivial, rfl, ?_⟩; gi_at_call 51; refine (callsIn_wide.2 (HW.out _ (HA.out _ H3.out).2.2)).mono ?_; rintro e w4 ⟨rfl, b4⟩; have H4 := Lib.hid (show Below w2.heap.size w2 w4 from H3.out.trans (b4.mono H3.out.size)); clear b4)
    | (refine wpListIn_store_rowW rfl 27 (.tmp 7) (.tmp 14) rfl w4.heap.size (C (f 0)) rfl rfl 27 (tml zF).toArray (RowAt.mk w4 _ _) (HTi.out _).1 (by rw [HC0.out, (HTi.out _).2.1, (HTi.out _).2.1]) (HTi.out _).2.2 ?_; generalize hw5 : World.setRow _ _ _ = w5)
    | fail)
  simp only [Act.put]
  obtain ⟨T, hT⟩ : ∃ T, w4.heap.size = T := ⟨_, rfl⟩
  have H5 := Lib.hid (show Below w2.heap.size w2 w5 ∧ RowAt w5 T 27 (C (f 0)) ∧ Z + 3 ≤ T ∧ w5.heap.size = T + 1 by
    have b4 := alloc_row w4 (tml zF).toArray (C (f 0)) 27
    rw [← hT, ← hw5]
    exact ⟨H4.out.trans (b4.1.mono H4.out.size), b4.2, by have := H4.out.size; have := H2.out.2.1; omega, by simp⟩)
  rw [hT]
  clear hw5 hT H4 H3 HB HW
  obtain ⟨⟨⟨a0, a1, a2, a3⟩, a4⟩, _, _⟩ := HA.out w5 H5.out.1
  cases fr with
  | false =>
    have hr := HRs.out
    rw [if_neg (by simp)] at hr
    subst hr
    gi_wp2_with (first
      | (refine wpListIn_load_rowW rfl 27 (.tmp 7) rfl T rfl 27 (C (f 0)) (0, 0) _ H5.out.2.1 Tryd.underlying27 rfl (HTi.out _).1 ?_)
      | (refine ⟨trivial, rfl, ?_⟩; gi_at_call 52; refine (callsIn_wide.2 (HFt.out _ (HA.out _ H5.out.1).2.2)).mono ?_; rintro e w6 ⟨rfl, b6⟩; have H6 := Lib.hid (And.intro b6 (And.intro (H5.out.1.trans (b6.mono H5.out.1.size)) (H5.out.2.1.new b6))); clear b6 a0 a1 a2 a3 a4)
      | (refine wpListIn_build_noneW rfl 27 rfl (C zF) hbn ?_)
      | (refine wpListIn_store_rowW rfl 27 (.tmp 4) (.tmp 20) rfl (Z + 2) (C zF) rfl rfl 27 (C zF) (HA.out _ H6.out.2.1).2.1 (HTi.out _).1 (by rw [(HTi.out _).2.1]) (HTi.out _).2.2 ?_; generalize hw9 : World.setRow _ _ _ = w9)
      | fail)
    have hR9 : RowAt w9 (Z + 2) 27 (C zF) := by rw [← hw9]; exact (HA.out _ H6.out.2.1).2.1.put
    have hB9 : Below w.heap.size w w9 := by rw [← hw9]; exact below_row (HA.out _ H6.out.2.1).2.2 (Nat.le_refl _) (by have := HZ.out; omega) _
    exact ⟨_, results_rowN rfl _ _ (Z + 2) 27 (C zF) _ rfl hR9 Tryd.underlying27 rfl (HTi.out _).1, rfl, hB9⟩
  | true =>
    have hr := HRs.out
    rw [if_pos rfl] at hr
    subst hr
    gi_wp2_with (first
      | (refine wpListIn_load_rowW rfl 27 (.tmp 7) rfl T rfl 27 (C (f 0)) (0, 0) _ H5.out.2.1 Tryd.underlying27 rfl (HTi.out _).1 ?_)
      | (refine ⟨trivial, rfl, ?_⟩; gi_at_call 52; refine (callsIn_wide.2 (HFt.out _ (HA.out _ H5.out.1).2.2)).mono ?_; rintro e w6 ⟨rfl, b6⟩; have H6 := Lib.hid (And.intro b6 (And.intro (H5.out.1.trans (b6.mono H5.out.1.size)) (H5.out.2.1.new b6))); clear b6 a0 a1 a2 a3 a4)
      | (refine ⟨trivial, rfl, ?_⟩; gi_at_call 53; refine (callsIn_wide.2 (All_any _ _)).mono ?_; rintro e w' ⟨rfl, rfl⟩)
      | fail)
    obtain ⟨B, hB⟩ : ∃ B, w6.heap.size = B := ⟨_, rfl⟩
    rw [hB]
    generalize hw7 : World.alloc w6 _ = w7
    have H7 := Lib.hid (show Below w2.heap.size w2 w7 ∧ w7.heap.size = B + 1 ∧ T + 1 ≤ B ∧ RowAt w7 T 27 (C (f 0)) ∧ RowAt w7 B 31 #[.int .u32 (w32 fs)] by
      have b7 : Below w6.heap.size w6 w7 := by rw [← hw7]; exact (Below.refl _ _).alloc (Nat.le_refl _) _
      refine ⟨H6.out.2.1.trans (b7.mono H6.out.2.1.size), by rw [← hw7, ← hB]; simp, by have := H6.out.1.size; have := H5.out.2.2.2; omega, H6.out.2.2.new b7, ?_⟩
      rw [← hw7]
      exact row_next w6 B hB _ _)
    clear hw7 hB H6
    have HT3 := Lib.hid H5.out.2.2.1
    clear H5
    have HI0 := Lib.hid (show CI w7 T 27 (C (f 0)) w7 from ⟨Ch.refl _ _, H7.out.2.2.2.1⟩)
    have HB2 := Lib.hid (show ∀ (W' : World) (cs : Array Value), CI w7 T 27 cs W' → Below w2.heap.size w2 W' from fun W' cs h => H7.out.1.trans (h.1.below (fun j hj e => by have := HT3.out; have := H2.out.2.1; omega) H7.out.1.size))
    have HBe := Lib.hid (show ∀ (W' : World) (cs : Array Value), CI w7 T 27 cs W' → Below w.heap.size w W' from fun W' cs h => (HA.out _ (HB2.out W' cs h)).2.2)
    refine wpIn_rangeF3 (gf := 80) (lb := #[.pointer (some ⟨B, 0, none⟩)]) rfl (enters_of Tryd.func80 (by kernel_rfl) rfl)
      N (fun k => #[.int .i64 (nth (ints L) k)]) (fun _ => rfl) (fun _ j => j < B + 1)
      (fun k W => CI w7 T 27 (C (f k)) W) (fun _ _ _ => False)
      (fun k => CI.foot H7.out.2.1 (by have := H7.out.2.2.1; omega)) (fun _ _ => ⟨fun _ h => h.elim, fun _ _ h => h.elim⟩) HI0.out
      (fun j a' _ => a' = { tmps := #[.agg #[.int .i64 x.res, .slice S.t.sp nT S.t.c, .slice S.m.sp nM S.m.c, .slice S.e.sp nE S.e.c], .int .i64 k, .pointer (some ⟨Z, 0, none⟩), .pointer (some ⟨Z + 1, 0, none⟩), .pointer (some ⟨Z + 2, 0, none⟩), .bool false, .int .u32 (w32 fs), .pointer (some ⟨T, 0, none⟩), .int .i64 (nth (ints L) j), .agg #[.int .i64 x.res, .slice S.t.sp nT S.t.c, .slice S.m.sp nM S.m.c, .slice S.e.sp nE S.e.c], .int .i64 k, .int .u32 (w32 fs), .agg (C zF), .int .u32 (w32 fs), .agg (C (f 0)), .agg #[.int .i64 x.res, .slice S.t.sp nT S.t.c, .slice S.m.sp nM S.m.c, .slice S.e.sp nE S.e.c], .int .i64 k, .agg (C (f 0)), .bool true, .bool false, undef, .int .u32 (w32 fs), .func (.func 80) #[] #[.pointer (some ⟨B, 0, none⟩)], .int .i64 (nth (ints L) j), undef, undef, undef, undef, undef, undef, undef, undef, undef, undef], defers := [] })
      (fun _ _ _ _ h _ => h) ?hit ?assign ?body ?done (fun _ _ _ _ h => h.elim)
    case hit =>
      intro J' Jx' W1 h1 h2 h3 h4 h5 h6 h7 h8
      rw [H7.out.2.1] at h1 h2 h3 h4 h5 h6 h7 ⊢
      rw [← HTL.out] at h7
      have hN2 : N = (lst fs 32).length := by rw [← HNN.out, HTL.out]
      rw [hN2] at h7 ⊢
      exact all_in _ B fs _ J' Jx' W1 (fun k W' hJ => HTb.out W' (HBe.out W' _ (h3 k W' hJ).1)) ((h2.cell (p := ⟨B, 0, none⟩) (show B < B + 1 by omega)).trans (H7.out.2.2.2.2.cell 0)) h7 h8
    case assign =>
      intro k W K hi' hk hz hK
      rw [H7.out.2.1] at hz
      have HK := Lib.hid hK
      have HKI := Lib.hid hi'
      clear hK hi'
      gi_wp2
      exact HK.out _ _ rfl (Ch.refl _ _) HKI.out (fun _ h => h)
    case body =>
      rintro j a' W hI hk rfl hz ⟨rec0, hrec⟩ hnl
      rw [H7.out.2.1] at hz hrec hnl ⊢
      have hkL : j < L.length := by rw [HNN.out]; exact hk
      have hil := HLt.out j hk
      have hst := HSn.out j hk
      rw [nth_ints hkL]
      obtain ⟨q, hq'⟩ : ∃ i, L.getD j 0 = i := ⟨_, rfl⟩
      rw [hq'] at hil hst ⊢
      have hq2 : (q : Int) < 16 := by omega
      have HW2 := Lib.hid (HB2.out W _ hI)
      have HLs := Lib.hid (fun (wx : World) (hb : Below W.heap.size W wx) => HLe.out wx ((HBe.out W _ hI).trans (hb.mono (HBe.out W _ hI).size)) j q hil)
      have HRw := Lib.hid (show ∀ wx, Below W.heap.size W wx → RowAt wx T 27 (C (f j)) from fun wx hb => hI.2.new hb)
      have HAx := Lib.hid (show ∀ wx, Below W.heap.size W wx → ((wx.cell? ⟨Z, 0, none⟩ = some (.int .i64 x.res) ∧ wx.cell? ⟨Z, 1, none⟩ = some (.slice S.t.sp nT S.t.c) ∧ wx.cell? ⟨Z, 2, none⟩ = some (.slice S.m.sp nM S.m.c) ∧ wx.cell? ⟨Z, 3, none⟩ = some (.slice S.e.sp nE S.e.c)) ∧ wx.cell? ⟨Z + 1, 0, none⟩ = some (.int .i64 k)) from fun wx hb => (HA.out wx (HW2.out.trans (hb.mono HW2.out.size))).1)
      obtain ⟨v, hv⟩ : ∃ v, r j q = v := ⟨_, rfl⟩
      rw [hv] at HLs hst
      have HI := Lib.hid hI
      have HSt := Lib.hid hst
      clear hI hst hkL hrec hnl hq' hv
      gi_wp2
      refine wpIn_region_g0 (fun w' => Below W.heap.size W w') 9 (by kernel_rfl) (by kernel_rfl) (fun _ _ h => h) (below_dn (Below.refl _ _) 1) (fun hS => ?_)
      refine wpAnyG_take (i := 0) (oi := { dst := some 24, op := .move (.tmp 8), type := 3, pos := "offset.go:52", after := #[], guard := none }) (v := ?_) rfl (by kernel_rfl) (by kernel_rfl) (by kernel_rfl) (by kernel_rfl) (fun _ _ _ h => h) (Or.inl ⟨by rfl, ?_⟩) hS ?_
      rotate_left 1
      · intro w hw; go_simp; try (with_reducible rfl)
      simp only [Act.put, List.setIfInBounds_toArray, List.set_cons_zero, List.set_cons_succ]
      refine wpAnyG_take (i := 1) (oi := { dst := some 25, op := .load 26 (.tmp 2), type := 26, pos := "offset.go:52", after := #[], guard := none }) (v := ?_) rfl (by kernel_rfl) (by kernel_rfl) (by kernel_rfl) (by kernel_rfl) (fun _ _ _ h => h) (Or.inl ⟨by rfl, ?_⟩) hS ?_
      rotate_left 1
      · intro w hw; obtain ⟨⟨k0, k1, k2, k3⟩, k4⟩ := HAx.out _ hw; go_simp; try (with_reducible rfl)
      simp only [Act.put, List.setIfInBounds_toArray, List.set_cons_zero, List.set_cons_succ]
      refine wpAnyG_take (i := 2) (oi := { dst := some 26, op := .load 3 (.tmp 3), type := 3, pos := "offset.go:52", after := #[], guard := none }) (v := ?_) rfl (by kernel_rfl) (by kernel_rfl) (by kernel_rfl) (by kernel_rfl) (fun _ _ _ h => h) (Or.inl ⟨by rfl, ?_⟩) hS ?_
      rotate_left 1
      · intro w hw; obtain ⟨⟨k0, k1, k2, k3⟩, k4⟩ := HAx.out _ hw; go_simp; try (with_reducible rfl)
      simp only [Act.put, List.setIfInBounds_toArray, List.set_cons_zero, List.set_cons_succ]
      refine wpAnyG_take (i := 3) (oi := { dst := some 27, op := .load 27 (.tmp 7), type := 27, pos := "offset.go:52", after := #[], guard := none }) (v := (.agg (C (f j)))) rfl (by kernel_rfl) (by kernel_rfl) (by kernel_rfl) (by kernel_rfl) (fun _ _ _ h => h) (Or.inl ⟨by rfl, ?_⟩) hS ?_
      · intro w hw; exact exec_load_row 27 (.tmp 7) (by exact rfl) T (by exact rfl) 27 (C (f j)) (0, 0) _ (HRw.out _ hw) Tryd.underlying27 rfl (HTi.out _).1
      simp only [Act.put, List.setIfInBounds_toArray, List.set_cons_zero, List.set_cons_succ]
      refine wpAnyG_take (i := 4) (oi := { dst := some 28, op := .move (.tmp 8), type := 3, pos := "offset.go:52", after := #[], guard := none }) (v := ?_) rfl (by kernel_rfl) (by kernel_rfl) (by kernel_rfl) (by kernel_rfl) (fun _ _ _ h => h) (Or.inl ⟨by rfl, ?_⟩) hS ?_
      rotate_left 1
      · intro w hw; go_simp; try (with_reducible rfl)
      simp only [Act.put, List.setIfInBounds_toArray, List.set_cons_zero, List.set_cons_succ]
      refine wpAnyG_ready (rs := [5]) (by kernel_rfl) (by simp) (AllReadyG.cons (o := { dst := some 29, op := .buildSlice 44 1 #[(0, .tmp 28)], type := 44, pos := "offset.go:52", after := #[{ on := 4, ground := .data }], guard := none }) rfl (fun K hK => ?_) AllReadyG.nil)
      go_simp
      obtain ⟨w5, hw5⟩ : ∃ w5, (W.alloc (.cells #[.int .i64 (q : Nat)] 3)).drew = w5 := ⟨_, rfl⟩
      have H5 := Lib.hid (show Below W.heap.size W w5 ∧ RowAt w5 W.heap.size 3 #[.int .i64 (q : Nat)] by rw [← hw5]; exact ⟨below_dn ((Below.refl _ W).alloc (Nat.le_refl _) _) 1, RowAt.new (RowAt.mk W _ _) (below_dn (Below.refl _ _) 1)⟩)
      rw [hw5]
      clear hw5
      try dsimp only
      refine hK.out _ _ H5.out.1 (fun hHeld => ?_)
      clear hK K
      try simp only [Act.put, List.setIfInBounds_toArray, List.set_cons_zero, List.set_cons_succ]
      refine wpAnyG_ready (rs := [6]) (by kernel_rfl) (by simp) (AllReadyG.cons (o := { dst := some 30, op := .call { callee := .value (.func 55), args := #[.tmp 29], argTypes := #[44] }, type := 31, pos := "offset.go:52", after := #[{ on := 5, ground := .data }], guard := none }) rfl (fun K hK => ?_) AllReadyG.nil)
      go_simp
      go_at_call 55
      refine (HM.out _ _ q H5.out.2).mono ?_
      rintro e w' ⟨rfl, rfl⟩
      try dsimp only
      refine hK.out _ _ H5.out.1 (fun hHeld => ?_)
      clear hK K
      try simp only [Act.put, List.setIfInBounds_toArray, List.set_cons_zero, List.set_cons_succ]
      refine wpAnyG_ready (rs := [7]) (by kernel_rfl) (by simp) (AllReadyG.cons (o := { dst := some 31, op := .call { callee := .value (.func 54), args := #[.tmp 25, .tmp 26, .tmp 27, .tmp 30], argTypes := #[26, 3, 27, 31] }, type := 3, pos := "offset.go:52", after := #[{ on := 1, ground := .data }, { on := 2, ground := .data }, { on := 3, ground := .data }, { on := 6, ground := .data }, { on := 6, ground := .chain }], guard := none }) rfl (fun K hK => ?_) AllReadyG.nil)
      go_simp
      go_at_call 54
      refine (HLs.out _ H5.out.1).mono ?_
      rintro e w8 ⟨rfl, b8⟩
      have H8 := Lib.hid (show Below W.heap.size W w8 from H5.out.1.trans (b8.mono H5.out.1.size))
      clear b8
      have k0 : w8.cell? ⟨T, q, none⟩ = some (.int .i64 (f j q)) := ((HRw.out _ H8.out).cell q).trans (HCell.out _ q hil)
      have e0 : w8.frozen? ⟨T, q, none⟩ = false := (HRw.out _ H8.out).fr q
      try dsimp only
      refine hK.out _ _ H8.out (fun hHeld => ?_)
      clear hK K
      try simp only [Act.put, List.setIfInBounds_toArray, List.set_cons_zero, List.set_cons_succ]
      refine wpAnyG_take (i := 8) (oi := { dst := some 32, op := .indexAddr 27 (.tmp 7) (.tmp 24), type := 0, pos := "offset.go:52", after := #[{ on := 0, ground := .data }, { on := 0, ground := .phase }, { on := 1, ground := .phase }, { on := 2, ground := .phase }, { on := 3, ground := .phase }, { on := 4, ground := .phase }, { on := 5, ground := .phase }, { on := 6, ground := .phase }, { on := 7, ground := .phase }], guard := none }) (v := ?_) rfl (by kernel_rfl) (by kernel_rfl) (by kernel_rfl) (by kernel_rfl) (fun _ _ _ h => h) (Or.inl ⟨by rfl, ?_⟩) H8.out ?_
      rotate_left 1
      · intro w hw; go_simp; try (with_reducible rfl)
      simp only [Act.put, List.setIfInBounds_toArray, List.set_cons_zero, List.set_cons_succ]
      refine wpAnyG_ready (rs := [9]) (by kernel_rfl) (by simp) (AllReadyG.last (o := { dst := none, op := .store 3 (.tmp 32) (.tmp 31), type := 0, pos := "offset.go:52", after := #[{ on := 8, ground := .data }, { on := 7, ground := .data }, { on := 7, ground := .chain }, { on := 0, ground := .phase }, { on := 1, ground := .phase }, { on := 2, ground := .phase }, { on := 3, ground := .phase }, { on := 4, ground := .phase }, { on := 5, ground := .phase }, { on := 6, ground := .phase }, { on := 7, ground := .phase }], guard := none }) rfl (fun K hK => ?_))
      go_simp
      have HC9 := Lib.hid (show Ch (fun j => j = T) W (w8.setCell ⟨T, q, none⟩ (.int .i64 (v : Nat))) from (Ch.new H8.out).setCell _ _ (.inl rfl))
      have hr := (HRw.out _ H8.out).setC q (.int .i64 (v : Nat))
      rw [HSet.out, ← HSt.out] at hr
      have HR9 := Lib.hid hr
      clear hr k0 e0
      try dsimp only
      refine hK.out _ _ ?_
      clear hK K
      try simp only [Act.put, List.setIfInBounds_toArray, List.set_cons_zero, List.set_cons_succ]
      refine wpAnyG_done (by kernel_rfl) ?_ _

      exact ⟨⟨HC9.out.mono fun j _ (h : j = T) => show j < B + 1 by have := H7.out.2.2.1; omega, fun j hj => .inl hj⟩, HI.out.1.trans HC9.out, HR9.out⟩
    case done =>
      rintro A hI hD hnD hz
      rw [H7.out.2.1] at hD hnD hz
      rw [H7.out.2.1]
      have HI := Lib.hid hI
      have HD := Lib.hid (And.intro hD hz)
      have HR2 := Lib.hid (HA.out _ (HB2.out A _ hI)).2.1
      have HBA := Lib.hid (HBe.out A _ hI)
      clear hI hD hnD hz
      gi_wp2_with (first
        | (refine wpListIn_load_rowW rfl 27 (.tmp 7) rfl T rfl 27 (C (f N)) (0, 0) _ HI.out.2 Tryd.underlying27 rfl (HTi.out _).1 ?_)
        | (refine wpListIn_store_rowW rfl 27 (.tmp 4) (.tmp 33) rfl (Z + 2) (C (f N)) rfl rfl 27 (C zF) HR2.out (HTi.out _).1 (by rw [(HTi.out _).2.1, (HTi.out _).2.1]) (HTi.out _).2.2 ?_; generalize hw9 : World.setRow _ _ _ = w9)
        | fail)
      have hR9 : RowAt w9 (Z + 2) 27 (C (f N)) := by rw [← hw9]; exact HR2.out.put
      have hc9 : Ch (fun j => j = Z + 2) A w9 := by rw [← hw9]; exact ch_setRow _ _ _
      have hBz : Z + 4 ≤ B := by have := HT3.out; have := H7.out.2.2.1; omega
      have hrec : w9.heap[B + 1]? = some (.deferred (some [])) := (hc9.block (B + 1) (by have := HD.out.2; omega) (by omega)).trans HD.out.1
      have hB9 : Below w.heap.size w w9 := HBA.out.trans (hc9.below (fun j hj e => by have := HZ.out; omega) HBA.out.size)
      have hp : Ch (fun j => j = B + 1) w9 (w9.putObj (B + 1) (.deferred none)) := (Ch.refl _ _).putObj _ _ rfl
      refine ⟨by simp, .inl ⟨_, _, rfl, run_takeDeferred hrec, ?_⟩⟩
      have hZ := HZ.out
      exact ⟨_, results_rowN rfl _ _ (Z + 2) 27 (C (f N)) _ rfl (hR9.keep hp (by omega)) Tryd.underlying27 rfl (HTi.out _).1, rfl, hB9.trans (hp.below (fun j hj e => by have e' : j = B + 1 := e; omega) hB9.size)⟩
end Go.Proofs.YtchmdnmifpjfkaaDoor
/- The law's fits, fresh and all. -/
namespace Go.Proofs.YtchmdnmifpjfkaaDoor
open Go.RowKit

set_option maxHeartbeats 4000000 in
set_option maxRecDepth 100000 in
theorem l20fits_any {w : World} {V : Nat → Prop} {x : Img} {S : ImgS} (h : ImgOk w V x S) (k : Int) (l : Nat → Int) (hl : ∀ j, j < 16 → 0 ≤ l j ∧ l j ≤ 16384) :
    Calls Tryd.prog 23 #[.agg #[.int .i64 x.res, .slice S.t.sp x.tasks.length S.t.c, .slice S.m.sp x.modes.length S.m.c, .slice S.e.sp x.edges.length S.e.c], .int .i64 k, .agg (tml l).toArray] w fun e w' => e = .returned (.bool (fitE x k l)) ∧ Below w.heap.size w w' := by
  have HN := Lib.hid (fun (wx : World) (hb : Below w.heap.size w wx) => wnNew_all (h.new hb) k l hl)
  have HS := Lib.hid (fun (wx : World) (hb : Below w.heap.size w wx) => nwSpan_all (h.new hb).tab x k l)
  have HF := Lib.hid (nwOk_in (x := x) (k := k) (l := l))
  have HTi := Lib.hid (show (Tryd.prog.info? 27).map (·.size) = some (tml l).toArray.size by rw [show (tml l).toArray.size = 16 by simp [tml_len]]; kernel_rfl)
  have HCs := Lib.hid (show (nwRes x k l).toArray.size = 51 ∧ (nwRes x k l).toArray.all (·.oneCell') = true by
    unfold nwRes newL
    split
    · exact ⟨by simp [shl_len], shl_cells1 _ _ _ _ _ _⟩
    · exact ⟨by simp [shl_len], shl_cells1 _ _ _ _ _ _⟩)
  have HInf := Lib.hid (show (Tryd.prog.info? 36).map (·.size) = some 51 by kernel_rfl)
  obtain ⟨CS, hCS⟩ : ∃ c, (nwRes x k l).toArray = c := ⟨_, rfl⟩
  rw [hCS] at HN HS HCs
  obtain ⟨bi, hbi⟩ : ∃ b, inE x k = b := ⟨_, rfl⟩
  obtain ⟨bo, hbo⟩ : ∃ b, nwOk x k l = b := ⟨_, rfl⟩
  rw [hbi] at HN HF
  rw [hbo] at HS HF
  obtain ⟨fr, hfr⟩ : ∃ b, fitE x k l = b := ⟨_, rfl⟩
  rw [hfr] at HF ⊢
  obtain ⟨nT, hnT⟩ : ∃ n, x.tasks.length = n := ⟨_, rfl⟩
  obtain ⟨nM, hnM⟩ : ∃ n, x.modes.length = n := ⟨_, rfl⟩
  obtain ⟨nE, hnE⟩ : ∃ n, x.edges.length = n := ⟨_, rfl⟩
  rw [hnT, hnM, hnE] at HN
  rw [hnT, hnM, hnE]
  obtain ⟨T, hT⟩ : ∃ T, (tml l).toArray = T := ⟨_, rfl⟩
  rw [hT] at HN HTi ⊢
  obtain ⟨Z, hZ⟩ : ∃ Z, Z = w.heap.size := ⟨_, rfl⟩
  have HZ := Lib.hid hZ
  clear h hCS hbi hbo hfr hnT hnM hnE hT hl
  go_enter Tryd.func23, Tryd.ntmps23
  go_upto_region 1 with fail
  rw [← hZ]
  generalize hw2 : World.alloc _ _ = w2
  have H2 := Lib.hid (show Below w.heap.size w w2 ∧ RowAt w2 Z 26 #[.int .i64 x.res, .slice S.t.sp nT S.t.c, .slice S.m.sp nM S.m.c, .slice S.e.sp nE S.e.c] ∧ RowAt w2 (Z + 1) 27 T by
    rw [← hw2, hZ]
    exact ⟨((Below.refl _ _).alloc (Nat.le_refl _) _).alloc (by simp) _, row_keep (RowAt.mk _ _ _) _, row_next _ (w.heap.size + 1) (by simp) _ _⟩)
  clear hw2 hZ
  have a0 : w2.cell? ⟨Z, 0, none⟩ = some (.int .i64 x.res) := H2.out.2.1.cell 0
  have a1 : w2.cell? ⟨Z, 1, none⟩ = some (.slice S.t.sp nT S.t.c) := H2.out.2.1.cell 1
  have a2 : w2.cell? ⟨Z, 2, none⟩ = some (.slice S.m.sp nM S.m.c) := H2.out.2.1.cell 2
  have a3 : w2.cell? ⟨Z, 3, none⟩ = some (.slice S.e.sp nE S.e.c) := H2.out.2.1.cell 3
  go_upto_region 2 with (first
    | (refine wpList_load_row rfl 27 (.tmp 5) rfl (Z + 1) rfl 27 T (0, 0) _ H2.out.2.2 Tryd.underlying27 rfl HTi.out ?_)
    | (go_at_call 10; refine (HN.out _ H2.out.1).mono ?_; rintro e w3 ⟨rfl, b3⟩; have H3 := Lib.hid (H2.out.1.trans (b3.mono H2.out.1.size)); clear b3 a0 a1 a2 a3)
    | (refine wpList_store_row rfl 36 (.tmp 7) (.tmp 16) rfl w3.heap.size CS rfl rfl 36 (shl_ 0#32 0#32 0#32 zF zF zF).toArray (RowAt.mk w3 _ _) (by rw [HInf.out, HCs.out.1]) (by rw [HCs.out.1]; simp [shl_len]) HCs.out.2 ?_; generalize hw4 : World.setRow _ _ _ = w4)
    | fail)
  (try simp only [Act.put, List.setIfInBounds_toArray, List.set_cons_zero, List.set_cons_succ])
  have H4 := Lib.hid (show Below w.heap.size w w4 ∧ RowAt w4 w3.heap.size 36 CS by
    have b4 := alloc_row w3 (shl_ 0#32 0#32 0#32 zF zF zF).toArray CS 36
    rw [← hw4]
    exact ⟨H3.out.trans (b4.1.mono H3.out.size), b4.2⟩)
  obtain ⟨Bs, hBs⟩ : ∃ b, w3.heap.size = b := ⟨_, rfl⟩
  rw [hBs] at H4 ⊢
  clear hw4 hBs
  obtain ⟨sa, sb, hsp⟩ := HS.out w4 H4.out.1
  have HSp := Lib.hid hsp
  clear hsp
  have hf : fr = (bi && bo) := HF.out.symm
  subst hf
  cases bi <;> cases bo
  all_goals
    go_wp2_with (first
      | (refine wpList_load_row rfl 36 (.tmp 7) rfl Bs rfl 36 CS (0, 0) _ H4.out.2 Tryd.underlying36 rfl (by rw [HInf.out, HCs.out.1]) ?_)
      | (go_at_call 18; refine HSp.out.mono ?_; rintro e w5 ⟨rfl, b5⟩; have H5 := Lib.hid (H4.out.1.trans (b5.mono H4.out.1.size)); clear b5)
      | fail)
    go_ret
    exact ⟨rfl, H5.out.alloc H5.out.size _⟩
set_option maxHeartbeats 4000000 in
set_option maxRecDepth 100000 in
theorem l20fresh_any {w : World} {V : Nat → Prop} {x : Img} {S : ImgS} (h : ImgAt w V x S) (hr : rightB x = true) (k : Nat) (hk : k < x.edges.length) (i : Nat) (hi : i < 16) :
    Calls Tryd.prog 26 #[.agg #[.int .i64 x.res, .slice S.t.sp x.tasks.length S.t.c, .slice S.m.sp x.modes.length S.m.c, .slice S.e.sp x.edges.length S.e.c], .int .i64 (k : Nat), .int .i64 (i : Nat)] w fun e w' => e = .returned (.bool ((frE x (k : Int)).getLsbD i)) ∧ Below w.heap.size w w' := by
  have HS := Lib.hid (show ∀ wx, Below w.heap.size w wx → _ from fun wx hb => sets19_any (h.new hb) hr k hk)
  have hb : (frE x (k : Int)).getLsbD i = ((edgeB x k).getLsbD i && !(edgeA x k).getLsbD i) := by
    unfold frE
    rw [btw_bit _ _ _ _ (by omega)]
    simp [show i < 32 by omega, show (i : Int) < 16 by omega, show (-1 : Int) < (i : Int) by omega]
  obtain ⟨A, hA⟩ : ∃ A, edgeA x (k : Int) = A := ⟨_, rfl⟩
  obtain ⟨B, hB⟩ : ∃ B, edgeB x (k : Int) = B := ⟨_, rfl⟩
  rw [hA, hB] at HS hb
  have HH := Lib.hid (fun (s : BitVec 32) (wx : World) => show Calls Tryd.prog 41 #[.int .u32 (w32 s), .int .i64 (i : Nat)] wx fun e w' => e = .returned (.bool (s.getLsbD i)) ∧ wx = w' by
    have h := has10_any s (i : Int) wx
    rw [hasB_nat s i (by omega)] at h
    exact h)
  have HHB := Lib.hid (HH.out B)
  have HHA := Lib.hid (HH.out A)
  rw [hb]
  obtain ⟨ba, hba⟩ : ∃ b, A.getLsbD i = b := ⟨_, rfl⟩
  obtain ⟨bb, hbb⟩ : ∃ b, B.getLsbD i = b := ⟨_, rfl⟩
  rw [hba] at HHA ⊢
  rw [hbb] at HHB ⊢
  obtain ⟨nT, hnT⟩ : ∃ n, x.tasks.length = n := ⟨_, rfl⟩
  obtain ⟨nM, hnM⟩ : ∃ n, x.modes.length = n := ⟨_, rfl⟩
  obtain ⟨nE, hnE⟩ : ∃ n, x.edges.length = n := ⟨_, rfl⟩
  rw [hnT, hnM, hnE] at HS
  rw [hnT, hnM, hnE]
  have HBX := Lib.hid ((Below.refl w.heap.size w).alloc (Nat.le_refl _) (.cells #[.int .i64 x.res, .slice S.t.sp nT S.t.c, .slice S.m.sp nM S.m.c, .slice S.e.sp nE S.e.c] 26))
  clear h hb hba hbb hnT hnM hnE hA hB HH
  cases bb
  all_goals
    go_enter Tryd.func26, Tryd.ntmps26
    go_wp2_with (first
      | (go_at_call 40; refine (HS.out _ HBX.out).mono ?_; rintro e w3 ⟨rfl, b3⟩; have H3 := Lib.hid (HBX.out.trans (b3.mono HBX.out.size)); clear b3)
      | (go_at_call 41; (first | (with_reducible refine (HHB.out _).mono ?_) | (with_reducible refine (HHA.out _).mono ?_)); rintro e w4 ⟨rfl, rfl⟩)
      | fail)
    go_ret
    exact ⟨by cases ba <;> rfl, H3.out⟩
/-- Where all's boxes lie. -/
structure AlAt (w : World) (Z : Nat) (I r cs : Array Value) (W : World) : Prop where
  b0 : Below w.heap.size w W
  im : RowAt W Z 26 I
  rs : RowAt W (Z + 1) 27 r
  sh : RowAt W (Z + 2) 27 cs
theorem AlAt.next {w W W' : World} {Z : Nat} {I r cs : Array Value} (h : AlAt w Z I r cs W) (hb : Below W.heap.size W W') : AlAt w Z I r cs W' :=
  ⟨h.b0.trans (hb.mono h.b0.size), h.im.new hb, h.rs.new hb, h.sh.new hb⟩
theorem AlAt.set {w W : World} {Z : Nat} {I r cs : Array Value} (h : AlAt w Z I r cs W) (hw : w.heap.size ≤ Z) (j : Nat) (v : Value) : AlAt w Z I r (cs.setIfInBounds j v) (W.setCell ⟨Z + 2, j, none⟩ v) := by
  have hc : Ch (fun b => b = Z + 2) W (W.setCell ⟨Z + 2, j, none⟩ v) := (Ch.refl _ _).setCell _ v (.inl rfl)
  exact ⟨h.b0.setCell (by show w.heap.size ≤ Z + 2; omega) v, h.im.keep hc (by omega), h.rs.keep hc (by omega), h.sh.setC j v⟩
def alF (s : BitVec 32) (n : Int) (i j : Nat) : Int := if j < i ∧ s.getLsbD j = true then n else 0
theorem alF_yes {s : BitVec 32} {n : Int} {i : Nat} (h : s.getLsbD i = true) : alF s n (i + 1) = updF (alF s n i) i n := by
  funext j
  unfold alF updF
  by_cases e : j = i
  · subst e; simp [h]
  · simp [e, show j < i + 1 ↔ j < i by omega]
theorem alF_no {s : BitVec 32} {n : Int} {i : Nat} (h : s.getLsbD i = false) : alF s n (i + 1) = alF s n i := by
  funext j
  unfold alF
  by_cases e : j = i
  · subst e; simp [h]
  · simp [show j < i + 1 ↔ j < i by omega]
set_option maxHeartbeats 4000000 in
set_option maxRecDepth 100000 in
theorem l20all_any {w : World} {V : Nat → Prop} {x : Img} {S : ImgS} (h : ImgAt w V x S) (hr : rightB x = true) (k : Nat) (hk : k < x.edges.length) (n : Int) :
    Calls Tryd.prog 24 #[.agg #[.int .i64 x.res, .slice S.t.sp x.tasks.length S.t.c, .slice S.m.sp x.modes.length S.m.c, .slice S.e.sp x.edges.length S.e.c], .int .i64 (k : Nat), .int .i64 n] w fun e w' => e = .returned (.agg (tml (wdF zF (frE x (k : Int)) n)).toArray) ∧ Below w.heap.size w w' := by
  have HFr := Lib.hid (fun (wx : World) (hb : Below w.heap.size w wx) (i : Nat) (hi : i < 16) => l20fresh_any (h.new hb) hr k hk i hi)
  have HTi := Lib.hid tml_ok
  obtain ⟨fs, hfs⟩ : ∃ b, frE x (k : Int) = b := ⟨_, rfl⟩
  rw [hfs] at HFr ⊢
  have HRs := Lib.hid (show (tml (alF fs n 16)).toArray = (tml (wdF zF fs n)).toArray by rw [tml_ext fun j hj => show alF fs n 16 j = wdF zF fs n j by unfold alF wdF zF; simp [hj]])
  have HY := Lib.hid (fun i (hb : fs.getLsbD i = true) => show (tml (alF fs n i)).toArray.setIfInBounds i (.int .i64 n) = (tml (alF fs n (i + 1))).toArray by rw [List.setIfInBounds_toArray, tml_set, alF_yes hb])
  have HNo := Lib.hid (fun i (hb : fs.getLsbD i = false) => show (tml (alF fs n i)).toArray = (tml (alF fs n (i + 1))).toArray by rw [alF_no hb])
  have H0 := Lib.hid (show (tml zF).toArray = (tml (alF fs n 0)).toArray by rw [tml_ext fun j hj => show zF j = alF fs n 0 j by unfold alF zF; simp])
  have HCell := Lib.hid (show ∀ g : Nat → Int, ∀ i, i < 16 → (tml g).toArray[i]? = some (.int .i64 (g i)) from fun g i hi => by rw [List.getElem?_toArray]; exact tml_at g i hi)
  rw [← HRs.out]
  obtain ⟨C, hC⟩ : ∃ C : (Nat → Int) → Array Value, (fun g => (tml g).toArray) = C := ⟨_, rfl⟩
  have hCe : ∀ g, (tml g).toArray = C g := fun g => by rw [← hC]
  simp only [hCe] at HTi HCell HY HNo H0 ⊢
  have HC0 := Lib.hid hCe
  obtain ⟨f, hf⟩ : ∃ f, alF fs n = f := ⟨_, rfl⟩
  rw [hf] at HY HNo H0 ⊢
  obtain ⟨nT, hnT⟩ : ∃ n, x.tasks.length = n := ⟨_, rfl⟩
  obtain ⟨nM, hnM⟩ : ∃ n, x.modes.length = n := ⟨_, rfl⟩
  obtain ⟨nE, hnE⟩ : ∃ n, x.edges.length = n := ⟨_, rfl⟩
  rw [hnT, hnM, hnE] at HFr
  rw [hnT, hnM, hnE]
  obtain ⟨Z, hZ⟩ : ∃ Z, Z = w.heap.size := ⟨_, rfl⟩
  have HZ := Lib.hid hZ
  clear h hr hk hfs HRs hC hCe hnT hnM hnE hf
  go_enter Tryd.func24, Tryd.ntmps24
  go_upto_region 2 with fail
  rw [show w.heap.size + 1 + 1 = Z + 2 by omega, show w.heap.size + 1 = Z + 1 by omega, ← hZ]
  generalize hw2 : World.alloc (World.alloc (World.alloc w _) _) _ = w2
  have H2 := Lib.hid (show AlAt w Z #[.int .i64 x.res, .slice S.t.sp nT S.t.c, .slice S.m.sp nM S.m.c, .slice S.e.sp nE S.e.c] (C zF) (C (f 0)) w2 by
    rw [hZ]
    obtain ⟨g1, g2, g3, g4, g5⟩ := rows3 w #[.int .i64 x.res, .slice S.t.sp nT S.t.c, .slice S.m.sp nM S.m.c, .slice S.e.sp nE S.e.c] (C zF) (C zF) 26 27 27
    have e : ((w.alloc (.cells #[.int .i64 x.res, .slice S.t.sp nT S.t.c, .slice S.m.sp nM S.m.c, .slice S.e.sp nE S.e.c] 26)).alloc (.cells (C zF) 27)).alloc (.cells (C zF) 27) = w2 := by rw [← hw2, ← HC0.out zF]; rfl
    rw [e] at g1 g2 g3 g4 g5
    rw [H0.out] at g5
    exact ⟨g1, g3, g4, g5⟩)
  clear hw2 hZ
  go_wp2
  go_loopg [8] 16 (fun g u wr => ∃ i : Nat, u = .int .i64 (i : Nat) ∧ i + g = 16 ∧ Aside (AlAt w Z #[.int .i64 x.res, .slice S.t.sp nT S.t.c, .slice S.m.sp nM S.m.c, .slice S.e.sp nE S.e.c] (C zF) (C (f i)) wr))
  case atStart => exact ⟨0, rfl, rfl, H2.out⟩
  case round =>
    obtain ⟨i, rfl, hig, HK⟩ := hrel
    cases gk with
    | zero =>
      obtain rfl : i = 16 := by omega
      go_wp2_with (first
        | (refine wpList_load_row rfl 27 (.tmp 7) rfl (Z + 2) rfl 27 (C (f 16)) (0, 0) _ HK.out.sh Tryd.underlying27 rfl (HTi.out _).1 ?_)
        | (refine wpList_store_row rfl 27 (.tmp 6) (.tmp 20) rfl (Z + 1) (C (f 16)) rfl rfl 27 (C zF) HK.out.rs (HTi.out _).1 (by rw [(HTi.out _).2.1, (HTi.out _).2.1]) (HTi.out _).2.2 ?_; generalize hw9 : World.setRow _ _ _ = w9)
        | fail)
      have hR9 : RowAt w9 (Z + 1) 27 (C (f 16)) := by rw [← hw9]; exact HK.out.rs.put
      have hB9 : Below w.heap.size w w9 := by rw [← hw9]; exact below_row HK.out.b0 (Nat.le_refl _) (by have := HZ.out; omega) _
      exact bodyPost_ret (results_cell_row rfl _ _ (Z + 1) 27 (C (f 16)) (0, 0) _ rfl hR9 Tryd.underlying27 rfl (HTi.out _).1) rfl ⟨rfl, hB9⟩
    | succ g1 =>
      have hi : i < 16 := by omega
      have hi2 : (i : Int) < 16 := by omega
      have HC := Lib.hid (HFr.out wr HK.out.b0 i hi)
      have HYi := Lib.hid (HY.out i)
      have HNi := Lib.hid (HNo.out i)
      have c0 : wr.cell? ⟨Z, 0, none⟩ = some (.int .i64 x.res) := HK.out.im.cell 0
      have c1 : wr.cell? ⟨Z, 1, none⟩ = some (.slice S.t.sp nT S.t.c) := HK.out.im.cell 1
      have c2 : wr.cell? ⟨Z, 2, none⟩ = some (.slice S.m.sp nM S.m.c) := HK.out.im.cell 2
      have c3 : wr.cell? ⟨Z, 3, none⟩ = some (.slice S.e.sp nE S.e.c) := HK.out.im.cell 3
      obtain ⟨b, hb⟩ : ∃ b, fs.getLsbD i = b := ⟨_, rfl⟩
      rw [hb] at HC HYi HNi
      clear hb
      cases b with
      | true =>
        have hy := HYi.out rfl
        go_wp2_with (first
          | (go_at_call 26; refine HC.out.mono ?_; rintro e w5 ⟨rfl, b5⟩; have H5 := Lib.hid (HK.out.next b5); clear b5 c0 c1 c2 c3; have k0 : w5.cell? ⟨Z + 2, i, none⟩ = some (.int .i64 (f i i)) := (H5.out.sh.cell i).trans (HCell.out _ i hi); have e0 : w5.frozen? ⟨Z + 2, i, none⟩ = false := H5.out.sh.fr i)
          | fail)
        go_roundg g1
        case measure => omega
        case rel =>
          have h9 := H5.out.set (by have := HZ.out; omega) i (.int .i64 n)
          rw [hy] at h9
          exact ⟨i + 1, by go_num, by omega, h9⟩
      | false =>
        have hy := HNi.out rfl
        go_wp2_with (first
          | (go_at_call 26; refine HC.out.mono ?_; rintro e w5 ⟨rfl, b5⟩; have H5 := Lib.hid (HK.out.next b5); clear b5 c0 c1 c2 c3)
          | fail)
        go_roundg g1
        case measure => omega
        case rel =>
          have h9 := H5.out
          rw [hy] at h9
          exact ⟨i + 1, by go_num, by omega, h9⟩
end Go.Proofs.YtchmdnmifpjfkaaDoor
/- When two rows of numbers are the same to the program. -/
namespace Go.Proofs.YtchmdnmifpjfkaaDoor
open Go.RowKit

theorem infoIX : ∃ i, Tryd.prog.info? 3 = some i ∧ i.size = 1 := by
  have h : (Tryd.prog.info? 3).map (·.size) = some 1 := by kernel_rfl
  cases hi : Tryd.prog.info? 3 with
  | none => rw [hi] at h; cases h
  | some i => rw [hi] at h; exact ⟨i, rfl, by simpa using h⟩
theorem rowZ_at (l : List Int) {k : Nat} (hk : k < l.length) : (rowZ l).toArray[k]? = some (.int .i64 (l.getD k 0)) := by
  simp [rowZ, hk, List.getD]
theorem part_row (l : List Int) {k : Nat} (hk : k < l.length) (w : World) : (part 3 (rowZ l).toArray (k * 1)).run Tryd.prog w = .ok (.int .i64 (l.getD k 0)) w := by
  have h1 := rowZ_at l hk
  rw [Nat.mul_one]
  simp only [part, Sem.run_bind, show (isAgg 3).run Tryd.prog w = .ok false w from by simp [go_sem], Result.andThen_ok, Bool.false_eq_true, if_false, h1, Sem.run_pure]
theorem eqItems_row (d : Nat) (a b : List Int) (hl : a.length = b.length) (w : World) : ∀ is : List Nat, (∀ i ∈ is, i < a.length) → (Op.eqItems (d + 1) 3 1 (rowZ a).toArray (rowZ b).toArray is).run Tryd.prog w = .ok (is.all fun i => a.getD i 0 == b.getD i 0) w
  | [], _ => by simp [Op.eqItems]
  | i :: is, h => by
    have h1 := part_row a (h i (by simp)) w
    have h2 := part_row b (k := i) (by rw [← hl]; exact h i (by simp)) w
    have ih := eqItems_row d a b hl w is (fun j hj => h j (by simp [hj]))
    have h3 := run_equalIn_int (P := Tryd.prog) w d 3 .i64 .i64 (a.getD i 0) (b.getD i 0) Tryd.underlying3
    simp only [Op.eqItems, Sem.run_bind, h1, h2, h3, Result.andThen_ok, List.all_cons]
    cases hb : (a.getD i 0 == b.getD i 0)
    · simp
    · simp only [Bool.not_true, Bool.false_eq_true, if_false, ih, Bool.true_and]
theorem getD_ext {a b : List Int} (hl : a.length = b.length) : ((List.range a.length).all fun i => a.getD i 0 == b.getD i 0) = decide (a = b) := by
  rw [Bool.eq_iff_iff, List.all_eq_true, decide_eq_true_iff]
  constructor
  · intro h
    refine List.ext_getElem hl fun i h1 h2 => ?_
    have := h i (List.mem_range.2 h1)
    simpa [List.getD, h1, h2] using this
  · rintro rfl i _
    simp
theorem eqIn_arr (d n : Nat) {t : TypeId} (ht : Tryd.prog.underlying t = some (.array n 3)) (a b : List Int) (ha : a.length = n) (hb : b.length = n) (w : World) :
    (Op.equalIn (d + 2) t (.agg (rowZ a).toArray) (.agg (rowZ b).toArray)).run Tryd.prog w = .ok (decide (a = b)) w := by
  obtain ⟨i, hi, -⟩ := infoIX
  have hl : a.length = b.length := by omega
  rw [run_equalIn_array w (d + 1) (rowZ a).toArray (rowZ b).toArray ht hi, show Tryd.prog.cellsOf 3 = 1 by kernel_rfl, eqItems_row d a b hl w _ (fun i hi => by rw [ha]; exact List.mem_range.1 hi), ← ha, getD_ext hl]
def z16 : Array Value := #[.int .i64 0, .int .i64 0, .int .i64 0, .int .i64 0, .int .i64 0, .int .i64 0, .int .i64 0, .int .i64 0, .int .i64 0, .int .i64 0, .int .i64 0, .int .i64 0, .int .i64 0, .int .i64 0, .int .i64 0, .int .i64 0]
theorem eq_z16 (w : World) : (Op.equalIn 10000 27 (.agg z16) (.agg z16)).run Tryd.prog w = .ok true w := by
  have h := eqIn_arr 9998 16 (t := 27) Tryd.underlying27 [0, 0, 0, 0, 0, 0, 0, 0, 0, 0, 0, 0, 0, 0, 0, 0] [0, 0, 0, 0, 0, 0, 0, 0, 0, 0, 0, 0, 0, 0, 0, 0] rfl rfl w
  exact h
end Go.Proofs.YtchmdnmifpjfkaaDoor
