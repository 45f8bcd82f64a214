/- The walk of the reference's Row. -/
import Derived.Test.YtkbmgilceioieaaDW
namespace Go.Proofs.Ytkbmgilceioieaa
open Go.RowKit

theorem run_append_zero {P : Program} (w : World) (t ty e : TypeId) (i : TypeInfo) (ht : P.underlying t = some (.slice e)) (hi : P.info? e = some i)
    (ad : Option Addr) (c : Nat) (sp : Option Addr) (cx : Nat) :
    (Builtin.append_ #[t, t] ty #[.slice ad 0 c, .slice sp 0 cx]).run P w = .ok (.slice ad 0 c) w := by
  cases ad <;> cases sp <;> simp [Builtin.append_, run_underlying ht, sizeOf, typeInfo, hi, Builtin.lenOf, Builtin.firstCells, loadCells, loadCellsFrom, storeCells]
theorem wpList_append_zero {P : Program} {ops : Array Oper} {rest : List Oper} {o : Oper} {a : Act} {w : World} {Q : Exit → Act → World → Prop} (hgd : o.guard = none) (s x : Operand) (t : TypeId)
    (ho : o.op = .call { callee := .builtin .append, args := #[s, x], argTypes := #[t, t] })
    (e : TypeId) (i : TypeInfo) (ht : P.underlying t = some (.slice e)) (hi : P.info? e = some i)
    (ad : Option Addr) (c : Nat) (hs : a.eval s = .slice ad 0 c) (sp : Option Addr) (cx : Nat) (hx : a.eval x = .slice sp 0 cx)
    (h : wpList P ops Q rest (a.put o.dst (.slice ad 0 c)) w) : wpList P ops Q (o :: rest) a w :=
  wpList_plain hgd fun K hK => by
    have hr := run_append_zero (P := P) w t o.type e i ht hi ad c sp cx
    unfold Oper.wp execOp
    simp only [ho, resolve, invoke, builtin, Sem.run_bind, Sem.run_pure, Result.andThen_ok, List.map_toArray, List.map_cons, List.map_nil, hs, hx, hr]
    exact hK _ _ h

/-- What the reference's Row gives. -/
def RowGives (w : World) (r : List (Int × Int)) (e : Ending) (w' : World) : Prop :=
  ∃ v O, e = .returned v ∧ w'.ownsRow w.heap.size 3 1 v (2 * O.length) (rowI (flatA O)) ∧ Below w.heap.size w w' ∧ Sel r O []

theorem refrow_nil (sp : Option Addr) (cap : Nat) (w : World) : Calls Try.prog 36 #[.slice sp 0 cap] w (RowGives w []) := by
  obtain ⟨i0, hi, hz0, hz1, hz2⟩ := info_parts info73
  go_enter Try.func36, Try.ntmps36
  go_wp2_with (at_builtin; refine wpList_append_zero rfl (.tmp 7) (.tmp 8) 58 rfl 73 i0 Try.underlying58 hi (some ⟨w.heap.size, 0, none⟩) 0 rfl sp cap rfl ?_)
  go_loopg [3, 4, 5, 6] 0 (fun g v u k i wr => v = .slice none 0 0 ∧ u = .slice (some ⟨w.heap.size, 0, none⟩) 0 0 ∧ Aside (wr = w.alloc (.cells #[] 73)))
  case atStart => exact ⟨rfl, rfl, rfl⟩
  case round =>
    obtain ⟨rfl, rfl, hw⟩ := hrel
    obtain rfl := hw.out
    clear hw
    go_wp2
    go_ret
    exact ⟨_, [], rfl, World.ownsRow_nil _ _ _ _, (Below.refl _ _).alloc (Nat.le_refl _) _, Sel.start []⟩

/-- The loop of the selection at a round's head. -/
def Sorting (w : World) (r : List (Int × Int)) (v u : Value) (O M : List (Int × Int)) (wr : World) : Prop := Two w v u O M wr ∧ Sel r O M
/-- The search for the first of the least. -/
def Seek (M : List (Int × Int)) (k i : Nat) : Prop := k < M.length ∧ (∀ j, j < i → aT M k ≤ aT M j) ∧ ∀ j, j < k → aT M k < aT M j
theorem Seek.yes {M : List (Int × Int)} {k i : Nat} (h : Seek M k i) (hi : i < M.length) (hlt : aT M i < aT M k) : Seek M i (i + 1) :=
  ⟨hi, fun j hj => by
    by_cases e : j = i
    · rw [e]; exact Int.le_refl _
    · have := h.2.1 j (by omega); omega, fun j hj => by have := h.2.1 j hj; omega⟩
theorem Seek.no {M : List (Int × Int)} {k i : Nat} (h : Seek M k i) (hlt : ¬ aT M i < aT M k) : Seek M k (i + 1) :=
  ⟨h.1, fun j hj => by
    by_cases e : j = i
    · rw [e]; omega
    · exact h.2.1 j (by omega), h.2.2⟩

theorem split_at' (M : List (Int × Int)) (k : Nat) (hk : k < M.length) : (M.take k).length = k ∧ (M.drop (k + 1)).length = M.length - (k + 1) ∧ (M.take (k + 1)).length = k + 1 := by
  refine ⟨?_, ?_, ?_⟩ <;> simp only [List.length_take, List.length_drop] <;> omega
theorem stretch' {w : World} {g : Nat} {M : List (Int × Int)} {k : Nat} (hk : k < M.length) (h : ∀ j u, (rowI (flatA M))[j]? = some u → w.cell? ((⟨g, 0, none⟩ : Addr).add j) = some u) :
    ∀ j u, (rowI (flatA (M.drop (k + 1))))[j]? = some u → w.cell? ((⟨g, (k + 1) * 2, none⟩ : Addr).add j) = some u := by
  have := stretch (g := g) (M := M) (A := M.take (k + 1)) (B := M.drop (k + 1)) (C := []) (by rw [List.append_nil, List.take_append_drop]) h
  rwa [(split_at' M k hk).2.2] at this
theorem own_cap {w : World} {base : Nat} {e : TypeId} {size : Nat} {a : Option Addr} {n cap : Nat} {xs : List Value} (h : w.ownsRow base e size (.slice a n cap) n xs) : n ≤ cap ∧ cap ≤ maxLen := by
  rcases h.2 with ⟨h0, h1⟩ | ⟨g, c, cur, hv, _, _, h1, h2, _⟩
  · injection h0 with _ _ h0; rw [h0, h1]; exact ⟨Nat.le_refl _, Nat.zero_le _⟩
  · injection hv with _ _ hv; rw [hv]; exact ⟨h1, h2⟩

set_option maxRecDepth 100000 in
set_option maxHeartbeats 4000000 in
theorem refrow_some (r : List (Int × Int)) (g cap : Nat) (w : World) (h : RowT w (some ⟨g, 0, none⟩) g r) (hlen : r.length ≤ 1000) (h0 : 0 < r.length) : Calls Try.prog 36 #[.slice (some ⟨g, 0, none⟩) r.length cap] w (RowGives w r) := by
  obtain ⟨i0, hi, hz0, hz1, hz2⟩ := info_parts info73
  obtain ⟨j0, hj, hy0, hy1, hy2⟩ := info_parts info3
  have b0 : Below w.heap.size w (w.alloc (.cells #[] 73)) := (Below.refl _ _).alloc (Nat.le_refl _) _
  have HN0 := Lib.hid (h.new b0).cells
  have HB0 := Lib.hid b0
  have HL0 := Lib.hid (show (rowI (flatA r)).length = r.length * 2 by rw [rowI_len, flatA_len]; omega)
  clear h b0
  go_enter Try.func36, Try.ntmps36
  go_wp2_with (at_builtin; refine wpList_append_own _ rfl (.tmp 7) (.tmp 8) 58 rfl w.heap.size 73 i0 (.agg #[.int .i64 0, .int .i64 0]) 2 16 Try.underlying58 hi hz0 hz1 hz2 rfl (by decide) _ 0 [] rfl (own_fresh73 w w.heap.size (Nat.le_refl _)) ⟨g, 0, none⟩ r.length cap (rowI (flatA r)) rfl HL0.out HN0.out (rowI_one _) (by unfold maxLen; omega) (by omega) (by rw [World.size_alloc]; omega) ?_; intro v1 w1 hown1 hg1 _; rw [Nat.zero_add, List.nil_append] at hown1; have HO1 := Lib.hid hown1; have HB1 := Lib.hid (Below.grown HB0.out hg1 (by rw [World.size_alloc]; omega) (fun j e => by cases e; exact Nat.le_refl _)); clear hown1 hg1)
  have HS0 := Lib.hid (show Sorting w r (.slice none 0 0) v1 [] r w1 from ⟨⟨World.ownsRow_nil _ _ _ _, HO1.out, HB1.out, fun g e => by cases e⟩, Sel.start r⟩)
  clear HO1 HB1
  go_loopg [3, 4, 5, 6] r.length (fun m v u k i wr => ∃ O M, M.length = m ∧ Aside (Sorting w r v u O M wr))
  case atStart => exact ⟨[], r, rfl, HS0.out⟩
  case round =>
    obtain ⟨O, M, hm, HR⟩ := hrel
    obtain ⟨spl, gl, cpl, rfl, hM, hMl⟩ := own_rowT HR.out.1.2.1
    cases gk with
    | zero =>
      obtain rfl : M = [] := List.length_eq_zero_iff.1 hm
      clear hM hMl hm
      go_wp2
      go_ret
      exact ⟨_, O, rfl, HR.out.1.1, HR.out.1.2.2.1, HR.out.2⟩
    | succ m1 =>
      have hm0 : 0 < M.length := by omega
      obtain rfl := hM.1 hm0
      have hOM := HR.out.2.len
      have HM := Lib.hid hM
      have HM1 := Lib.hid hm
      clear hM hMl hm
      go_wp2
      go_loopg [5, 6] M.length (fun m2 kk i w2 => ∃ kv iv : Nat, iv + m2 = M.length ∧ i = .int .i64 iv ∧ kk = .int .i64 kv ∧ Aside (Seek M kv iv ∧ Sorting w r u3 (.slice (some ⟨gl, 0, none⟩) M.length cpl) O M w2 ∧ RowT w2 (some ⟨gl, 0, none⟩) gl M))
      case atStart => exact ⟨0, 0, by omega, rfl, rfl, ⟨hm0, fun j hj => by omega, fun j hj => by omega⟩, HR.out, HM.out⟩
      case round =>
        obtain ⟨kv, iv, him, rfl, rfl, HK⟩ := hrel
        have hkv := HK.out.1.1
        have hkvi : (kv : Int) < (M.length : Int) := by omega
        have hkv0 : (0 : Int) ≤ (kv : Int) := by omega
        obtain ⟨d0, d1⟩ := HK.out.2.2.2 kv hkv
        cases gk with
        | succ m2 =>
          have hiv : iv < M.length := by omega
          have hivi : (iv : Int) < (M.length : Int) := by omega
          have hiv0 : (0 : Int) ≤ (iv : Int) := by omega
          obtain ⟨e0, e1⟩ := HK.out.2.2.2 iv hiv
          clear d0 e0
          by_cases hc : aT M iv < aT M kv
          · have HY := Lib.hid (HK.out.1.yes hiv hc)
            go_wp2
            go_quiet (fail)
            go_wp2
            go_roundg m2
            case measure => omega
            case rel => exact ⟨iv, iv + 1, by omega, by go_num, rfl, HY.out, ⟨HK.out.2.1.1.drewN _, HK.out.2.1.2⟩, HK.out.2.2⟩
          · have HY := Lib.hid (HK.out.1.no hc)
            go_wp2
            go_quiet (fail)
            go_wp2
            go_roundg m2
            case measure => omega
            case rel => exact ⟨kv, iv + 1, by omega, by go_num, rfl, HY.out, ⟨HK.out.2.1.1.drewN _, HK.out.2.1.2⟩, HK.out.2.2⟩
        | zero =>
          obtain rfl : iv = M.length := by omega
          have hmin := HK.out.1.2.1
          have hfst := HK.out.1.2.2
          have HSel := Lib.hid (HK.out.2.1.2.step hkv hmin hfst)
          clear hmin hfst him
          have HT := Lib.hid HK.out.2.1.1.drew
          have HN := Lib.hid (fun o => World.ownsRow.alloc (w := wr.drew) HT.out.1 o)
          have HQ := Lib.hid (two_new wr.drew (.int .i64 (aI M kv)) (.int .i64 (aT M kv)) 3)
          have H2 := Lib.hid (two_one (aI M kv) (aT M kv))
          have H63 := Lib.hid (show 2 * O.length + 2 ≤ maxLen ∧ (2 * O.length + 2) * 8 ≤ 140737488355328 by unfold maxLen; omega)
          have HL := Lib.hid (show w.heap.size ≤ (wr.drew.alloc (.cells #[.int .i64 (aI M kv), .int .i64 (aT M kv)] 3)).heap.size by rw [World.size_alloc]; exact Nat.le_succ_of_le HT.out.2.2.1.size)
          have hgl := (HT.out.2.1.lt gl rfl).2
          have hne : u3.ownBlock ≠ some gl := fun e => HT.out.2.2.2 gl e rfl
          have HCC := Lib.hid (fun (w1 : World) (hg : World.grownBy (wr.drew.alloc (.cells #[.int .i64 (aI M kv), .int .i64 (aT M kv)] 3)) w1 u3.ownBlock) =>
            (show RowT w1 (some ⟨gl, 0, none⟩) gl M from (HK.out.2.2.new (w' := wr.drew.alloc (.cells #[.int .i64 (aI M kv), .int .i64 (aT M kv)] 3)) ((Below.refl _ _).drew.alloc (Nat.le_refl _) _)).ch (ch_grown hg) fun _ e => hne e))
          clear hgl hne
          go_wp2
          go_region_held3 (fun w' => w'.cell? ⟨gl, kv * 2, none⟩ = some (.int .i64 (aI M kv)) ∧ w'.cell? ⟨gl, kv * 2 + 1, none⟩ = some (.int .i64 (aT M kv))) (first | exact hcn | exact ⟨d0, d1⟩ | go_keep)
            (first
              | (refine step_append_lies _ rfl (.tmp 31) (.tmp 42) 26 rfl w.heap.size 3 j0 (.int .i64 0) 1 8 Try.underlying26 hj hy0 hy1 hy2 rfl Nat.one_pos _ (2 * O.length) (rowI (flatA O)) rfl (HN.out _) ⟨wr.heap.size, 0, none⟩ 2 2 [.int .i64 (aI M kv), .int .i64 (aT M kv)] rfl rfl HQ.out H2.out (Nat.succ_pos 1) H63.out.1 H63.out.2 HL.out _ rfl ?_; intro g1 cap1 w1 hown1 hgrow hat hlt1; have hcn := (HCC.out _ hgrow).2 kv hkv))
          have HR1 := Lib.hid (HCC.out _ hgrow)
          have HT1 := Lib.hid (HT.out.tell hown1 hgrow (by
            rcases hat with e | e
            · exact .inl e.symm
            · exact .inr (congrArg some e)))
          clear hown1 hgrow hat d0 d1
          go_wp2
          obtain ⟨hc1, hc2⟩ := own_cap HT1.out.2.1
          have HT2 := Lib.hid HT1.out.drew
          have hk1 : IntKind.i64.wrap ((kv : Int) + 1) = (kv : Int) + 1 := IntWalk.i64_in _ (by omega)
          have hk2 : (0 : Int) ≤ (kv : Int) + 1 := by omega
          have hk3 : ((kv : Int) + 1).toNat = kv + 1 := by omega
          have hk4 : (kv : Int) + 1 ≤ (M.length : Int) := by omega
          have hk5 : (kv : Int) ≤ (cpl : Int) := by omega
          have hk6 : (M.length : Int) ≤ (cpl : Int) := by omega
          have HF := Lib.hid (own_fresh73 w1.drew w.heap.size HT2.out.2.2.1.size)
          have HTD := Lib.hid (split_at' M kv hkv)
          have hgl := (HT1.out.2.1.lt gl rfl).2
          have HW0 := Lib.hid (show Below w1.heap.size w1 (w1.drew.alloc (.cells #[] 73)) from (Below.refl _ _).drew.alloc (Nat.le_refl _) _)
          have HN1 := Lib.hid (stretch (g := gl) (M := M) (A := []) (B := M.take kv) (C := M.drop kv) (by simp) (HR1.out.new HW0.out).cells)
          have HL1 := Lib.hid (show (rowI (flatA (M.take kv))).length = kv * 2 by rw [rowI_len, flatA_len, List.length_take]; omega)
          have HL2 := Lib.hid (show (rowI (flatA (M.drop (kv + 1)))).length = (M.length - (kv + 1)) * 2 by rw [rowI_len, flatA_len, List.length_drop]; omega)
          have HN2 := Lib.hid (fun (w5 : World) (hg5 : World.grownBy (w1.drew.alloc (.cells #[] 73)) w5 (some w1.heap.size)) =>
            stretch' (g := gl) (M := M) hkv ((HR1.out.new HW0.out).ch (ch_grown hg5) (fun _ e => by injection e with e; omega)).cells)
          have HB5 := Lib.hid (show w.heap.size ≤ (w1.drew.alloc (.cells #[] 73)).heap.size by rw [World.size_alloc]; exact Nat.le_succ_of_le HT2.out.2.2.1.size)
          have HA := Lib.hid (show 0 + kv ≤ maxLen ∧ (0 + kv) * 16 ≤ 140737488355328 ∧ kv + (M.length - (kv + 1)) ≤ maxLen ∧ (kv + (M.length - (kv + 1))) * 16 ≤ 140737488355328 by unfold maxLen; omega)
          have HZ := Lib.hid (fun (v5 : Value) (w5 : World) (h : w5.ownsRow w.heap.size 73 2 v5 (0 + kv) ([] ++ rowI (flatA (M.take kv)))) => (show w5.ownsRow w.heap.size 73 2 v5 kv (rowI (flatA (M.take kv))) by rw [Nat.zero_add, List.nil_append] at h; exact h))
          have HKV := Lib.hid hkv
          clear hgl hkv
          by_cases hcp : cpl = kv + 1
          · subst hcp
            have hml : M.length = kv + 1 := by have := HKV.out; omega
            have HNE := Lib.hid (fun (w5 : World) => show ∀ (j : Nat) (u : Value), (rowI (flatA (M.drop (kv + 1))))[j]? = some u → w5.cell? ((⟨gl, 0, none⟩ : Addr).add j) = some u from fun j u hu => by
              rw [List.drop_of_length_le (by omega)] at hu; simp [rowI, flatA] at hu)
            have hq5 : (kv : Int) ≤ (kv : Int) + 1 := by omega
            have hq6 : (M.length : Int) ≤ (kv : Int) + 1 := by omega
            have hq7 : (0 : Int) ≤ (kv : Int) := by omega
            have HL3 := Lib.hid (show (rowI (flatA (M.drop (kv + 1)))).length = 0 * 2 by rw [HL2.out]; omega)
            have HA3 := Lib.hid (show kv + 0 ≤ maxLen ∧ (kv + 0) * 16 ≤ 140737488355328 by unfold maxLen; omega)
            have HML := Lib.hid (show M.length - (kv + 1) = 0 by omega)
            clear hml hk5 hk6
            go_region_held3 (fun _ => True) (first | exact trivial | go_keep)
              (first
                | (refine step_append_at _ rfl (.tmp 44) (.tmp 47) 58 rfl w.heap.size 73 i0 (.agg #[.int .i64 0, .int .i64 0]) 2 16 Try.underlying58 hi hz0 hz1 hz2 rfl (Nat.succ_pos 1) _ 0 [] rfl HF.out ⟨gl, 0, none⟩ kv _ (rowI (flatA (M.take kv))) rfl HL1.out HN1.out (rowI_one _) HA.out.1 HA.out.2.1 HB5.out ?_; intro v5 w5 hown5 hg5 hat5; have HO5 := Lib.hid (HZ.out _ _ hown5); have HG5 := Lib.hid hg5; have HN5 := Lib.hid (HN2.out w5 hg5); have HAT5 := Lib.hid hat5; have HB6 := Lib.hid (Nat.le_trans HB5.out hg5.size); clear hown5 hg5 hat5)
                | (refine step_append_at _ rfl (.tmp 48) (.tmp 52) 58 rfl w.heap.size 73 i0 (.agg #[.int .i64 0, .int .i64 0]) 2 16 Try.underlying58 hi hz0 hz1 hz2 rfl (Nat.succ_pos 1) _ kv (rowI (flatA (M.take kv))) rfl HO5.out ⟨gl, 0, none⟩ 0 0 (rowI (flatA (M.drop (kv + 1)))) rfl HL3.out (HNE.out _) (rowI_one _) HA3.out.1 HA3.out.2 HB6.out ?_; intro v6 w6 hown6 hg6 hat6; have HO6 := Lib.hid hown6; have HG6 := Lib.hid hg6; have HAT6 := Lib.hid hat6; clear hown6 hg6 hat6))
            have HT3 := Lib.hid (HT2.out.cut (T := M.take kv) (D := M.drop (kv + 1)) HG5.out HAT5.out (by rw [HTD.out.1, HTD.out.2.1, HML.out]; exact HO6.out) HG6.out HAT6.out)
            go_wp2
            go_roundg m1
            case measure => omega
            case rel => exact ⟨_, _, by rw [List.length_append, HTD.out.1, HTD.out.2.1]; have := HM1.out; have := HKV.out; omega, HT3.out, HSel.out⟩
          · have HCP := Lib.hid hcp
            go_region_held3 (fun _ => True) (first | exact trivial | go_keep)
              (first
                | (refine step_append_at _ rfl (.tmp 44) (.tmp 47) 58 rfl w.heap.size 73 i0 (.agg #[.int .i64 0, .int .i64 0]) 2 16 Try.underlying58 hi hz0 hz1 hz2 rfl (Nat.succ_pos 1) _ 0 [] rfl HF.out ⟨gl, 0, none⟩ kv cpl (rowI (flatA (M.take kv))) rfl HL1.out HN1.out (rowI_one _) HA.out.1 HA.out.2.1 HB5.out ?_; intro v5 w5 hown5 hg5 hat5; have HO5 := Lib.hid (HZ.out _ _ hown5); have HG5 := Lib.hid hg5; have HN5 := Lib.hid (HN2.out w5 hg5); have HAT5 := Lib.hid hat5; have HB6 := Lib.hid (Nat.le_trans HB5.out hg5.size); clear hown5 hg5 hat5)
                | (refine step_append_at _ rfl (.tmp 48) (.tmp 52) 58 rfl w.heap.size 73 i0 (.agg #[.int .i64 0, .int .i64 0]) 2 16 Try.underlying58 hi hz0 hz1 hz2 rfl (Nat.succ_pos 1) _ kv (rowI (flatA (M.take kv))) rfl HO5.out ⟨gl, (kv + 1) * 2, none⟩ (M.length - (kv + 1)) (cpl - (kv + 1)) (rowI (flatA (M.drop (kv + 1)))) rfl HL2.out HN5.out (rowI_one _) HA.out.2.2.1 HA.out.2.2.2 HB6.out ?_; intro v6 w6 hown6 hg6 hat6; have HO6 := Lib.hid hown6; have HG6 := Lib.hid hg6; have HAT6 := Lib.hid hat6; clear hown6 hg6 hat6))
            have HT3 := Lib.hid (HT2.out.cut (T := M.take kv) (D := M.drop (kv + 1)) HG5.out HAT5.out (by rw [HTD.out.1, HTD.out.2.1]; exact HO6.out) HG6.out HAT6.out)
            go_wp2
            go_roundg m1
            case measure => omega
            case rel => exact ⟨_, _, by rw [List.length_append, HTD.out.1, HTD.out.2.1]; have := HM1.out; have := HKV.out; omega, HT3.out, HSel.out⟩
end Go.Proofs.Ytkbmgilceioieaa
