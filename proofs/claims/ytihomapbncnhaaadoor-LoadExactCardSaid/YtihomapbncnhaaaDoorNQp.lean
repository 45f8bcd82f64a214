/- The walk of LoadExact. -/
import Derived.Test.YtihomapbncnhaaaDoorPk16
namespace Go.Proofs.YtihomapbncnhaaaDoor
open Go.RowKit

set_option maxHeartbeats 16000000 in
set_option maxRecDepth 100000 in
theorem law_exact37 {w : World} {V : Nat → Prop} {x : Img} {S : ImgS} (h : ImgAt w V x S) (ht : Tab w) (s : BitVec 32) :
    Calls Tryd.prog 6 #[.agg #[.int .i64 x.res, .slice S.t.sp x.tasks.length S.t.c, .slice S.m.sp x.modes.length S.m.c, .slice S.e.sp x.edges.length S.e.c], .int .u32 (w32 s)] w fun e w' => e = .returned (.bool true) ∧ Below w.heap.size w w' := by
  have hp := ht.pos
  have HGr := Lib.hid (show ∀ wx, Below w.heap.size w wx → _ from fun wx hb => great10_any (h.new hb))
  have HRi := Lib.hid (show ∀ wx, Below w.heap.size w wx → _ from fun wx hb => rRight_any (h.new hb))
  have HRd := Lib.hid (show ∀ wx, Below w.heap.size w wx → _ from fun wx hb => ldRound_any (h.new hb) (ht.below hp hb) s)
  rw [show rdK x (tasksL x s) (tasksL x s).length = rdA x s from rfl] at HRd
  have HAl := Lib.hid (show ∀ wx, Below w.heap.size w wx → _ from fun wx hb => l37alive_any wx (ht.below hp hb))
  have HTc := Lib.hid (show ∀ wx, Below w.heap.size w wx → ∀ i, i < x.tasks.length → _ from fun wx hb i hi => task_cells (h.new hb) hi)
  have HSp := Lib.hid (show 0 < x.tasks.length → S.t.sp = some ⟨S.t.b, S.t.o, none⟩ from fun h0 => (h.st.at_ h0).1)
  have HEx := Lib.hid (show ∀ wx, Below w.heap.size w wx → _ from fun wx hb => ldExact_any (h.new hb) (ht.below hp hb) s)
  have HOv := Lib.hid (show ∀ wx, Below w.heap.size w wx → _ from fun wx hb => ldOver_any (h.new hb) (ht.below hp hb) s)
  rw [show exK x (tasksL x s) (tasksL x s).length = exA x s from rfl] at HEx HOv
  obtain ⟨nT, hnT⟩ : ∃ n, x.tasks.length = n := ⟨_, rfl⟩
  obtain ⟨nM, hnM⟩ : ∃ n, x.modes.length = n := ⟨_, rfl⟩
  obtain ⟨nE, hnE⟩ : ∃ n, x.edges.length = n := ⟨_, rfl⟩
  rw [hnT, hnM, hnE] at HGr HRi HRd HEx HOv
  rw [hnT] at HTc HSp
  rw [hnT, hnM, hnE]
  have HN := Lib.hid hnT
  obtain ⟨Z, hZ⟩ : ∃ Z, Z = w.heap.size := ⟨_, rfl⟩
  clear h ht hp hnT hnM hnE
  go_enter Tryd.func6, Tryd.ntmps6
  go_upto_region 1 with fail
  rw [← hZ]
  generalize hw2 : World.alloc _ _ = w2
  have H2 := Lib.hid (show Below w.heap.size w w2 ∧ RowAt w2 Z 26 #[.int .i64 x.res, .slice S.t.sp nT S.t.c, .slice S.m.sp nM S.m.c, .slice S.e.sp nE S.e.c] by
    rw [← hw2, hZ]
    exact ⟨(Below.refl _ _).alloc (Nat.le_refl _) _, RowAt.mk _ _ _⟩)
  clear hw2 hZ
  obtain ⟨c0, c1, c2, c3⟩ := img_cells H2.out.2
  cases hg : greatI x
  case true =>
    rw [hg] at HGr
    clear hg
    go_wp2_with (first
      | (go_at_call 21; refine (HGr.out _ H2.out.1).mono ?_; rintro e w3 ⟨rfl, b3⟩; have H3 := Lib.hid (H2.out.1.trans (b3.mono H2.out.1.size)); clear b3)
      | fail)
    go_ret
    exact ⟨rfl, H3.out⟩
  case false =>
    rw [hg] at HGr
    clear hg
    cases hr : rightB x
    case false =>
      rw [hr] at HRi
      clear hr
      go_wp2_with (first
        | (go_at_call 21; refine (HGr.out _ H2.out.1).mono ?_; rintro e w3 ⟨rfl, b3⟩; have H3 := Lib.hid (And.intro (H2.out.1.trans (b3.mono H2.out.1.size)) (H2.out.2.new b3)); clear b3 c0 c1 c2 c3 HGr; obtain ⟨c0, c1, c2, c3⟩ := img_cells H3.out.2)
        | (go_at_call 22; refine (HRi.out _ H3.out.1).mono ?_; rintro e w4 ⟨rfl, b4⟩; have H4 := Lib.hid (H3.out.1.trans (b4.mono H3.out.1.size)); clear b4)
        | fail)
      go_ret
      exact ⟨rfl, H4.out⟩
    case true =>
      have hG := rightB_good hr
      have HG := Lib.hid hG
      have H16 := hG.n16
      have H1 := hG.n1
      have HXg := Lib.hid (show 0 < rdA x s → rdA x s ≤ 16777216 → _ from fun a b => exA_good hr a b)
      have HSr := Lib.hid (show 0 ≤ rdA x s → rdA x s ≤ 16777216 → ∀ k, k ≤ x.tasks.length → _ from fun a b => exS_rng hG (s := s) a b)
      have HMd := Lib.hid (show 0 < rdA x s → ∀ i, i < x.tasks.length → s.getLsbD i = true → rdA x s % (x.t i).per = 0 from fun hp i hi hb => rdA_mod hG hp hi hb)
      have hrg := rdA_rng x s
      rw [HN.out] at H16 H1 HXg HSr HMd
      have hsp := HSp.out (by omega)
      rw [hsp] at HGr HRi HRd HEx HOv H2 c1
      rw [hsp]
      rw [hr] at HRi
      clear hr hG HSp hsp
      have HSs := Lib.hid (show ∀ k, exS x s (rdA x s) (k + 1) = if s.getLsbD k = true then exS x s (rdA x s) k + (x.t k).cost * (rdA x s / (x.t k).per) else exS x s (rdA x s) k from fun k => rfl)
      have HS0 := Lib.hid (show exS x s (rdA x s) 0 = 0 from rfl)
      obtain ⟨E, hE⟩ : ∃ O, exS x s (rdA x s) = O := ⟨_, rfl⟩
      rw [hE] at HXg HSr HSs HS0
      obtain ⟨rd, hrd⟩ : ∃ v, rdA x s = v := ⟨_, rfl⟩
      rw [hrd] at HRd HXg HSr HMd HSs hrg
      clear hE hrd
      by_cases hpo : 0 < rd
      case neg =>
        have h0 : rd = 0 := by omega
        subst h0
        rw [show decide ((0 : Int) < 0) = false from rfl] at HRd
        go_upto_region 4 with (first
          | (go_at_call 21; refine (HGr.out _ H2.out.1).mono ?_; rintro e w3 ⟨rfl, b3⟩; have H3 := Lib.hid (And.intro (H2.out.1.trans (b3.mono H2.out.1.size)) (H2.out.2.new b3)); clear b3 c0 c1 c2 c3 HGr; obtain ⟨c0, c1, c2, c3⟩ := img_cells H3.out.2)
          | (go_at_call 22; refine (HRi.out _ H3.out.1).mono ?_; rintro e w4 ⟨rfl, b4⟩; have H4 := Lib.hid (And.intro (H3.out.1.trans (b4.mono H3.out.1.size)) (H3.out.2.new b4)); clear b4 c0 c1 c2 c3 HRi; obtain ⟨c0, c1, c2, c3⟩ := img_cells H4.out.2)
          | (go_at_call 23; refine (HRd.out _ H4.out.1).mono ?_; rintro e w5 ⟨rfl, b5⟩; have H5 := Lib.hid (And.intro (H4.out.1.trans (b5.mono H4.out.1.size)) (H4.out.2.new b5)); clear b5 c0 c1 c2 c3 HRd; obtain ⟨c0, c1, c2, c3⟩ := img_cells H5.out.2)
          | fail)
        skip
        clear c0 c1 c2 c3 H2 H3 H4
        have HW := H5
        go_wp2_with (first
          | (go_at_call 27; refine (HAl.out _ HW.out.1).mono ?_; rintro e w9 ⟨rfl, b9⟩; have H9 := Lib.hid (HW.out.1.trans (b9.mono HW.out.1.size)); clear b9)
          | fail)
        go_ret
        exact ⟨rfl, H9.out⟩
      case pos =>
        rw [decide_eq_true hpo] at HRd
        by_cases hle : rd ≤ 16777216
        case neg =>
          have hgt : 16777216 < rd := by omega
          go_upto_region 4 with (first
            | (go_at_call 21; refine (HGr.out _ H2.out.1).mono ?_; rintro e w3 ⟨rfl, b3⟩; have H3 := Lib.hid (And.intro (H2.out.1.trans (b3.mono H2.out.1.size)) (H2.out.2.new b3)); clear b3 c0 c1 c2 c3 HGr; obtain ⟨c0, c1, c2, c3⟩ := img_cells H3.out.2)
            | (go_at_call 22; refine (HRi.out _ H3.out.1).mono ?_; rintro e w4 ⟨rfl, b4⟩; have H4 := Lib.hid (And.intro (H3.out.1.trans (b4.mono H3.out.1.size)) (H3.out.2.new b4)); clear b4 c0 c1 c2 c3 HRi; obtain ⟨c0, c1, c2, c3⟩ := img_cells H4.out.2)
            | (go_at_call 23; refine (HRd.out _ H4.out.1).mono ?_; rintro e w5 ⟨rfl, b5⟩; have H5 := Lib.hid (And.intro (H4.out.1.trans (b5.mono H4.out.1.size)) (H4.out.2.new b5)); clear b5 c0 c1 c2 c3 HRd; obtain ⟨c0, c1, c2, c3⟩ := img_cells H5.out.2)
            | fail)
          skip
          clear c0 c1 c2 c3 H2 H3 H4
          have HW := H5
          go_wp2_with (first
            | (go_at_call 27; refine (HAl.out _ HW.out.1).mono ?_; rintro e w9 ⟨rfl, b9⟩; have H9 := Lib.hid (HW.out.1.trans (b9.mono HW.out.1.size)); clear b9)
            | fail)
          go_ret
          exact ⟨rfl, H9.out⟩
        case pos =>
          have hgt : ¬ 16777216 < rd := by omega
          go_upto_region 7 with (first
            | (go_at_call 21; refine (HGr.out _ H2.out.1).mono ?_; rintro e w3 ⟨rfl, b3⟩; have H3 := Lib.hid (And.intro (H2.out.1.trans (b3.mono H2.out.1.size)) (H2.out.2.new b3)); clear b3 c0 c1 c2 c3 HGr; obtain ⟨c0, c1, c2, c3⟩ := img_cells H3.out.2)
            | (go_at_call 22; refine (HRi.out _ H3.out.1).mono ?_; rintro e w4 ⟨rfl, b4⟩; have H4 := Lib.hid (And.intro (H3.out.1.trans (b4.mono H3.out.1.size)) (H3.out.2.new b4)); clear b4 c0 c1 c2 c3 HRi; obtain ⟨c0, c1, c2, c3⟩ := img_cells H4.out.2)
            | (go_at_call 23; refine (HRd.out _ H4.out.1).mono ?_; rintro e w5 ⟨rfl, b5⟩; have H5 := Lib.hid (And.intro (H4.out.1.trans (b5.mono H4.out.1.size)) (H4.out.2.new b5)); clear b5 c0 c1 c2 c3 HRd; obtain ⟨c0, c1, c2, c3⟩ := img_cells H5.out.2)
            | fail)
          clear c0 c1 c2 c3 H2 H3 H4
          go_wp2
          go_loopg [7, 8] nT (fun g v7 v8 wr => ∃ k : Nat, k + g = nT ∧ v7 = .int .i64 (E k) ∧ v8 = .int .i64 (k : Nat) ∧ Aside (Below w.heap.size w wr ∧ RowAt wr Z 26 #[.int .i64 x.res, .slice (some ⟨S.t.b, S.t.o, none⟩) nT S.t.c, .slice S.m.sp nM S.m.c, .slice S.e.sp nE S.e.c]))
          case atStart => exact ⟨0, by omega, by rw [HS0.out], rfl, H5.out⟩
          case round =>
            obtain ⟨k, hkg, rfl, rfl, HQ⟩ := hrel
            clear H5
            have H5 := Lib.hid HQ.out
            clear HQ
            obtain ⟨c0, c1, c2, c3⟩ := img_cells H5.out.2
            cases gk with
            | zero =>
              obtain rfl : nT = k := by omega
              clear hkg
              obtain ⟨p, hpe, hI⟩ := HXg.out hpo hle
              rw [hpe] at HEx HOv
              rw [over_iff hI hpo] at HOv
              unfold pN pD at HEx
              simp only [Option.isSome_some] at HEx
              have hEA := HSr.out hrg.1 hle nT (Nat.le_refl _)
              have HCo := Lib.hid (fun (d : Int) (hd : 2 ≤ d) h1 h2 => cop_no hI hd h1 h2)
              obtain ⟨pn, pd⟩ := p
              have i1 := hI.d
              have i2 := hI.dv
              have i3 := hI.nn
              have i4 := hI.eq
              simp only at i1 i2 i3 i4 HEx HCo
              obtain ⟨EA, hEn⟩ : ∃ v, E nT = v := ⟨_, rfl⟩
              rw [hEn] at hEA i4 HOv ⊢
              have i5 : rd.tmod pd = 0 := by rw [Int.tmod_eq_emod_of_nonneg hrg.1]; exact Int.emod_eq_zero_of_dvd i2
              have i6 : rd.tdiv pd = rd / pd := Int.tdiv_eq_ediv_of_nonneg hrg.1
              have i7 := Int.le_of_dvd hpo i2
              obtain ⟨q1, q2, -, -, -⟩ := quo_bds (a := rd) (b := pd) hrg.1 i1
              have i10 : pn ≤ EA := by rw [← i4]; exact le_mul1 i3 (div_pos_of hpo i1 i2).1
              obtain ⟨qd, hqd⟩ : ∃ v, rd / pd = v := ⟨_, rfl⟩
              rw [hqd] at i4 i6 q1 q2
              have hwq : IntKind.i64.wrap qd = qd := by rw [IntKind.wrap_i64]; omega
              have hwe : IntKind.i64.wrap (pn * qd) = EA := by rw [i4, IntKind.wrap_i64]; omega
              have hz : ¬ pd = 0 := by omega
              have hl1 : ¬ pd < 1 := by omega
              have hw0 : IntKind.i64.wrap (rd.tdiv pd) = qd := by rw [i6]; exact hwq
              have HR2 := Lib.hid hrg
              have HP2 := Lib.hid (And.intro i1 (And.intro i3 (And.intro i7 (And.intro i10 (And.intro hEA hle)))))
              clear hpe hI hEn hqd i2 i4 i6 i7 i10 q1 q2 hwq
              go_upto_region 12 with fail
              go_upto_region 13 with (first
                | (go_at_call 28; refine (HEx.out _ H5.out.1).mono ?_; rintro e w6 ⟨rfl, b6⟩; have H6 := Lib.hid (And.intro (H5.out.1.trans (b6.mono H5.out.1.size)) (H5.out.2.new b6)); clear b6 c0 c1 c2 c3 HEx; obtain ⟨c0, c1, c2, c3⟩ := img_cells H6.out.2)
                | fail)
              obtain ⟨B, hB⟩ : ∃ B, B = w6.heap.size := ⟨_, rfl⟩
              rw [← hB]
              generalize hw7 : World.alloc w6 _ = w7
              have H7 := Lib.hid (show Below w.heap.size w w7 ∧ RowAt w7 Z 26 #[.int .i64 x.res, .slice (some ⟨S.t.b, S.t.o, none⟩) nT S.t.c, .slice S.m.sp nM S.m.c, .slice S.e.sp nE S.e.c] ∧ RowAt w7 B 64 #[.int .i64 pn, .int .i64 pd] by
                rw [← hw7]
                exact ⟨below_alloc H6.out.1 (Nat.le_refl _) _, row_keep H6.out.2 _, row_next _ _ hB.symm _ _⟩)
              clear hw7 hB c0 c1 c2 c3 H5 H6
              by_cases hlt : rd < EA
              case pos =>
                rw [decide_eq_true hlt] at HOv
                have HF := Lib.hid (And.intro hl1 (And.intro i5 (And.intro hz (And.intro hw0 (And.intro hwe (And.intro (show (EA != EA) = false by simp) hlt))))))
                clear hl1 i5 hz hw0 hwe hlt
                go_upto_region 13 with fail
                have hH0 : Below w.heap.size w w7.drew ∧ RowAt w7.drew Z 26 #[.int .i64 x.res, .slice (some ⟨S.t.b, S.t.o, none⟩) nT S.t.c, .slice S.m.sp nM S.m.c, .slice S.e.sp nE S.e.c] ∧ RowAt w7.drew B 64 #[.int .i64 pn, .int .i64 pd] := ⟨below_dn H7.out.1 1, H7.out.2.1, H7.out.2.2⟩
                refine wp_region_held_drew (S := fun w' => Below w.heap.size w w' ∧ RowAt w' Z 26 #[.int .i64 x.res, .slice (some ⟨S.t.b, S.t.o, none⟩) nT S.t.c, .slice S.m.sp nM S.m.c, .slice S.e.sp nE S.e.c] ∧ RowAt w' B 64 #[.int .i64 pn, .int .i64 pd]) (by kernel_rfl) hH0 (fun hS => ?_)
                refine wpAnyH_take (i := 0) (oi := { dst := some 65, op := .move (.tmp 10), type := 4, pos := "law.go:76", after := #[], guard := none }) (v := (.bool true)) rfl (by kernel_rfl) (by kernel_rfl) (by kernel_rfl) (fun _ _ _ h => h) (Or.inl ⟨by rfl, ?_⟩) hS ?_
                · intro w hw; obtain ⟨hb9, hs9, hq9⟩ := hw; go_simp; try (with_reducible rfl)
                simp only [Act.put, List.setIfInBounds_toArray, List.set_cons_zero, List.set_cons_succ]
                refine wpAnyH_take (i := 1) (oi := { dst := some 66, op := .unOp .not 4 (.tmp 65), type := 4, pos := "law.go:76", after := #[{ on := 0, ground := .data }], guard := none }) (v := (.bool false)) rfl (by kernel_rfl) (by kernel_rfl) (by kernel_rfl) (fun _ _ _ h => h) (Or.inl ⟨by rfl, ?_⟩) hS ?_
                · intro w hw; obtain ⟨hb9, hs9, hq9⟩ := hw; go_simp; try (with_reducible rfl)
                simp only [Act.put, List.setIfInBounds_toArray, List.set_cons_zero, List.set_cons_succ]
                refine wpAnyH_take (i := 2) (oi := { dst := some 67, op := .move (.tmp 66), type := 4, pos := "law.go:76", after := #[{ on := 1, ground := .data }], guard := none }) (v := (.bool false)) rfl (by kernel_rfl) (by kernel_rfl) (by kernel_rfl) (fun _ _ _ h => h) (Or.inl ⟨by rfl, ?_⟩) hS ?_
                · intro w hw; obtain ⟨hb9, hs9, hq9⟩ := hw; go_simp; try (with_reducible rfl)
                simp only [Act.put, List.setIfInBounds_toArray, List.set_cons_zero, List.set_cons_succ]
                refine wpAnyH_take (i := 3) (oi := { dst := some 68, op := .fieldAddr 64 (.tmp 9) 1, type := 0, pos := "law.go:76", after := #[{ on := 2, ground := .guard }], guard := some (2, false) }) (v := ?_) rfl (by kernel_rfl) (by kernel_rfl) (by kernel_rfl) (fun _ _ _ h => h) (Or.inl ⟨by rfl, ?_⟩) hS ?_
                rotate_left 1
                · intro w hw; obtain ⟨hb9, hs9, hq9⟩ := hw; go_simp; try (with_reducible rfl)
                simp only [Act.put, List.setIfInBounds_toArray, List.set_cons_zero, List.set_cons_succ]
                refine wpAnyH_take (i := 4) (oi := { dst := some 69, op := .load 3 (.tmp 68), type := 3, pos := "law.go:76", after := #[{ on := 3, ground := .data }, { on := 2, ground := .guard }], guard := some (2, false) }) (v := (.int .i64 pd)) rfl (by kernel_rfl) (by kernel_rfl) (by kernel_rfl) (fun _ _ _ h => h) (Or.inl ⟨by rfl, ?_⟩) hS ?_
                · intro w hw; obtain ⟨hb9, hs9, hq9⟩ := hw; have d0 : _ = some (Value.int .i64 pn) := hq9.cell 0; have d1 : _ = some (Value.int .i64 pd) := hq9.cell 1; go_simp; try (with_reducible rfl)
                simp only [Act.put, List.setIfInBounds_toArray, List.set_cons_zero, List.set_cons_succ]
                refine wpAnyH_take (i := 5) (oi := { dst := some 70, op := .binOp .lss 3 (.tmp 69) (.const (.int .i64 1)) 3, type := 4, pos := "law.go:76", after := #[{ on := 4, ground := .data }, { on := 2, ground := .guard }], guard := some (2, false) }) (v := (.bool false)) rfl (by kernel_rfl) (by kernel_rfl) (by kernel_rfl) (fun _ _ _ h => h) (Or.inl ⟨by rfl, ?_⟩) hS ?_
                · intro w hw; obtain ⟨hb9, hs9, hq9⟩ := hw; have k9 := HF.out.1; go_simp; try (with_reducible rfl)
                simp only [Act.put, List.setIfInBounds_toArray, List.set_cons_zero, List.set_cons_succ]
                refine wpAnyH_take (i := 6) (oi := { dst := some 71, op := .pick (.tmp 67) (.const (.bool true)) (.tmp 70), type := 4, pos := "law.go:76", after := #[{ on := 2, ground := .data }, { on := 5, ground := .data }], guard := none }) (v := (.bool false)) rfl (by kernel_rfl) (by kernel_rfl) (by kernel_rfl) (fun _ _ _ h => h) (Or.inl ⟨by rfl, ?_⟩) hS ?_
                · intro w hw; obtain ⟨hb9, hs9, hq9⟩ := hw; go_simp; try (with_reducible rfl)
                simp only [Act.put, List.setIfInBounds_toArray, List.set_cons_zero, List.set_cons_succ]
                refine wpAnyH_take (i := 7) (oi := { dst := some 72, op := .move (.tmp 71), type := 4, pos := "law.go:76", after := #[{ on := 6, ground := .data }, { on := 2, ground := .chain }], guard := none }) (v := (.bool false)) rfl (by kernel_rfl) (by kernel_rfl) (by kernel_rfl) (fun _ _ _ h => h) (Or.inl ⟨by rfl, ?_⟩) hS ?_
                · intro w hw; obtain ⟨hb9, hs9, hq9⟩ := hw; go_simp; try (with_reducible rfl)
                simp only [Act.put, List.setIfInBounds_toArray, List.set_cons_zero, List.set_cons_succ]
                refine wpAnyH_take (i := 8) (oi := { dst := some 73, op := .move (.tmp 5), type := 3, pos := "law.go:76", after := #[{ on := 7, ground := .guard }], guard := some (7, false) }) (v := (.int .i64 rd)) rfl (by kernel_rfl) (by kernel_rfl) (by kernel_rfl) (fun _ _ _ h => h) (Or.inl ⟨by rfl, ?_⟩) hS ?_
                · intro w hw; obtain ⟨hb9, hs9, hq9⟩ := hw; go_simp; try (with_reducible rfl)
                simp only [Act.put, List.setIfInBounds_toArray, List.set_cons_zero, List.set_cons_succ]
                refine wpAnyH_take (i := 9) (oi := { dst := some 74, op := .fieldAddr 64 (.tmp 9) 1, type := 0, pos := "law.go:76", after := #[{ on := 7, ground := .guard }], guard := some (7, false) }) (v := ?_) rfl (by kernel_rfl) (by kernel_rfl) (by kernel_rfl) (fun _ _ _ h => h) (Or.inl ⟨by rfl, ?_⟩) hS ?_
                rotate_left 1
                · intro w hw; obtain ⟨hb9, hs9, hq9⟩ := hw; go_simp; try (with_reducible rfl)
                simp only [Act.put, List.setIfInBounds_toArray, List.set_cons_zero, List.set_cons_succ]
                refine wpAnyH_take (i := 10) (oi := { dst := some 75, op := .load 3 (.tmp 74), type := 3, pos := "law.go:76", after := #[{ on := 9, ground := .data }, { on := 7, ground := .guard }], guard := some (7, false) }) (v := (.int .i64 pd)) rfl (by kernel_rfl) (by kernel_rfl) (by kernel_rfl) (fun _ _ _ h => h) (Or.inl ⟨by rfl, ?_⟩) hS ?_
                · intro w hw; obtain ⟨hb9, hs9, hq9⟩ := hw; have d0 : _ = some (Value.int .i64 pn) := hq9.cell 0; have d1 : _ = some (Value.int .i64 pd) := hq9.cell 1; go_simp; try (with_reducible rfl)
                simp only [Act.put, List.setIfInBounds_toArray, List.set_cons_zero, List.set_cons_succ]
                refine wpAnyH_take (i := 11) (oi := { dst := some 76, op := .binOp .rem 3 (.tmp 73) (.tmp 75) 3, type := 3, pos := "law.go:76", after := #[{ on := 8, ground := .data }, { on := 10, ground := .data }, { on := 7, ground := .guard }], guard := some (7, false) }) (v := (.int .i64 0)) rfl (by kernel_rfl) (by kernel_rfl) (by kernel_rfl) (fun _ _ _ h => h) (Or.inl ⟨by rfl, ?_⟩) hS ?_
                · intro w hw; obtain ⟨hb9, hs9, hq9⟩ := hw; have k9 := HF.out.2.1; have k8 := HF.out.2.2.1; go_simp; try (with_reducible rfl)
                simp only [Act.put, List.setIfInBounds_toArray, List.set_cons_zero, List.set_cons_succ]
                refine wpAnyH_take (i := 12) (oi := { dst := some 77, op := .binOp .neq 3 (.tmp 76) (.const (.int .i64 0)) 3, type := 4, pos := "law.go:76", after := #[{ on := 11, ground := .data }, { on := 7, ground := .guard }], guard := some (7, false) }) (v := (.bool false)) rfl (by kernel_rfl) (by kernel_rfl) (by kernel_rfl) (fun _ _ _ h => h) (Or.inl ⟨by rfl, ?_⟩) hS ?_
                · intro w hw; obtain ⟨hb9, hs9, hq9⟩ := hw; go_simp; try (with_reducible rfl)
                simp only [Act.put, List.setIfInBounds_toArray, List.set_cons_zero, List.set_cons_succ]
                refine wpAnyH_take (i := 13) (oi := { dst := some 78, op := .pick (.tmp 72) (.const (.bool true)) (.tmp 77), type := 4, pos := "law.go:76", after := #[{ on := 7, ground := .data }, { on := 12, ground := .data }], guard := none }) (v := (.bool false)) rfl (by kernel_rfl) (by kernel_rfl) (by kernel_rfl) (fun _ _ _ h => h) (Or.inl ⟨by rfl, ?_⟩) hS ?_
                · intro w hw; obtain ⟨hb9, hs9, hq9⟩ := hw; go_simp; try (with_reducible rfl)
                simp only [Act.put, List.setIfInBounds_toArray, List.set_cons_zero, List.set_cons_succ]
                refine wpAnyH_take (i := 14) (oi := { dst := some 79, op := .move (.tmp 78), type := 4, pos := "law.go:76", after := #[{ on := 13, ground := .data }, { on := 7, ground := .chain }], guard := none }) (v := (.bool false)) rfl (by kernel_rfl) (by kernel_rfl) (by kernel_rfl) (fun _ _ _ h => h) (Or.inl ⟨by rfl, ?_⟩) hS ?_
                · intro w hw; obtain ⟨hb9, hs9, hq9⟩ := hw; go_simp; try (with_reducible rfl)
                simp only [Act.put, List.setIfInBounds_toArray, List.set_cons_zero, List.set_cons_succ]
                refine wpAnyH_take (i := 15) (oi := { dst := some 80, op := .fieldAddr 64 (.tmp 9) 0, type := 0, pos := "law.go:76", after := #[{ on := 14, ground := .guard }], guard := some (14, false) }) (v := ?_) rfl (by kernel_rfl) (by kernel_rfl) (by kernel_rfl) (fun _ _ _ h => h) (Or.inl ⟨by rfl, ?_⟩) hS ?_
                rotate_left 1
                · intro w hw; obtain ⟨hb9, hs9, hq9⟩ := hw; go_simp; try (with_reducible rfl)
                simp only [Act.put, List.setIfInBounds_toArray, List.set_cons_zero, List.set_cons_succ]
                refine wpAnyH_take (i := 16) (oi := { dst := some 81, op := .load 3 (.tmp 80), type := 3, pos := "law.go:76", after := #[{ on := 15, ground := .data }, { on := 14, ground := .guard }], guard := some (14, false) }) (v := (.int .i64 pn)) rfl (by kernel_rfl) (by kernel_rfl) (by kernel_rfl) (fun _ _ _ h => h) (Or.inl ⟨by rfl, ?_⟩) hS ?_
                · intro w hw; obtain ⟨hb9, hs9, hq9⟩ := hw; have d0 : _ = some (Value.int .i64 pn) := hq9.cell 0; have d1 : _ = some (Value.int .i64 pd) := hq9.cell 1; go_simp; try (with_reducible rfl)
                simp only [Act.put, List.setIfInBounds_toArray, List.set_cons_zero, List.set_cons_succ]
                refine wpAnyH_take (i := 17) (oi := { dst := some 82, op := .move (.tmp 5), type := 3, pos := "law.go:76", after := #[{ on := 14, ground := .guard }], guard := some (14, false) }) (v := (.int .i64 rd)) rfl (by kernel_rfl) (by kernel_rfl) (by kernel_rfl) (fun _ _ _ h => h) (Or.inl ⟨by rfl, ?_⟩) hS ?_
                · intro w hw; obtain ⟨hb9, hs9, hq9⟩ := hw; go_simp; try (with_reducible rfl)
                simp only [Act.put, List.setIfInBounds_toArray, List.set_cons_zero, List.set_cons_succ]
                refine wpAnyH_take (i := 18) (oi := { dst := some 83, op := .fieldAddr 64 (.tmp 9) 1, type := 0, pos := "law.go:76", after := #[{ on := 14, ground := .guard }], guard := some (14, false) }) (v := ?_) rfl (by kernel_rfl) (by kernel_rfl) (by kernel_rfl) (fun _ _ _ h => h) (Or.inl ⟨by rfl, ?_⟩) hS ?_
                rotate_left 1
                · intro w hw; obtain ⟨hb9, hs9, hq9⟩ := hw; go_simp; try (with_reducible rfl)
                simp only [Act.put, List.setIfInBounds_toArray, List.set_cons_zero, List.set_cons_succ]
                refine wpAnyH_take (i := 19) (oi := { dst := some 84, op := .load 3 (.tmp 83), type := 3, pos := "law.go:76", after := #[{ on := 18, ground := .data }, { on := 14, ground := .guard }], guard := some (14, false) }) (v := (.int .i64 pd)) rfl (by kernel_rfl) (by kernel_rfl) (by kernel_rfl) (fun _ _ _ h => h) (Or.inl ⟨by rfl, ?_⟩) hS ?_
                · intro w hw; obtain ⟨hb9, hs9, hq9⟩ := hw; have d0 : _ = some (Value.int .i64 pn) := hq9.cell 0; have d1 : _ = some (Value.int .i64 pd) := hq9.cell 1; go_simp; try (with_reducible rfl)
                simp only [Act.put, List.setIfInBounds_toArray, List.set_cons_zero, List.set_cons_succ]
                refine wpAnyH_take (i := 20) (oi := { dst := some 85, op := .binOp .quo 3 (.tmp 82) (.tmp 84) 3, type := 3, pos := "law.go:76", after := #[{ on := 17, ground := .data }, { on := 19, ground := .data }, { on := 14, ground := .guard }], guard := some (14, false) }) (v := (.int .i64 qd)) rfl (by kernel_rfl) (by kernel_rfl) (by kernel_rfl) (fun _ _ _ h => h) (Or.inl ⟨by rfl, ?_⟩) hS ?_
                · intro w hw; obtain ⟨hb9, hs9, hq9⟩ := hw; have k9 := HF.out.2.2.2.1; have k8 := HF.out.2.2.1; go_simp; try (with_reducible rfl)
                simp only [Act.put, List.setIfInBounds_toArray, List.set_cons_zero, List.set_cons_succ]
                refine wpAnyH_take (i := 21) (oi := { dst := some 86, op := .binOp .mul 3 (.tmp 81) (.tmp 85) 3, type := 3, pos := "law.go:76", after := #[{ on := 16, ground := .data }, { on := 20, ground := .data }, { on := 14, ground := .guard }], guard := some (14, false) }) (v := (.int .i64 EA)) rfl (by kernel_rfl) (by kernel_rfl) (by kernel_rfl) (fun _ _ _ h => h) (Or.inl ⟨by rfl, ?_⟩) hS ?_
                · intro w hw; obtain ⟨hb9, hs9, hq9⟩ := hw; have k9 := HF.out.2.2.2.2.1; go_simp; try (with_reducible rfl)
                simp only [Act.put, List.setIfInBounds_toArray, List.set_cons_zero, List.set_cons_succ]
                refine wpAnyH_take (i := 22) (oi := { dst := some 87, op := .move (.tmp 7), type := 3, pos := "law.go:76", after := #[{ on := 14, ground := .guard }], guard := some (14, false) }) (v := (.int .i64 EA)) rfl (by kernel_rfl) (by kernel_rfl) (by kernel_rfl) (fun _ _ _ h => h) (Or.inl ⟨by rfl, ?_⟩) hS ?_
                · intro w hw; obtain ⟨hb9, hs9, hq9⟩ := hw; go_simp; try (with_reducible rfl)
                simp only [Act.put, List.setIfInBounds_toArray, List.set_cons_zero, List.set_cons_succ]
                refine wpAnyH_take (i := 23) (oi := { dst := some 88, op := .binOp .neq 3 (.tmp 86) (.tmp 87) 3, type := 4, pos := "law.go:76", after := #[{ on := 21, ground := .data }, { on := 22, ground := .data }, { on := 14, ground := .guard }], guard := some (14, false) }) (v := (.bool false)) rfl (by kernel_rfl) (by kernel_rfl) (by kernel_rfl) (fun _ _ _ h => h) (Or.inl ⟨by rfl, ?_⟩) hS ?_
                · intro w hw; obtain ⟨hb9, hs9, hq9⟩ := hw; have k9 := HF.out.2.2.2.2.2.1; go_simp; try (with_reducible rfl)
                simp only [Act.put, List.setIfInBounds_toArray, List.set_cons_zero, List.set_cons_succ]
                refine wpAnyH_take (i := 24) (oi := { dst := some 89, op := .pick (.tmp 79) (.const (.bool true)) (.tmp 88), type := 4, pos := "law.go:76", after := #[{ on := 14, ground := .data }, { on := 23, ground := .data }], guard := none }) (v := (.bool false)) rfl (by kernel_rfl) (by kernel_rfl) (by kernel_rfl) (fun _ _ _ h => h) (Or.inl ⟨by rfl, ?_⟩) hS ?_
                · intro w hw; obtain ⟨hb9, hs9, hq9⟩ := hw; go_simp; try (with_reducible rfl)
                simp only [Act.put, List.setIfInBounds_toArray, List.set_cons_zero, List.set_cons_succ]
                refine wpAnyH_take (i := 25) (oi := { dst := some 90, op := .move (.tmp 89), type := 4, pos := "law.go:76", after := #[{ on := 24, ground := .data }, { on := 14, ground := .chain }], guard := none }) (v := (.bool false)) rfl (by kernel_rfl) (by kernel_rfl) (by kernel_rfl) (fun _ _ _ h => h) (Or.inl ⟨by rfl, ?_⟩) hS ?_
                · intro w hw; obtain ⟨hb9, hs9, hq9⟩ := hw; go_simp; try (with_reducible rfl)
                simp only [Act.put, List.setIfInBounds_toArray, List.set_cons_zero, List.set_cons_succ]
                refine wpAnyH_take (i := 26) (oi := { dst := some 91, op := .load 26 (.tmp 2), type := 26, pos := "law.go:76", after := #[{ on := 25, ground := .guard }], guard := some (25, false) }) (v := (.agg #[.int .i64 x.res, .slice (some ⟨S.t.b, S.t.o, none⟩) nT S.t.c, .slice S.m.sp nM S.m.c, .slice S.e.sp nE S.e.c])) rfl (by kernel_rfl) (by kernel_rfl) (by kernel_rfl) (fun _ _ _ h => h) (Or.inl ⟨by rfl, ?_⟩) hS ?_
                · intro w hw; obtain ⟨hb9, hs9, hq9⟩ := hw; obtain ⟨c0, c1, c2, c3⟩ := img_cells hs9; go_simp; try (with_reducible rfl)
                simp only [Act.put, List.setIfInBounds_toArray, List.set_cons_zero, List.set_cons_succ]
                refine wpAnyH_take (i := 27) (oi := { dst := some 92, op := .move (.tmp 1), type := 31, pos := "law.go:76", after := #[{ on := 25, ground := .guard }], guard := some (25, false) }) (v := (.int .u32 (w32 s))) rfl (by kernel_rfl) (by kernel_rfl) (by kernel_rfl) (fun _ _ _ h => h) (Or.inl ⟨by rfl, ?_⟩) hS ?_
                · intro w hw; obtain ⟨hb9, hs9, hq9⟩ := hw; go_simp; try (with_reducible rfl)
                simp only [Act.put, List.setIfInBounds_toArray, List.set_cons_zero, List.set_cons_succ]
                refine wpAnyH_take (i := 29) (oi := { dst := some 94, op := .move (.tmp 7), type := 3, pos := "law.go:76", after := #[{ on := 25, ground := .guard }], guard := some (25, false) }) (v := (.int .i64 EA)) rfl (by kernel_rfl) (by kernel_rfl) (by kernel_rfl) (fun _ _ _ h => h) (Or.inl ⟨by rfl, ?_⟩) hS ?_
                · intro w hw; obtain ⟨hb9, hs9, hq9⟩ := hw; go_simp; try (with_reducible rfl)
                simp only [Act.put, List.setIfInBounds_toArray, List.set_cons_zero, List.set_cons_succ]
                refine wpAnyH_take (i := 30) (oi := { dst := some 95, op := .move (.tmp 5), type := 3, pos := "law.go:76", after := #[{ on := 25, ground := .guard }], guard := some (25, false) }) (v := (.int .i64 rd)) rfl (by kernel_rfl) (by kernel_rfl) (by kernel_rfl) (fun _ _ _ h => h) (Or.inl ⟨by rfl, ?_⟩) hS ?_
                · intro w hw; obtain ⟨hb9, hs9, hq9⟩ := hw; go_simp; try (with_reducible rfl)
                simp only [Act.put, List.setIfInBounds_toArray, List.set_cons_zero, List.set_cons_succ]
                refine wpAnyH_take (i := 31) (oi := { dst := some 96, op := .binOp .gtr 3 (.tmp 94) (.tmp 95) 3, type := 4, pos := "law.go:76", after := #[{ on := 29, ground := .data }, { on := 30, ground := .data }, { on := 25, ground := .guard }], guard := some (25, false) }) (v := (.bool true)) rfl (by kernel_rfl) (by kernel_rfl) (by kernel_rfl) (fun _ _ _ h => h) (Or.inl ⟨by rfl, ?_⟩) hS ?_
                · intro w hw; obtain ⟨hb9, hs9, hq9⟩ := hw; have k9 := HF.out.2.2.2.2.2.2; go_simp; try (with_reducible rfl)
                simp only [Act.put, List.setIfInBounds_toArray, List.set_cons_zero, List.set_cons_succ]
                refine wpAnyH_ready (rs := [28]) (by kernel_rfl) (by simp) (AllReadyH.cons (o := { dst := some 93, op := .call { callee := .value (.func 29), args := #[.tmp 91, .tmp 92], argTypes := #[26, 31] }, type := 4, pos := "law.go:76", after := #[{ on := 26, ground := .data }, { on := 27, ground := .data }, { on := 25, ground := .chain }, { on := 25, ground := .guard }], guard := some (25, false) }) rfl (fun K hK => ?_) AllReadyH.nil)
                go_simp
                go_at_call 29
                refine (HOv.out _ hH0.1).mono ?_
                rintro e w8 ⟨rfl, b8⟩
                have H8 := Lib.hid (And.intro (hH0.1.trans (b8.mono hH0.1.size)) (And.intro (hH0.2.1.new b8) (hH0.2.2.new b8)))
                clear b8
                try dsimp only
                refine hK.out _ _ H8.out (fun hHeld => ?_)
                clear hK K
                try simp only [Act.put, List.setIfInBounds_toArray, List.set_cons_zero, List.set_cons_succ]
                refine wpAnyH_take (i := 32) (oi := { dst := some 97, op := .binOp .neq 4 (.tmp 93) (.tmp 96) 4, type := 4, pos := "law.go:76", after := #[{ on := 28, ground := .data }, { on := 31, ground := .data }, { on := 25, ground := .guard }], guard := some (25, false) }) (v := (.bool false)) rfl (by kernel_rfl) (by kernel_rfl) (by kernel_rfl) (fun _ _ _ h => h) (Or.inl ⟨by rfl, ?_⟩) H8.out ?_
                · intro w hw; obtain ⟨hb9, hs9, hq9⟩ := hw; go_simp; try (with_reducible rfl)
                simp only [Act.put, List.setIfInBounds_toArray, List.set_cons_zero, List.set_cons_succ]
                refine wpAnyH_take (i := 33) (oi := { dst := some 98, op := .pick (.tmp 90) (.const (.bool true)) (.tmp 97), type := 4, pos := "law.go:76", after := #[{ on := 25, ground := .data }, { on := 32, ground := .data }], guard := none }) (v := (.bool false)) rfl (by kernel_rfl) (by kernel_rfl) (by kernel_rfl) (fun _ _ _ h => h) (Or.inl ⟨by rfl, ?_⟩) H8.out ?_
                · intro w hw; obtain ⟨hb9, hs9, hq9⟩ := hw; go_simp; try (with_reducible rfl)
                simp only [Act.put, List.setIfInBounds_toArray, List.set_cons_zero, List.set_cons_succ]
                refine wpAnyH_done (by kernel_rfl) ?_ _

                clear hH0 H7 HF
                have d0 : w8.cell? ⟨B, 0, none⟩ = some (.int .i64 pn) := H8.out.2.2.cell 0
                have d1 : w8.cell? ⟨B, 1, none⟩ = some (.int .i64 pd) := H8.out.2.2.cell 1
                go_wp2
                go_loopg [11] 4998 (fun g v11 wr => ∃ i : Nat, i + g = 4998 ∧ v11 = .int .i64 ((i + 2 : Nat) : Int) ∧ Aside (w8 = wr))
                case atStart => exact ⟨0, by omega, rfl, rfl⟩
                case round =>
                  obtain ⟨i, hig, rfl, HQ⟩ := hrel
                  obtain rfl := HQ.out
                  clear HQ
                  have HW := Lib.hid (And.intro H8.out.1 H8.out.1)
                  cases gk with
                  | zero =>
                    obtain rfl : i = 4998 := by omega
                    clear hig
                    go_wp2_with (first
                      | (go_at_call 27; refine (HAl.out _ HW.out.1).mono ?_; rintro e w9 ⟨rfl, b9⟩; have H9 := Lib.hid (HW.out.1.trans (b9.mono HW.out.1.size)); clear b9)
                      | fail)
                    go_ret
                    exact ⟨rfl, H9.out⟩
                  | succ g2 =>
                    have hk2 : ((i + 2 : Nat) : Int) < 5000 := by omega
                    have hd2 : 2 ≤ ((i + 2 : Nat) : Int) := by omega
                    obtain ⟨d, hd⟩ : ∃ d : Int, ((i + 2 : Nat) : Int) = d := ⟨_, rfl⟩
                    have HD := Lib.hid hd
                    rw [hd] at hk2 hd2 ⊢
                    clear hd
                    have dz : ¬ d = 0 := by omega
                    by_cases hdp : d ≤ pd
                    case neg =>
                      go_wp2_with (first
                        | (go_at_call 27; refine (HAl.out _ HW.out.1).mono ?_; rintro e w9 ⟨rfl, b9⟩; have H9 := Lib.hid (HW.out.1.trans (b9.mono HW.out.1.size)); clear b9)
                        | fail)
                      go_ret
                      exact ⟨rfl, H9.out⟩
                    case pos =>
                      have ht1 : pn.tmod d = pn % d := Int.tmod_eq_emod_of_nonneg HP2.out.2.1
                      have ht2 : pd.tmod d = pd % d := Int.tmod_eq_emod_of_nonneg (by have := HP2.out.1; omega)
                      have hno : ¬ (pn % d = 0 ∧ pd % d = 0) := fun h => HCo.out d hd2 (Int.dvd_of_emod_eq_zero h.1) (Int.dvd_of_emod_eq_zero h.2)
                      have hb1 := Int.emod_nonneg pn dz
                      have hb2 := Int.emod_lt_of_pos pn (show 0 < d by omega)
                      have hb3 := Int.emod_nonneg pd dz
                      have hb4 := Int.emod_lt_of_pos pd (show 0 < d by omega)
                      obtain ⟨m1, hm1⟩ : ∃ m, pn % d = m := ⟨_, rfl⟩
                      obtain ⟨m2, hm2⟩ : ∃ m, pd % d = m := ⟨_, rfl⟩
                      rw [hm1] at ht1 hno hb1 hb2
                      rw [hm2] at ht2 hno hb3 hb4
                      clear hm1 hm2
                      by_cases z1 : m1 = 0
                      · have z2 : ¬ m2 = 0 := fun h => hno ⟨z1, h⟩
                        subst z1
                        clear hno
                        go_wp2
                        go_roundg g2
                        case measure => omega
                        case rel => exact ⟨i + 1, by omega, by rw [← HD.out]; go_num, rfl⟩
                      · clear hno
                        go_wp2
                        go_roundg g2
                        case measure => omega
                        case rel => exact ⟨i + 1, by omega, by rw [← HD.out]; go_num, rfl⟩
              case neg =>
                rw [decide_eq_false hlt] at HOv
                have HF := Lib.hid (And.intro hl1 (And.intro i5 (And.intro hz (And.intro hw0 (And.intro hwe (And.intro (show (EA != EA) = false by simp) hlt))))))
                clear hl1 i5 hz hw0 hwe hlt
                go_upto_region 13 with fail
                have hH0 : Below w.heap.size w w7.drew ∧ RowAt w7.drew Z 26 #[.int .i64 x.res, .slice (some ⟨S.t.b, S.t.o, none⟩) nT S.t.c, .slice S.m.sp nM S.m.c, .slice S.e.sp nE S.e.c] ∧ RowAt w7.drew B 64 #[.int .i64 pn, .int .i64 pd] := ⟨below_dn H7.out.1 1, H7.out.2.1, H7.out.2.2⟩
                refine wp_region_held_drew (S := fun w' => Below w.heap.size w w' ∧ RowAt w' Z 26 #[.int .i64 x.res, .slice (some ⟨S.t.b, S.t.o, none⟩) nT S.t.c, .slice S.m.sp nM S.m.c, .slice S.e.sp nE S.e.c] ∧ RowAt w' B 64 #[.int .i64 pn, .int .i64 pd]) (by kernel_rfl) hH0 (fun hS => ?_)
                refine wpAnyH_take (i := 0) (oi := { dst := some 65, op := .move (.tmp 10), type := 4, pos := "law.go:76", after := #[], guard := none }) (v := (.bool true)) rfl (by kernel_rfl) (by kernel_rfl) (by kernel_rfl) (fun _ _ _ h => h) (Or.inl ⟨by rfl, ?_⟩) hS ?_
                · intro w hw; obtain ⟨hb9, hs9, hq9⟩ := hw; go_simp; try (with_reducible rfl)
                simp only [Act.put, List.setIfInBounds_toArray, List.set_cons_zero, List.set_cons_succ]
                refine wpAnyH_take (i := 1) (oi := { dst := some 66, op := .unOp .not 4 (.tmp 65), type := 4, pos := "law.go:76", after := #[{ on := 0, ground := .data }], guard := none }) (v := (.bool false)) rfl (by kernel_rfl) (by kernel_rfl) (by kernel_rfl) (fun _ _ _ h => h) (Or.inl ⟨by rfl, ?_⟩) hS ?_
                · intro w hw; obtain ⟨hb9, hs9, hq9⟩ := hw; go_simp; try (with_reducible rfl)
                simp only [Act.put, List.setIfInBounds_toArray, List.set_cons_zero, List.set_cons_succ]
                refine wpAnyH_take (i := 2) (oi := { dst := some 67, op := .move (.tmp 66), type := 4, pos := "law.go:76", after := #[{ on := 1, ground := .data }], guard := none }) (v := (.bool false)) rfl (by kernel_rfl) (by kernel_rfl) (by kernel_rfl) (fun _ _ _ h => h) (Or.inl ⟨by rfl, ?_⟩) hS ?_
                · intro w hw; obtain ⟨hb9, hs9, hq9⟩ := hw; go_simp; try (with_reducible rfl)
                simp only [Act.put, List.setIfInBounds_toArray, List.set_cons_zero, List.set_cons_succ]
                refine wpAnyH_take (i := 3) (oi := { dst := some 68, op := .fieldAddr 64 (.tmp 9) 1, type := 0, pos := "law.go:76", after := #[{ on := 2, ground := .guard }], guard := some (2, false) }) (v := ?_) rfl (by kernel_rfl) (by kernel_rfl) (by kernel_rfl) (fun _ _ _ h => h) (Or.inl ⟨by rfl, ?_⟩) hS ?_
                rotate_left 1
                · intro w hw; obtain ⟨hb9, hs9, hq9⟩ := hw; go_simp; try (with_reducible rfl)
                simp only [Act.put, List.setIfInBounds_toArray, List.set_cons_zero, List.set_cons_succ]
                refine wpAnyH_take (i := 4) (oi := { dst := some 69, op := .load 3 (.tmp 68), type := 3, pos := "law.go:76", after := #[{ on := 3, ground := .data }, { on := 2, ground := .guard }], guard := some (2, false) }) (v := (.int .i64 pd)) rfl (by kernel_rfl) (by kernel_rfl) (by kernel_rfl) (fun _ _ _ h => h) (Or.inl ⟨by rfl, ?_⟩) hS ?_
                · intro w hw; obtain ⟨hb9, hs9, hq9⟩ := hw; have d0 : _ = some (Value.int .i64 pn) := hq9.cell 0; have d1 : _ = some (Value.int .i64 pd) := hq9.cell 1; go_simp; try (with_reducible rfl)
                simp only [Act.put, List.setIfInBounds_toArray, List.set_cons_zero, List.set_cons_succ]
                refine wpAnyH_take (i := 5) (oi := { dst := some 70, op := .binOp .lss 3 (.tmp 69) (.const (.int .i64 1)) 3, type := 4, pos := "law.go:76", after := #[{ on := 4, ground := .data }, { on := 2, ground := .guard }], guard := some (2, false) }) (v := (.bool false)) rfl (by kernel_rfl) (by kernel_rfl) (by kernel_rfl) (fun _ _ _ h => h) (Or.inl ⟨by rfl, ?_⟩) hS ?_
                · intro w hw; obtain ⟨hb9, hs9, hq9⟩ := hw; have k9 := HF.out.1; go_simp; try (with_reducible rfl)
                simp only [Act.put, List.setIfInBounds_toArray, List.set_cons_zero, List.set_cons_succ]
                refine wpAnyH_take (i := 6) (oi := { dst := some 71, op := .pick (.tmp 67) (.const (.bool true)) (.tmp 70), type := 4, pos := "law.go:76", after := #[{ on := 2, ground := .data }, { on := 5, ground := .data }], guard := none }) (v := (.bool false)) rfl (by kernel_rfl) (by kernel_rfl) (by kernel_rfl) (fun _ _ _ h => h) (Or.inl ⟨by rfl, ?_⟩) hS ?_
                · intro w hw; obtain ⟨hb9, hs9, hq9⟩ := hw; go_simp; try (with_reducible rfl)
                simp only [Act.put, List.setIfInBounds_toArray, List.set_cons_zero, List.set_cons_succ]
                refine wpAnyH_take (i := 7) (oi := { dst := some 72, op := .move (.tmp 71), type := 4, pos := "law.go:76", after := #[{ on := 6, ground := .data }, { on := 2, ground := .chain }], guard := none }) (v := (.bool false)) rfl (by kernel_rfl) (by kernel_rfl) (by kernel_rfl) (fun _ _ _ h => h) (Or.inl ⟨by rfl, ?_⟩) hS ?_
                · intro w hw; obtain ⟨hb9, hs9, hq9⟩ := hw; go_simp; try (with_reducible rfl)
                simp only [Act.put, List.setIfInBounds_toArray, List.set_cons_zero, List.set_cons_succ]
                refine wpAnyH_take (i := 8) (oi := { dst := some 73, op := .move (.tmp 5), type := 3, pos := "law.go:76", after := #[{ on := 7, ground := .guard }], guard := some (7, false) }) (v := (.int .i64 rd)) rfl (by kernel_rfl) (by kernel_rfl) (by kernel_rfl) (fun _ _ _ h => h) (Or.inl ⟨by rfl, ?_⟩) hS ?_
                · intro w hw; obtain ⟨hb9, hs9, hq9⟩ := hw; go_simp; try (with_reducible rfl)
                simp only [Act.put, List.setIfInBounds_toArray, List.set_cons_zero, List.set_cons_succ]
                refine wpAnyH_take (i := 9) (oi := { dst := some 74, op := .fieldAddr 64 (.tmp 9) 1, type := 0, pos := "law.go:76", after := #[{ on := 7, ground := .guard }], guard := some (7, false) }) (v := ?_) rfl (by kernel_rfl) (by kernel_rfl) (by kernel_rfl) (fun _ _ _ h => h) (Or.inl ⟨by rfl, ?_⟩) hS ?_
                rotate_left 1
                · intro w hw; obtain ⟨hb9, hs9, hq9⟩ := hw; go_simp; try (with_reducible rfl)
                simp only [Act.put, List.setIfInBounds_toArray, List.set_cons_zero, List.set_cons_succ]
                refine wpAnyH_take (i := 10) (oi := { dst := some 75, op := .load 3 (.tmp 74), type := 3, pos := "law.go:76", after := #[{ on := 9, ground := .data }, { on := 7, ground := .guard }], guard := some (7, false) }) (v := (.int .i64 pd)) rfl (by kernel_rfl) (by kernel_rfl) (by kernel_rfl) (fun _ _ _ h => h) (Or.inl ⟨by rfl, ?_⟩) hS ?_
                · intro w hw; obtain ⟨hb9, hs9, hq9⟩ := hw; have d0 : _ = some (Value.int .i64 pn) := hq9.cell 0; have d1 : _ = some (Value.int .i64 pd) := hq9.cell 1; go_simp; try (with_reducible rfl)
                simp only [Act.put, List.setIfInBounds_toArray, List.set_cons_zero, List.set_cons_succ]
                refine wpAnyH_take (i := 11) (oi := { dst := some 76, op := .binOp .rem 3 (.tmp 73) (.tmp 75) 3, type := 3, pos := "law.go:76", after := #[{ on := 8, ground := .data }, { on := 10, ground := .data }, { on := 7, ground := .guard }], guard := some (7, false) }) (v := (.int .i64 0)) rfl (by kernel_rfl) (by kernel_rfl) (by kernel_rfl) (fun _ _ _ h => h) (Or.inl ⟨by rfl, ?_⟩) hS ?_
                · intro w hw; obtain ⟨hb9, hs9, hq9⟩ := hw; have k9 := HF.out.2.1; have k8 := HF.out.2.2.1; go_simp; try (with_reducible rfl)
                simp only [Act.put, List.setIfInBounds_toArray, List.set_cons_zero, List.set_cons_succ]
                refine wpAnyH_take (i := 12) (oi := { dst := some 77, op := .binOp .neq 3 (.tmp 76) (.const (.int .i64 0)) 3, type := 4, pos := "law.go:76", after := #[{ on := 11, ground := .data }, { on := 7, ground := .guard }], guard := some (7, false) }) (v := (.bool false)) rfl (by kernel_rfl) (by kernel_rfl) (by kernel_rfl) (fun _ _ _ h => h) (Or.inl ⟨by rfl, ?_⟩) hS ?_
                · intro w hw; obtain ⟨hb9, hs9, hq9⟩ := hw; go_simp; try (with_reducible rfl)
                simp only [Act.put, List.setIfInBounds_toArray, List.set_cons_zero, List.set_cons_succ]
                refine wpAnyH_take (i := 13) (oi := { dst := some 78, op := .pick (.tmp 72) (.const (.bool true)) (.tmp 77), type := 4, pos := "law.go:76", after := #[{ on := 7, ground := .data }, { on := 12, ground := .data }], guard := none }) (v := (.bool false)) rfl (by kernel_rfl) (by kernel_rfl) (by kernel_rfl) (fun _ _ _ h => h) (Or.inl ⟨by rfl, ?_⟩) hS ?_
                · intro w hw; obtain ⟨hb9, hs9, hq9⟩ := hw; go_simp; try (with_reducible rfl)
                simp only [Act.put, List.setIfInBounds_toArray, List.set_cons_zero, List.set_cons_succ]
                refine wpAnyH_take (i := 14) (oi := { dst := some 79, op := .move (.tmp 78), type := 4, pos := "law.go:76", after := #[{ on := 13, ground := .data }, { on := 7, ground := .chain }], guard := none }) (v := (.bool false)) rfl (by kernel_rfl) (by kernel_rfl) (by kernel_rfl) (fun _ _ _ h => h) (Or.inl ⟨by rfl, ?_⟩) hS ?_
                · intro w hw; obtain ⟨hb9, hs9, hq9⟩ := hw; go_simp; try (with_reducible rfl)
                simp only [Act.put, List.setIfInBounds_toArray, List.set_cons_zero, List.set_cons_succ]
                refine wpAnyH_take (i := 15) (oi := { dst := some 80, op := .fieldAddr 64 (.tmp 9) 0, type := 0, pos := "law.go:76", after := #[{ on := 14, ground := .guard }], guard := some (14, false) }) (v := ?_) rfl (by kernel_rfl) (by kernel_rfl) (by kernel_rfl) (fun _ _ _ h => h) (Or.inl ⟨by rfl, ?_⟩) hS ?_
                rotate_left 1
                · intro w hw; obtain ⟨hb9, hs9, hq9⟩ := hw; go_simp; try (with_reducible rfl)
                simp only [Act.put, List.setIfInBounds_toArray, List.set_cons_zero, List.set_cons_succ]
                refine wpAnyH_take (i := 16) (oi := { dst := some 81, op := .load 3 (.tmp 80), type := 3, pos := "law.go:76", after := #[{ on := 15, ground := .data }, { on := 14, ground := .guard }], guard := some (14, false) }) (v := (.int .i64 pn)) rfl (by kernel_rfl) (by kernel_rfl) (by kernel_rfl) (fun _ _ _ h => h) (Or.inl ⟨by rfl, ?_⟩) hS ?_
                · intro w hw; obtain ⟨hb9, hs9, hq9⟩ := hw; have d0 : _ = some (Value.int .i64 pn) := hq9.cell 0; have d1 : _ = some (Value.int .i64 pd) := hq9.cell 1; go_simp; try (with_reducible rfl)
                simp only [Act.put, List.setIfInBounds_toArray, List.set_cons_zero, List.set_cons_succ]
                refine wpAnyH_take (i := 17) (oi := { dst := some 82, op := .move (.tmp 5), type := 3, pos := "law.go:76", after := #[{ on := 14, ground := .guard }], guard := some (14, false) }) (v := (.int .i64 rd)) rfl (by kernel_rfl) (by kernel_rfl) (by kernel_rfl) (fun _ _ _ h => h) (Or.inl ⟨by rfl, ?_⟩) hS ?_
                · intro w hw; obtain ⟨hb9, hs9, hq9⟩ := hw; go_simp; try (with_reducible rfl)
                simp only [Act.put, List.setIfInBounds_toArray, List.set_cons_zero, List.set_cons_succ]
                refine wpAnyH_take (i := 18) (oi := { dst := some 83, op := .fieldAddr 64 (.tmp 9) 1, type := 0, pos := "law.go:76", after := #[{ on := 14, ground := .guard }], guard := some (14, false) }) (v := ?_) rfl (by kernel_rfl) (by kernel_rfl) (by kernel_rfl) (fun _ _ _ h => h) (Or.inl ⟨by rfl, ?_⟩) hS ?_
                rotate_left 1
                · intro w hw; obtain ⟨hb9, hs9, hq9⟩ := hw; go_simp; try (with_reducible rfl)
                simp only [Act.put, List.setIfInBounds_toArray, List.set_cons_zero, List.set_cons_succ]
                refine wpAnyH_take (i := 19) (oi := { dst := some 84, op := .load 3 (.tmp 83), type := 3, pos := "law.go:76", after := #[{ on := 18, ground := .data }, { on := 14, ground := .guard }], guard := some (14, false) }) (v := (.int .i64 pd)) rfl (by kernel_rfl) (by kernel_rfl) (by kernel_rfl) (fun _ _ _ h => h) (Or.inl ⟨by rfl, ?_⟩) hS ?_
                · intro w hw; obtain ⟨hb9, hs9, hq9⟩ := hw; have d0 : _ = some (Value.int .i64 pn) := hq9.cell 0; have d1 : _ = some (Value.int .i64 pd) := hq9.cell 1; go_simp; try (with_reducible rfl)
                simp only [Act.put, List.setIfInBounds_toArray, List.set_cons_zero, List.set_cons_succ]
                refine wpAnyH_take (i := 20) (oi := { dst := some 85, op := .binOp .quo 3 (.tmp 82) (.tmp 84) 3, type := 3, pos := "law.go:76", after := #[{ on := 17, ground := .data }, { on := 19, ground := .data }, { on := 14, ground := .guard }], guard := some (14, false) }) (v := (.int .i64 qd)) rfl (by kernel_rfl) (by kernel_rfl) (by kernel_rfl) (fun _ _ _ h => h) (Or.inl ⟨by rfl, ?_⟩) hS ?_
                · intro w hw; obtain ⟨hb9, hs9, hq9⟩ := hw; have k9 := HF.out.2.2.2.1; have k8 := HF.out.2.2.1; go_simp; try (with_reducible rfl)
                simp only [Act.put, List.setIfInBounds_toArray, List.set_cons_zero, List.set_cons_succ]
                refine wpAnyH_take (i := 21) (oi := { dst := some 86, op := .binOp .mul 3 (.tmp 81) (.tmp 85) 3, type := 3, pos := "law.go:76", after := #[{ on := 16, ground := .data }, { on := 20, ground := .data }, { on := 14, ground := .guard }], guard := some (14, false) }) (v := (.int .i64 EA)) rfl (by kernel_rfl) (by kernel_rfl) (by kernel_rfl) (fun _ _ _ h => h) (Or.inl ⟨by rfl, ?_⟩) hS ?_
                · intro w hw; obtain ⟨hb9, hs9, hq9⟩ := hw; have k9 := HF.out.2.2.2.2.1; go_simp; try (with_reducible rfl)
                simp only [Act.put, List.setIfInBounds_toArray, List.set_cons_zero, List.set_cons_succ]
                refine wpAnyH_take (i := 22) (oi := { dst := some 87, op := .move (.tmp 7), type := 3, pos := "law.go:76", after := #[{ on := 14, ground := .guard }], guard := some (14, false) }) (v := (.int .i64 EA)) rfl (by kernel_rfl) (by kernel_rfl) (by kernel_rfl) (fun _ _ _ h => h) (Or.inl ⟨by rfl, ?_⟩) hS ?_
                · intro w hw; obtain ⟨hb9, hs9, hq9⟩ := hw; go_simp; try (with_reducible rfl)
                simp only [Act.put, List.setIfInBounds_toArray, List.set_cons_zero, List.set_cons_succ]
                refine wpAnyH_take (i := 23) (oi := { dst := some 88, op := .binOp .neq 3 (.tmp 86) (.tmp 87) 3, type := 4, pos := "law.go:76", after := #[{ on := 21, ground := .data }, { on := 22, ground := .data }, { on := 14, ground := .guard }], guard := some (14, false) }) (v := (.bool false)) rfl (by kernel_rfl) (by kernel_rfl) (by kernel_rfl) (fun _ _ _ h => h) (Or.inl ⟨by rfl, ?_⟩) hS ?_
                · intro w hw; obtain ⟨hb9, hs9, hq9⟩ := hw; have k9 := HF.out.2.2.2.2.2.1; go_simp; try (with_reducible rfl)
                simp only [Act.put, List.setIfInBounds_toArray, List.set_cons_zero, List.set_cons_succ]
                refine wpAnyH_take (i := 24) (oi := { dst := some 89, op := .pick (.tmp 79) (.const (.bool true)) (.tmp 88), type := 4, pos := "law.go:76", after := #[{ on := 14, ground := .data }, { on := 23, ground := .data }], guard := none }) (v := (.bool false)) rfl (by kernel_rfl) (by kernel_rfl) (by kernel_rfl) (fun _ _ _ h => h) (Or.inl ⟨by rfl, ?_⟩) hS ?_
                · intro w hw; obtain ⟨hb9, hs9, hq9⟩ := hw; go_simp; try (with_reducible rfl)
                simp only [Act.put, List.setIfInBounds_toArray, List.set_cons_zero, List.set_cons_succ]
                refine wpAnyH_take (i := 25) (oi := { dst := some 90, op := .move (.tmp 89), type := 4, pos := "law.go:76", after := #[{ on := 24, ground := .data }, { on := 14, ground := .chain }], guard := none }) (v := (.bool false)) rfl (by kernel_rfl) (by kernel_rfl) (by kernel_rfl) (fun _ _ _ h => h) (Or.inl ⟨by rfl, ?_⟩) hS ?_
                · intro w hw; obtain ⟨hb9, hs9, hq9⟩ := hw; go_simp; try (with_reducible rfl)
                simp only [Act.put, List.setIfInBounds_toArray, List.set_cons_zero, List.set_cons_succ]
                refine wpAnyH_take (i := 26) (oi := { dst := some 91, op := .load 26 (.tmp 2), type := 26, pos := "law.go:76", after := #[{ on := 25, ground := .guard }], guard := some (25, false) }) (v := (.agg #[.int .i64 x.res, .slice (some ⟨S.t.b, S.t.o, none⟩) nT S.t.c, .slice S.m.sp nM S.m.c, .slice S.e.sp nE S.e.c])) rfl (by kernel_rfl) (by kernel_rfl) (by kernel_rfl) (fun _ _ _ h => h) (Or.inl ⟨by rfl, ?_⟩) hS ?_
                · intro w hw; obtain ⟨hb9, hs9, hq9⟩ := hw; obtain ⟨c0, c1, c2, c3⟩ := img_cells hs9; go_simp; try (with_reducible rfl)
                simp only [Act.put, List.setIfInBounds_toArray, List.set_cons_zero, List.set_cons_succ]
                refine wpAnyH_take (i := 27) (oi := { dst := some 92, op := .move (.tmp 1), type := 31, pos := "law.go:76", after := #[{ on := 25, ground := .guard }], guard := some (25, false) }) (v := (.int .u32 (w32 s))) rfl (by kernel_rfl) (by kernel_rfl) (by kernel_rfl) (fun _ _ _ h => h) (Or.inl ⟨by rfl, ?_⟩) hS ?_
                · intro w hw; obtain ⟨hb9, hs9, hq9⟩ := hw; go_simp; try (with_reducible rfl)
                simp only [Act.put, List.setIfInBounds_toArray, List.set_cons_zero, List.set_cons_succ]
                refine wpAnyH_take (i := 29) (oi := { dst := some 94, op := .move (.tmp 7), type := 3, pos := "law.go:76", after := #[{ on := 25, ground := .guard }], guard := some (25, false) }) (v := (.int .i64 EA)) rfl (by kernel_rfl) (by kernel_rfl) (by kernel_rfl) (fun _ _ _ h => h) (Or.inl ⟨by rfl, ?_⟩) hS ?_
                · intro w hw; obtain ⟨hb9, hs9, hq9⟩ := hw; go_simp; try (with_reducible rfl)
                simp only [Act.put, List.setIfInBounds_toArray, List.set_cons_zero, List.set_cons_succ]
                refine wpAnyH_take (i := 30) (oi := { dst := some 95, op := .move (.tmp 5), type := 3, pos := "law.go:76", after := #[{ on := 25, ground := .guard }], guard := some (25, false) }) (v := (.int .i64 rd)) rfl (by kernel_rfl) (by kernel_rfl) (by kernel_rfl) (fun _ _ _ h => h) (Or.inl ⟨by rfl, ?_⟩) hS ?_
                · intro w hw; obtain ⟨hb9, hs9, hq9⟩ := hw; go_simp; try (with_reducible rfl)
                simp only [Act.put, List.setIfInBounds_toArray, List.set_cons_zero, List.set_cons_succ]
                refine wpAnyH_take (i := 31) (oi := { dst := some 96, op := .binOp .gtr 3 (.tmp 94) (.tmp 95) 3, type := 4, pos := "law.go:76", after := #[{ on := 29, ground := .data }, { on := 30, ground := .data }, { on := 25, ground := .guard }], guard := some (25, false) }) (v := (.bool false)) rfl (by kernel_rfl) (by kernel_rfl) (by kernel_rfl) (fun _ _ _ h => h) (Or.inl ⟨by rfl, ?_⟩) hS ?_
                · intro w hw; obtain ⟨hb9, hs9, hq9⟩ := hw; have k9 := HF.out.2.2.2.2.2.2; go_simp; try (with_reducible rfl)
                simp only [Act.put, List.setIfInBounds_toArray, List.set_cons_zero, List.set_cons_succ]
                refine wpAnyH_ready (rs := [28]) (by kernel_rfl) (by simp) (AllReadyH.cons (o := { dst := some 93, op := .call { callee := .value (.func 29), args := #[.tmp 91, .tmp 92], argTypes := #[26, 31] }, type := 4, pos := "law.go:76", after := #[{ on := 26, ground := .data }, { on := 27, ground := .data }, { on := 25, ground := .chain }, { on := 25, ground := .guard }], guard := some (25, false) }) rfl (fun K hK => ?_) AllReadyH.nil)
                go_simp
                go_at_call 29
                refine (HOv.out _ hH0.1).mono ?_
                rintro e w8 ⟨rfl, b8⟩
                have H8 := Lib.hid (And.intro (hH0.1.trans (b8.mono hH0.1.size)) (And.intro (hH0.2.1.new b8) (hH0.2.2.new b8)))
                clear b8
                try dsimp only
                refine hK.out _ _ H8.out (fun hHeld => ?_)
                clear hK K
                try simp only [Act.put, List.setIfInBounds_toArray, List.set_cons_zero, List.set_cons_succ]
                refine wpAnyH_take (i := 32) (oi := { dst := some 97, op := .binOp .neq 4 (.tmp 93) (.tmp 96) 4, type := 4, pos := "law.go:76", after := #[{ on := 28, ground := .data }, { on := 31, ground := .data }, { on := 25, ground := .guard }], guard := some (25, false) }) (v := (.bool false)) rfl (by kernel_rfl) (by kernel_rfl) (by kernel_rfl) (fun _ _ _ h => h) (Or.inl ⟨by rfl, ?_⟩) H8.out ?_
                · intro w hw; obtain ⟨hb9, hs9, hq9⟩ := hw; go_simp; try (with_reducible rfl)
                simp only [Act.put, List.setIfInBounds_toArray, List.set_cons_zero, List.set_cons_succ]
                refine wpAnyH_take (i := 33) (oi := { dst := some 98, op := .pick (.tmp 90) (.const (.bool true)) (.tmp 97), type := 4, pos := "law.go:76", after := #[{ on := 25, ground := .data }, { on := 32, ground := .data }], guard := none }) (v := (.bool false)) rfl (by kernel_rfl) (by kernel_rfl) (by kernel_rfl) (fun _ _ _ h => h) (Or.inl ⟨by rfl, ?_⟩) H8.out ?_
                · intro w hw; obtain ⟨hb9, hs9, hq9⟩ := hw; go_simp; try (with_reducible rfl)
                simp only [Act.put, List.setIfInBounds_toArray, List.set_cons_zero, List.set_cons_succ]
                refine wpAnyH_done (by kernel_rfl) ?_ _

                clear hH0 H7 HF
                have d0 : w8.cell? ⟨B, 0, none⟩ = some (.int .i64 pn) := H8.out.2.2.cell 0
                have d1 : w8.cell? ⟨B, 1, none⟩ = some (.int .i64 pd) := H8.out.2.2.cell 1
                go_wp2
                go_loopg [11] 4998 (fun g v11 wr => ∃ i : Nat, i + g = 4998 ∧ v11 = .int .i64 ((i + 2 : Nat) : Int) ∧ Aside (w8 = wr))
                case atStart => exact ⟨0, by omega, rfl, rfl⟩
                case round =>
                  obtain ⟨i, hig, rfl, HQ⟩ := hrel
                  obtain rfl := HQ.out
                  clear HQ
                  have HW := Lib.hid (And.intro H8.out.1 H8.out.1)
                  cases gk with
                  | zero =>
                    obtain rfl : i = 4998 := by omega
                    clear hig
                    go_wp2_with (first
                      | (go_at_call 27; refine (HAl.out _ HW.out.1).mono ?_; rintro e w9 ⟨rfl, b9⟩; have H9 := Lib.hid (HW.out.1.trans (b9.mono HW.out.1.size)); clear b9)
                      | fail)
                    go_ret
                    exact ⟨rfl, H9.out⟩
                  | succ g2 =>
                    have hk2 : ((i + 2 : Nat) : Int) < 5000 := by omega
                    have hd2 : 2 ≤ ((i + 2 : Nat) : Int) := by omega
                    obtain ⟨d, hd⟩ : ∃ d : Int, ((i + 2 : Nat) : Int) = d := ⟨_, rfl⟩
                    have HD := Lib.hid hd
                    rw [hd] at hk2 hd2 ⊢
                    clear hd
                    have dz : ¬ d = 0 := by omega
                    by_cases hdp : d ≤ pd
                    case neg =>
                      go_wp2_with (first
                        | (go_at_call 27; refine (HAl.out _ HW.out.1).mono ?_; rintro e w9 ⟨rfl, b9⟩; have H9 := Lib.hid (HW.out.1.trans (b9.mono HW.out.1.size)); clear b9)
                        | fail)
                      go_ret
                      exact ⟨rfl, H9.out⟩
                    case pos =>
                      have ht1 : pn.tmod d = pn % d := Int.tmod_eq_emod_of_nonneg HP2.out.2.1
                      have ht2 : pd.tmod d = pd % d := Int.tmod_eq_emod_of_nonneg (by have := HP2.out.1; omega)
                      have hno : ¬ (pn % d = 0 ∧ pd % d = 0) := fun h => HCo.out d hd2 (Int.dvd_of_emod_eq_zero h.1) (Int.dvd_of_emod_eq_zero h.2)
                      have hb1 := Int.emod_nonneg pn dz
                      have hb2 := Int.emod_lt_of_pos pn (show 0 < d by omega)
                      have hb3 := Int.emod_nonneg pd dz
                      have hb4 := Int.emod_lt_of_pos pd (show 0 < d by omega)
                      obtain ⟨m1, hm1⟩ : ∃ m, pn % d = m := ⟨_, rfl⟩
                      obtain ⟨m2, hm2⟩ : ∃ m, pd % d = m := ⟨_, rfl⟩
                      rw [hm1] at ht1 hno hb1 hb2
                      rw [hm2] at ht2 hno hb3 hb4
                      clear hm1 hm2
                      by_cases z1 : m1 = 0
                      · have z2 : ¬ m2 = 0 := fun h => hno ⟨z1, h⟩
                        subst z1
                        clear hno
                        go_wp2
                        go_roundg g2
                        case measure => omega
                        case rel => exact ⟨i + 1, by omega, by rw [← HD.out]; go_num, rfl⟩
                      · clear hno
                        go_wp2
                        go_roundg g2
                        case measure => omega
                        case rel => exact ⟨i + 1, by omega, by rw [← HD.out]; go_num, rfl⟩
            | succ g1 =>
              have hk : k < nT := by omega
              have e1 : (k : Int) < (nT : Int) := by omega
              have HH := Lib.hid (fun wx => has10_any s (k : Int) wx)
              rw [hasB_nat s k (by omega)] at HH
              have HSk := Lib.hid (HSs.out k)
              have hE1 := HSr.out hrg.1 hle k (by omega)
              have hE2 := HSr.out hrg.1 hle (k + 1) (by omega)
              cases hb : s.getLsbD k
              case false =>
                rw [hb] at HH HSk
                have HSk2 := Lib.hid (show E (k + 1) = E k from HSk.out.trans (if_neg (by decide)))
                clear hb HSk
                go_wp2_with (first
                  | (go_at_call 24; refine (HH.out _).mono ?_; rintro e w' ⟨rfl, rfl⟩)
                  | fail)
                go_roundg g1
                case measure => omega
                case rel => exact ⟨k + 1, by omega, by rw [HSk2.out], by go_num, H5.out⟩
              case true =>
                rw [hb] at HH HSk
                have HSk2 := Lib.hid (show E (k + 1) = E k + (x.t k).cost * (rd / (x.t k).per) from HSk.out.trans (if_pos rfl))
                clear hb HSk
                have hper := HG.out.per k (by have := HN.out; omega)
                have hcos := HG.out.cost k (by have := HN.out; omega)
                obtain ⟨k0, k1, k2, k3, k4, k5, k6, k7, k8, k9, k10⟩ := HTc.out _ H5.out.1 k hk
                clear k1 k3 k4 k5 k6 k7 k8 k9 k10
                obtain ⟨p0, h0⟩ : ∃ v, (x.t k).per = v := ⟨_, rfl⟩
                obtain ⟨p2, h2⟩ : ∃ v, (x.t k).cost = v := ⟨_, rfl⟩
                rw [h0] at k0 HSk2 hper
                rw [h2] at k2 HSk2 hcos
                clear h0 h2
                have hz : ¬ p0 = 0 := by omega
                obtain ⟨q1, q2, -, -, -⟩ := quo_bds (a := rd) (b := p0) hrg.1 (by omega)
                have ht1 : rd.tdiv p0 = rd / p0 := Int.tdiv_eq_ediv_of_nonneg hrg.1
                obtain ⟨q, hq⟩ : ∃ v, rd / p0 = v := ⟨_, rfl⟩
                rw [hq] at q1 q2 ht1 HSk2
                have hm0 : 0 ≤ p2 * q := Int.mul_nonneg (by omega) q1
                obtain ⟨m, hm⟩ : ∃ v, p2 * q = v := ⟨_, rfl⟩
                rw [hm] at HSk2 hm0
                have hE3 := HSk2.out
                rw [hE3] at hE2
                clear hq hE3
                go_upto_region 11 with (first
                  | (go_at_call 24; refine (HH.out _).mono ?_; rintro e w' ⟨rfl, rfl⟩)
                  | fail)
                go_quiet (fail)
                go_wp2
                go_roundg g1
                case measure => omega
                case rel => exact ⟨k + 1, by omega, by rw [HSk2.out], by go_num, below_dn H5.out.1 _, H5.out.2⟩
end Go.Proofs.YtihomapbncnhaaaDoor
