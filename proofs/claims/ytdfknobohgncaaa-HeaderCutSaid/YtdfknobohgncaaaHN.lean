/- The walk of HeaderWrites. -/
import Derived.Test.YtdfknobohgncaaaHM
import Derived.BigQuiet
import Derived.Deep.QuietTactic
namespace Go.Proofs.Ytdfknobohgncaaa
open Go.RowKit

theorem own_news {w : World} {base : Nat} {e : TypeId} {size g n cap : Nat} {xs : List Value} (h : w.ownsRow base e size (.slice (some ⟨g, 0, none⟩) n cap) n xs) : ∀ j u, xs[j]? = some u → w.cell? ((⟨g, 0, none⟩ : Addr).add j) = some u := by
  intro j u hu
  have hj : j < n * size := by have := (List.getElem?_eq_some_iff.1 hu).1; rw [h.1] at this; exact this
  rw [Addr.add_lit, Nat.zero_add]
  exact (h.cellAt j hj).trans hu
theorem own_grown {A B : World} {base base' n : Nat} {e : TypeId} {size : Nat} {u v : Value} {xs : List Value} (h : A.ownsRow base e size u n xs) (hg : A.grownBy B v.ownBlock) (hlt : ∀ g, u.ownBlock = some g → g < base') (hge : ∀ g, v.ownBlock = some g → base' ≤ g) : B.ownsRow base e size u n xs :=
  own_ch h (ch_grown hg) fun g h1 h2 => by have := hlt g h1; have := hge g h2; omega
theorem rowWr_len (at_ : Int) (l : Nat → BitVec 32) (k : Nat) : (rowWr at_ l k).length = k * 2 := by
  induction k with
  | zero => rfl
  | succ k ih => unfold rowWr; rw [List.length_append, ih]; simp; omega
theorem rowWr_one (at_ : Int) (l : Nat → BitVec 32) (k : Nat) : ∀ u ∈ rowWr at_ l k, u.oneCell' = true := by
  induction k with
  | zero => intro u hu; cases hu
  | succ k ih =>
    intro u hu
    unfold rowWr at hu
    rcases List.mem_append.1 hu with h | h
    · exact ih u h
    · simp at h; rcases h with rfl | rfl <;> rfl
theorem rowA_len (H : Nat → BitVec 32) (k : Nat) : (rowA H k).length = k * 2 := by
  induction k with
  | zero => rfl
  | succ k ih => unfold rowA; rw [List.length_append, ih]; simp; omega
theorem rowA_at (H : Nat → BitVec 32) (n k : Nat) (hk : k < n) : (rowA H n)[k * 2]? = some (.int .i64 (k : Int)) ∧ (rowA H n)[k * 2 + 1]? = some (.int .u32 (w32 (H k))) := by
  induction n with
  | zero => omega
  | succ n ih =>
    unfold rowA
    have hl := rowA_len H n
    by_cases e : k = n
    · subst e
      rw [List.getElem?_append_right (by omega), List.getElem?_append_right (by omega), hl]
      simp
    · rw [List.getElem?_append_left (by omega), List.getElem?_append_left (by omega)]
      exact ih (by omega)
theorem empty_row (w : World) : (w.alloc (.cells #[] 45)).ownsRow w.heap.size 45 2 (.slice (some ⟨w.heap.size, 0, none⟩) 0 0) 0 [] :=
  ⟨rfl, .inr ⟨w.heap.size, 0, #[], rfl, Nat.le_refl _, World.alloc_heap_new _ _, Nat.le_refl _, Nat.zero_le _, rfl, rfl⟩⟩
theorem want_facts (s l c : BitVec 32) : validH (wantW s l c) = true ∧ headH (wantW s l c) 0 = s ∧ headH (wantW s l c) 2 = l ∧ headH (wantW s l c) 4 = c ∧ confH (wantW s l c) = true ∧ trC (wantW s l c) 3 = 0 := by
  have hv : validH (wantW s l c) = true := by unfold validH wantW wdF wdC updB wd0; simp
  refine ⟨hv, ?_, ?_, ?_, ?_, ?_⟩
  · unfold headH; rw [if_pos hv]; rfl
  · unfold headH; rw [if_pos hv]; rfl
  · unfold headH; rw [if_pos hv]; rfl
  · unfold confH; rw [hv]; unfold wantW wdF wdC updB wd0; simp
  · rfl
set_option maxHeartbeats 8000000 in
set_option maxRecDepth 100000 in
theorem law_hwrites (s l c : BitVec 32) (w : World) : Calls Try.prog 4 #[.agg #[.int .u32 (w32 s), .int .u32 (w32 l), .int .u32 (w32 c)]] w fun e w' => e = .returned (.bool true) ∧ Below w.heap.size w w' := by
  obtain ⟨i0, hi, hz0, hz1, hz2⟩ := info_parts info45
  obtain ⟨r, hr⟩ : ∃ r, r = w.heap.size := ⟨_, rfl⟩
  obtain ⟨w1, hw1⟩ : ∃ w1, w1 = w.alloc (.cells #[.int .u32 (w32 s), .int .u32 (w32 l), .int .u32 (w32 c)] 29) := ⟨_, rfl⟩
  have x1 : RowAt w1 r 29 #[.int .u32 (w32 s), .int .u32 (w32 l), .int .u32 (w32 c)] := by rw [hw1, hr]; exact RowAt.mk w _ _
  have HX := Lib.hid (show ∀ wz, Below w1.heap.size w1 wz → wz.cell? ⟨r, 0, none⟩ = some (.int .u32 (w32 s)) ∧ wz.cell? ⟨r, 1, none⟩ = some (.int .u32 (w32 l)) ∧ wz.cell? ⟨r, 2, none⟩ = some (.int .u32 (w32 c)) from
    fun wz hz => ⟨(x1.new hz).cell 0, (x1.new hz).cell 1, (x1.new hz).cell 2⟩)
  have HB := Lib.hid (show ∀ wz, Below w1.heap.size w1 wz → Below r w wz from fun wz hz => by
    have b1 : Below r w w1 := by rw [hw1, hr]; exact (Below.refl _ _).alloc (Nat.le_refl _) _
    exact b1.trans (hz.mono (by have := x1.lt; omega)))
  rw [← hr]
  clear x1
  go_enter Try.func4, Try.ntmps4
  go_wp2_with fail
  rw [← hw1, ← hr]
  clear hw1 hr
  refine (writes_any s l c w1).mono ?_
  rintro e w2 ⟨v1, rfl, g1, b2⟩
  have G1 := Lib.hid (list_give g1 (by decide) (by decide))
  have B2 := Lib.hid b2
  obtain ⟨_, _, _, _, _, _, rfl, _⟩ := g1
  clear b2
  go_wp2_with fail
  refine G1.out.mono ?_
  rintro e w3 ⟨u1, rfl, o1, b3⟩
  obtain ⟨q1, p1, rfl, _, lt1⟩ := own_some o1 (by decide)
  have O1 := Lib.hid (And.intro o1 (And.intro (B2.out.trans (b3.mono B2.out.size)) lt1))
  clear o1 b3 G1 lt1
  go_wp2_with fail
  refine (commits_any w3).mono ?_
  rintro e w4 ⟨v2, rfl, g2, b4⟩
  have G2 := Lib.hid (list_give g2 (by decide) (by decide))
  have O2 := Lib.hid (And.intro (own_below O1.out.1 b4 (Nat.le_refl _)) (And.intro (O1.out.2.1.trans (b4.mono O1.out.2.1.size)) (Nat.lt_of_lt_of_le O1.out.2.2 b4.size)))
  obtain ⟨_, _, _, _, _, _, rfl, _⟩ := g2
  clear b4
  go_wp2_with fail
  refine G2.out.mono ?_
  rintro e w5 ⟨u2, rfl, o2, b5⟩
  obtain ⟨q2, p2, rfl, _, lt2⟩ := own_some o2 (by decide)
  have O3 := Lib.hid (And.intro (own_below O2.out.1 b5 (Nat.le_refl _)) (And.intro o2 (And.intro (O2.out.2.1.trans (b5.mono O2.out.2.1.size)) (And.intro (Nat.lt_of_lt_of_le O2.out.2.2 b5.size) lt2))))
  clear o2 b5 G2 lt2
  go_wp2_with fail
  refine (confirms_any w5).mono ?_
  rintro e w6 ⟨v3, rfl, g3, b6⟩
  have G3 := Lib.hid (list_give g3 (by decide) (by decide))
  have O4 := Lib.hid (And.intro (own_below O3.out.1 b6 (Nat.le_refl _)) (And.intro (own_below O3.out.2.1 b6 (Nat.le_refl _)) (And.intro (O3.out.2.2.1.trans (b6.mono O3.out.2.2.1.size)) (And.intro (Nat.lt_of_lt_of_le O3.out.2.2.2.1 b6.size) (Nat.lt_of_lt_of_le O3.out.2.2.2.2 b6.size)))))
  obtain ⟨_, _, _, _, _, _, rfl, _⟩ := g3
  clear b6
  go_wp2_with fail
  refine G3.out.mono ?_
  rintro e w7 ⟨u3, rfl, o3, b7⟩
  obtain ⟨q3, p3, rfl, _, lt3⟩ := own_some o3 (by decide)
  have O5 := Lib.hid (And.intro (own_below O4.out.1 b7 (Nat.le_refl _)) (And.intro (own_below O4.out.2.1 b7 (Nat.le_refl _)) (And.intro o3 (And.intro (O4.out.2.2.1.trans (b7.mono O4.out.2.2.1.size)) (And.intro (Nat.lt_of_lt_of_le O4.out.2.2.2.1 b7.size) (And.intro (Nat.lt_of_lt_of_le O4.out.2.2.2.2 b7.size) lt3))))))
  clear o3 b7 G3 lt3
  have b8 : Below w7.heap.size w7 (w7.alloc (.cells #[] 45)) := (Below.refl _ _).alloc (Nat.le_refl _) _
  have HE := Lib.hid (empty_row w7)
  have B8 := Lib.hid (O5.out.2.2.2.1.trans (b8.mono O5.out.2.2.2.1.size))
  have N8 := Lib.hid (show (w7.alloc (.cells #[] 45)).ownsRow w2.heap.size 45 2 (.slice (some ⟨q1, 0, none⟩) 6 p1) 6 (rowWr 0 (hdW s l c) 6) ∧ (w7.alloc (.cells #[] 45)).ownsRow w4.heap.size 45 2 (.slice (some ⟨q2, 0, none⟩) 2 p2) 2 (rowWr 6 (fun _ => comW) 2) ∧ (w7.alloc (.cells #[] 45)).ownsRow w6.heap.size 45 2 (.slice (some ⟨q3, 0, none⟩) 2 p3) 2 (rowWr 8 (fun _ => conW) 2) ∧ q2 < w7.heap.size ∧ q3 < w7.heap.size ∧ w1.heap.size ≤ w7.heap.size from
    ⟨own_below O5.out.1 b8 (Nat.le_refl _), own_below O5.out.2.1 b8 (Nat.le_refl _), own_below O5.out.2.2.1 b8 (Nat.le_refl _), O5.out.2.2.2.2.2.1, O5.out.2.2.2.2.2.2, O5.out.2.2.2.1.size⟩)
  clear b8
  go_upto_region 3 with (first
    | (at_builtin; refine wpList_append_own_at _ rfl (.tmp 17) (.tmp 18) 38 rfl w7.heap.size 45 i0 (.agg #[.int .i64 0, .int .u32 0]) 2 16 Try.underlying38 hi hz0 hz1 hz2 rfl (by decide) _ 0 ([]) rfl HE.out ⟨q1, 0, none⟩ 6 p1 (rowWr 0 (hdW s l c) 6) rfl (rowWr_len _ _ _) (own_news N8.out.1) (rowWr_one _ _ _) (by unfold maxLen; decide) (by decide) (by rw [World.size_alloc]; exact Nat.le_succ _) ?_; intro va wa oa ga _ _; have OA := Lib.hid (show wa.ownsRow w7.heap.size 45 2 va 6 ([] ++ (rowWr 0 (hdW s l c) 6)) from oa); have NA := Lib.hid (And.intro (own_grown N8.out.2.1 ga (fun g hg => by injection hg with hg; subst hg; exact N8.out.2.2.2.1) (fun g hg => own_ge HE.out g hg)) (And.intro (own_grown N8.out.2.2.1 ga (fun g hg => by injection hg with hg; subst hg; exact N8.out.2.2.2.2.1) (fun g hg => own_ge HE.out g hg)) (And.intro (Below.grown B8.out ga (by have := N8.out.2.2.2.2.2; rw [World.size_alloc]; omega) (fun g hg => by have := own_ge HE.out g hg; have := N8.out.2.2.2.2.2; omega)) (show w7.heap.size ≤ wa.heap.size from Nat.le_trans (by rw [World.size_alloc]; exact Nat.le_succ _) ga.size)))); clear oa ga)
    | (at_builtin; refine wpList_append_own_at _ rfl (.tmp 19) (.tmp 20) 38 rfl w7.heap.size 45 i0 (.agg #[.int .i64 0, .int .u32 0]) 2 16 Try.underlying38 hi hz0 hz1 hz2 rfl (by decide) _ 6 ([] ++ (rowWr 0 (hdW s l c) 6)) rfl OA.out ⟨q2, 0, none⟩ 2 p2 (rowWr 6 (fun _ => comW) 2) rfl (rowWr_len _ _ _) (own_news NA.out.1) (rowWr_one _ _ _) (by unfold maxLen; decide) (by decide) NA.out.2.2.2 ?_; intro vb wb ob gb _ _; have OB := Lib.hid (show wb.ownsRow w7.heap.size 45 2 vb 8 ([] ++ (rowWr 0 (hdW s l c) 6) ++ (rowWr 6 (fun _ => comW) 2)) from ob); have NB := Lib.hid (And.intro (own_grown NA.out.2.1 gb (fun g hg => by injection hg with hg; subst hg; exact N8.out.2.2.2.2.1) (fun g hg => own_ge OA.out g hg)) (And.intro (Below.grown NA.out.2.2.1 gb (by have := N8.out.2.2.2.2.2; have := NA.out.2.2.2; omega) (fun g hg => by have := own_ge OA.out g hg; have := N8.out.2.2.2.2.2; omega)) (show w7.heap.size ≤ wb.heap.size from Nat.le_trans NA.out.2.2.2 gb.size))); clear ob gb)
    | (at_builtin; refine wpList_append_own_at _ rfl (.tmp 21) (.tmp 22) 38 rfl w7.heap.size 45 i0 (.agg #[.int .i64 0, .int .u32 0]) 2 16 Try.underlying38 hi hz0 hz1 hz2 rfl (by decide) _ 8 ([] ++ (rowWr 0 (hdW s l c) 6) ++ (rowWr 6 (fun _ => comW) 2)) rfl OB.out ⟨q3, 0, none⟩ 2 p3 (rowWr 8 (fun _ => conW) 2) rfl (rowWr_len _ _ _) (own_news NB.out.1) (rowWr_one _ _ _) (by unfold maxLen; decide) (by decide) NB.out.2.2 ?_; intro vc wc oc gc _ _; have OC := Lib.hid (show wc.ownsRow w7.heap.size 45 2 vc 10 ([] ++ (rowWr 0 (hdW s l c) 6) ++ (rowWr 6 (fun _ => comW) 2) ++ (rowWr 8 (fun _ => conW) 2)) from oc); have NC := Lib.hid (Below.grown NB.out.2.1 gc (by have := N8.out.2.2.2.2.2; have := NB.out.2.2; omega) (fun g hg => by have := own_ge OB.out g hg; have := N8.out.2.2.2.2.2; omega)); clear oc gc)
    | fail)
  have hrow := OC.out
  rw [List.nil_append, row_ten] at hrow
  obtain ⟨ga, pa, rfl, -, -⟩ := own_some hrow (by decide)
  have HR := Lib.hid hrow
  clear hrow
  obtain ⟨c0, c1, c2⟩ := HX.out _ NC.out
  go_wp2_with fail
  refine (words_any s l c true true wc).mono ?_
  rintro e w9 ⟨gw, pw, rfl, ow, b9⟩
  have W9 := Lib.hid (show w9.ownsRow w7.heap.size 45 2 (.slice (some ⟨ga, 0, none⟩) 10 pa) 10 (rowA (wantW s l c) 10) ∧ w9.ownsRow wc.heap.size 25 1 (.slice (some ⟨gw, 0, none⟩) 13 pw) 13 (rowH (wantW s l c) 13) ∧ Below w1.heap.size w1 w9 from
    ⟨own_below HR.out b9 (Nat.le_refl _), ow, NC.out.trans (b9.mono NC.out.size)⟩)
  obtain ⟨Hw, hHw⟩ : ∃ Hw, wantW s l c = Hw := ⟨_, rfl⟩
  have HWF := Lib.hid (want_facts s l c)
  rw [hHw] at W9 HWF
  clear ow b9 c0 c1 c2 hHw
  go_wp2
  go_loopg [8] 10 (fun g i wr => ∃ k : Nat, k + g = 10 ∧ i = .int .i64 (k : Nat) ∧ Aside (∃ m, wr = w9.drewN m))
  case atStart => exact ⟨0, by omega, rfl, 0, rfl⟩
  case round =>
    obtain ⟨k, hkg, rfl, HM⟩ := hrel
    obtain ⟨m, rfl⟩ := HM.out
    clear HM
    cases gk with
    | succ g1 =>
      have hk : k < 10 := by omega
      have hki : (k : Int) < 10 := by omega
      have hki2 : (k : Int) < 13 := by omega
      have d0 : w9.cell? ⟨ga, k * 2, none⟩ = some (.int .i64 (k : Int)) := by
        have := own_news W9.out.1 _ _ (rowA_at Hw 10 k hk).1
        rwa [Addr.add_lit, Nat.zero_add] at this
      have d1 : w9.cell? ⟨ga, k * 2 + 1, none⟩ = some (.int .u32 (w32 (Hw k))) := by
        have := own_news W9.out.1 _ _ (rowA_at Hw 10 k hk).2
        rwa [Addr.add_lit, Nat.zero_add] at this
      have d2 : w9.cell? ⟨gw, k, none⟩ = some (.int .u32 (w32 (Hw k))) := by
        refine (W9.out.2.1.cellAt k (by omega)).trans ?_
        unfold rowH; simp [show k < 13 by omega]
      go_wp2
      go_quiet (fail)
      go_wp2
      go_roundg g1
      case measure => omega
      case rel => exact ⟨k + 1, by omega, by go_num, _, rfl⟩
    | zero =>
      obtain rfl : k = 10 := by omega
      have o13 : (w9.drewN m).ownsRow wc.heap.size 25 1 (.slice (some ⟨gw, 0, none⟩) 13 pw) 13 (rowH Hw 13) := W9.out.2.1
      have HRW := Lib.hid (read_words Hw o13 s l c true true 0 HWF.out.1 HWF.out.2.1 HWF.out.2.2.1 HWF.out.2.2.2.1 HWF.out.2.2.2.2.1 HWF.out.2.2.2.2.2 rfl)
      have B9 := Lib.hid (below_dn W9.out.2.2 m)
      clear o13 hkg
      go_wp2_with fail
      refine HRW.out.mono ?_
      rintro e w10 ⟨rfl, b10⟩
      obtain ⟨z, hz⟩ : ∃ z, z = w10.heap.size := ⟨_, rfl⟩
      obtain ⟨w11, hw11⟩ : ∃ w11, w11 = w10.alloc (.cells #[.int .u32 (w32 s), .int .u32 (w32 l), .int .u32 (w32 c), .bool true, .bool true, .int .i64 0] 31) := ⟨_, rfl⟩
      have x11 : RowAt w11 z 31 #[.int .u32 (w32 s), .int .u32 (w32 l), .int .u32 (w32 c), .bool true, .bool true, .int .i64 0] := by rw [hw11, hz]; exact RowAt.mk w10 _ _
      have b11 : Below w1.heap.size w1 w11 := by rw [hw11]; exact (B9.out.trans (b10.mono B9.out.size)).alloc (Nat.le_trans B9.out.size b10.size) _
      obtain ⟨c0, c1, c2⟩ := HX.out _ b11
      have e0 : w11.cell? ⟨z, 0, none⟩ = some (.int .u32 (w32 s)) := x11.cell 0
      have e1 : w11.cell? ⟨z, 1, none⟩ = some (.int .u32 (w32 l)) := x11.cell 1
      have e2 : w11.cell? ⟨z, 2, none⟩ = some (.int .u32 (w32 c)) := x11.cell 2
      have e3 : w11.cell? ⟨z, 3, none⟩ = some (.bool true) := x11.cell 3
      have e4 : w11.cell? ⟨z, 4, none⟩ = some (.bool true) := x11.cell 4
      have B11 := Lib.hid b11
      clear b10 x11 b11
      go_upto_region 12 with fail
      rw [← hw11, ← hz]
      clear hw11 hz
      go_wp2_with (go_at_call 13; refine (halive_any _).mono ?_; rintro e w12 ⟨rfl, b12⟩; have B12 := Lib.hid (B11.out.trans (b12.mono B11.out.size)); clear b12)
      go_ret
      exact ⟨rfl, HB.out _ B12.out⟩
end Go.Proofs.Ytdfknobohgncaaa
