/- The contract of the reference's open. -/
import Derived.Test.YtkbmgilceioieaaSA
namespace Go.Proofs.Ytkbmgilceioieaa
open Go.RowKit
attribute [local go_sem] Oper.semAt_some

/-- Between two groups. -/
def ROI (w : World) (B most : Nat) (l : List Nat) (a : Nat) (v : Value) (wr : World) : Prop :=
  ∃ us, openS most l = (openS (most - us.length) (l.drop a)).map (us ++ ·) ∧ us.length ≤ most ∧ wr.ownsRow B 27 1 v us.length (rowW us) ∧ Below B w wr
theorem map_app (us vs : List Nat) (o : Option (List Nat)) : (o.map (vs ++ ·)).map (us ++ ·) = o.map (us ++ vs ++ ·) := by
  cases o <;> simp

set_option maxHeartbeats 2000000 in
set_option maxRecDepth 100000 in
theorem ropen_any (most : Nat) (l : List Nat) (sp : Option Addr) (b off cap : Nat) (w : World) (hl : SL w sp b off l) (hcap : l.length ≤ cap) (hlen : l.length ≤ 30000) (hb : ∀ x ∈ l, x < 4294967296) (hm : most ≤ 20000) :
    Calls Try.prog 63 #[.int .i64 most, .slice sp l.length cap] w fun e w' => ∃ v, e = .returned (.tuple #[v, .bool (openS most l).isSome]) ∧ w'.ownsRow w.heap.size 27 1 v ((openS most l).getD []).length (rowW ((openS most l).getD [])) ∧ Below w.heap.size w w' := by
  obtain ⟨i0, hi, hz0, hz1, hz2⟩ := info_parts info27
  have HL := Lib.hid (And.intro hl (And.intro (fun h0 : 0 < l.length => hl.lt h0) hb))
  obtain ⟨B, hB⟩ : ∃ B, w.heap.size = B := ⟨_, rfl⟩
  rw [hB]
  have HBe := Lib.hid hB
  clear hl hB hb
  go_enter Try.func63, Try.ntmps63
  go_wp2
  go_loopg [6, 7] l.length (fun g v av wr => ∃ a : Nat, a + g = l.length ∧ av = .int .i64 a ∧ Aside (ROI w B most l a v wr))
  case atStart => exact ⟨0, by omega, rfl, [], by simp, by simp, World.ownsRow_nil _ _ _ _, Below.refl _ _⟩
  case round =>
    obtain ⟨a, hag, rfl, HR⟩ := hrel
    obtain ⟨us, hus, hul, hown, hbel⟩ := HR.out
    obtain ⟨sp1, cap1, rfl⟩ := own_val hown
    by_cases hlt : a < l.length
    · have d1 : (a : Int) < (l.length : Int) := by omega
      have d0 : (0 : Int) ≤ (a : Int) := by omega
      have d9 : (a : Int) ≤ 30000 := by omega
      have hsl := HL.out.1.below hbel (fun h0 => by rw [← HBe.out]; exact HL.out.2.1 h0)
      obtain rfl := HL.out.1.1 (by omega)
      have hx2 := nthW_lt HL.out.2.2 hlt
      have c0 := hsl.2 a hlt
      rw [drop_head hlt] at hus
      obtain ⟨x, hx⟩ : ∃ x, nthW l a = x := ⟨_, rfl⟩
      rw [hx] at c0 hx2 hus
      obtain ⟨nn, hnn⟩ : ∃ nn, x % 2147483648 = nn := ⟨_, rfl⟩
      have hr1 : (x : Int).tmod 2147483648 = (nn : Int) := by rw [Int.tmod_eq_emod_of_nonneg (by omega)]; omega
      have hr2 : (x : Int) % 2147483648 = (nn : Int) := by omega
      have hr3 : IntKind.i64.wrap (nn : Int) = (nn : Int) := by rw [IntKind.wrap_i64]; omega
      have hr4 : IntKind.u32.wrap (nn : Int) = (nn : Int) := by rw [IntKind.wrap_u32]; omega
      obtain ⟨rm, hrm⟩ : ∃ rm, most - us.length = rm := ⟨_, rfl⟩
      have hr5 : (most : Int) - (us.length : Int) = (rm : Int) := by omega
      have hr6 : (rm : Int) ≤ 20000 := by omega
      have hr7 : (0 : Int) ≤ (rm : Int) := by omega
      rw [hrm] at hus
      have HS := Lib.hid hsl
      have HK := Lib.hid (And.intro hown (And.intro hbel hul))
      have HX := Lib.hid (And.intro hx (And.intro hnn hrm))
      clear hown hbel hsl HR hx hrm hul
      by_cases h1 : rm < nn
      · have hnone : openS most l = none := by rw [hus, openS_big (by rw [hnn]; exact h1)]; rfl
        have HO := Lib.hid hnone
        clear hus hnone hnn hx2
        go_wp2
        rw [HO.out]
        exact ⟨rfl, .tuple #[.slice none 0 0, .bool false], by simp [results, Try.results63, go_sem], _, rfl, World.ownsRow_nil _ _ _ _, HK.out.2.1⟩
      · by_cases h2 : 2147483648 ≤ x
        · have d2 : (2147483648 : Int) ≤ (x : Int) := by omega
          by_cases h3 : a + 1 < l.length
          · have c1 := HS.out.2 (a + 1) h3
            rw [drop_head h3] at hus
            obtain ⟨y, hy⟩ : ∃ y, nthW l (a + 1) = y := ⟨_, rfl⟩
            rw [hy] at hus c1
            rw [openS_rep (by rw [hnn]; exact h1) h2, map_app, hnn] at hus
            have HUS := Lib.hid hus
            have HY := Lib.hid hy
            have d3 : (a : Int) + 1 < (l.length : Int) := by omega
            clear hus hnn hx2 h2 hy c1
            go_wp2
            go_loopg [6, 9] nn (fun g v iv wr2 => ∃ i : Nat, i + g = nn ∧ iv = .int .i64 i ∧ Aside (wr2.ownsRow B 27 1 v (us ++ List.replicate i y).length (rowW (us ++ List.replicate i y)) ∧ Below B w wr2))
            case atStart => exact ⟨0, by omega, rfl, by rw [List.replicate_zero, List.append_nil]; exact HK.out.1, HK.out.2.1⟩
            case round =>
              obtain ⟨i, hig, rfl, HR2⟩ := hrel
              have j9 : (i : Int) ≤ 20000 := by omega
              have j8 : (0 : Int) ≤ (i : Int) := by omega
              cases gk with
              | zero =>
                obtain rfl : i = nn := by omega
                have HG := Lib.hid HR2.out
                clear hig HR2
                go_wp2
                go_roundg (l.length - (a + 2))
                case measure => omega
                case rel => exact ⟨a + 2, by omega, by go_num, us ++ List.replicate i y, by rw [HUS.out, List.length_append, List.length_replicate, show most - (us.length + i) = rm - i by have := HX.out.2.2; omega], by rw [List.length_append, List.length_replicate]; have := HK.out.2.2; have := HX.out.2.2; omega, HG.out.1, HG.out.2⟩
              | succ g1 =>
                have j7 : i < nn := by omega
                obtain ⟨hw1, hw2⟩ := HR2.out
                obtain ⟨Y, hY⟩ : ∃ Y, us ++ List.replicate i y = Y := ⟨_, rfl⟩
                have hYl : Y.length ≤ 40000 := by rw [← hY, List.length_append, List.length_replicate]; have := HK.out.2.2; omega
                have hYs : us ++ List.replicate (i + 1) y = Y ++ [y] := by rw [List.replicate_succ', ← List.append_assoc, hY]
                rw [hY] at hw1
                obtain ⟨sp2, cap2, rfl⟩ := own_val hw1
                have c1 := (HL.out.1.below hw2 (fun h0 => by rw [← HBe.out]; exact HL.out.2.1 h0)).2 (a + 1) h3
                rw [HY.out] at c1
                have HW := Lib.hid (And.intro hw1 (And.intro hw2 hYs))
                have HBB := Lib.hid (show Y.length + 1 ≤ maxLen ∧ (Y.length + 1) * 4 ≤ 140737488355328 ∧ B ≤ (wr.alloc (.cells #[.int .u32 (y : Int)] 27)).heap.size by have h2 := hw2.size; rw [HBe.out] at h2; rw [World.size_alloc]; unfold maxLen; omega)
                clear hw1 hw2 hYs hY hYl HR2
                go_wp2_with (first
                  | (at_builtin; refine wpList_append_own _ rfl (.tmp 41) (.tmp 47) 25 rfl B 27 i0 (.int .u32 0) 1 4 Try.underlying25 hi hz0 hz1 hz2 rfl (by decide) _ Y.length (rowW Y) rfl (HW.out.1.alloc _) ⟨wr.heap.size, 0, none⟩ 1 1 [Value.int .u32 (y : Int)] rfl rfl (cell_one_new _ _ _) (by simp [Value.oneCell']) HBB.out.1 HBB.out.2.1 HBB.out.2.2 ?_; intro v1 w1 hown1 hg1 _; obtain ⟨sp3, cap3, rfl⟩ := own_val hown1; have HG := Lib.hid (And.intro hown1 (Below.grown (HW.out.2.1.alloc (by have := HW.out.2.1.size; rw [HBe.out] at this; exact this) _) hg1 HBB.out.2.2 (fun j e => (HW.out.1.lt j e).1))); clear hown1 hg1)
                  | fail)
                go_roundg g1
                case measure => omega
                case rel => exact ⟨i + 1, by omega, by go_num, by rw [HW.out.2.2, List.length_append, rowW_app]; exact HG.out.1, HG.out.2⟩
          · have hnone : openS most l = none := by
              rw [hus, List.drop_of_length_le (by omega), openS_rep0 h2]; rfl
            have HO := Lib.hid hnone
            have d3 : (l.length : Int) ≤ (a : Int) + 1 := by omega
            clear hus hnone hnn hx2 h2
            go_wp2
            rw [HO.out]
            exact ⟨rfl, .tuple #[.slice none 0 0, .bool false], by simp [results, Try.results63, go_sem], _, rfl, World.ownsRow_nil _ _ _ _, HK.out.2.1⟩
        · have d2 : decide ((2147483648 : Int) ≤ (x : Int)) = false := by rw [decide_eq_false_iff_not]; omega
          obtain ⟨q1, hq1⟩ : ∃ q1, l.length - a = q1 := ⟨_, rfl⟩
          obtain ⟨q2, hq2⟩ : ∃ q2, q1 - 1 = q2 := ⟨_, rfl⟩
          have hq3 : (l.length : Int) - (a : Int) = (q1 : Int) := by omega
          have hq4 : (q1 : Int) - 1 = (q2 : Int) := by omega
          have hq5 : (q1 : Int) ≤ 30000 := by omega
          have hq6 : (0 : Int) ≤ (q2 : Int) := by omega
          have hdl : (l.drop (a + 1)).length = q2 := by rw [List.length_drop]; omega
          by_cases h3 : q2 < nn
          · have hnone : openS most l = none := by
              rw [hus, openS_short h2 (by rw [hdl, hnn]; exact h3)]; rfl
            have HO := Lib.hid hnone
            clear hus hnone hnn hx2 h2 hq1 hq2 hdl
            go_wp2
            rw [HO.out]
            exact ⟨rfl, .tuple #[.slice none 0 0, .bool false], by simp [results, Try.results63, go_sem], _, rfl, World.ownsRow_nil _ _ _ _, HK.out.2.1⟩
          · rw [openS_oth (by rw [hnn]; exact h1) h2 (by rw [hdl, hnn]; exact h3), map_app, hnn, List.drop_drop] at hus
            obtain ⟨seg, hseg⟩ : ∃ seg, (l.drop (a + 1)).take nn = seg := ⟨_, rfl⟩
            have hsgl : seg.length = nn := by rw [← hseg, List.length_take]; omega
            obtain ⟨e1, he1⟩ : ∃ e1, a + 1 = e1 := ⟨_, rfl⟩
            obtain ⟨e2, he2⟩ : ∃ e2, e1 + nn = e2 := ⟨_, rfl⟩
            obtain ⟨q3, hq7⟩ : ∃ q3, 1 + nn = q3 := ⟨_, rfl⟩
            rw [hseg, he1, he2] at hus
            rw [he1] at hseg
            have HSE := Lib.hid hsgl
            have HSL := Lib.hid (show (rowW seg).length = nn * 1 by rw [rowW_len, hsgl]; omega)
            have HUS := Lib.hid (show openS most l = (openS (most - (us ++ seg).length) (l.drop e2)).map (us ++ seg ++ ·) by
              rw [hus, List.length_append, hsgl, show most - (us.length + nn) = rm - nn by have := HX.out.2.2; omega])
            have HEE := Lib.hid (And.intro he1 he2)
            have k1 : (a : Int) + 1 = (e1 : Int) := by omega
            have k2 : (e1 : Int) + (nn : Int) = (e2 : Int) := by omega
            have k3 : (e2 : Int) ≤ (cap : Int) := by omega
            have k4 : (e1 : Int) ≤ (e2 : Int) := by omega
            have k5 : (0 : Int) ≤ (e1 : Int) := by omega
            have k6 : e2 - e1 = nn := by omega
            have k7 : (1 : Int) + (nn : Int) = (q3 : Int) := by omega
            have k8 : (a : Int) + (q3 : Int) = (e2 : Int) := by omega
            have k9 : IntKind.i64.wrap (e1 : Int) = (e1 : Int) := by rw [IntKind.wrap_i64]; omega
            have k10 : IntKind.i64.wrap (e2 : Int) = (e2 : Int) := by rw [IntKind.wrap_i64]; omega
            have k11 : IntKind.i64.wrap (q3 : Int) = (q3 : Int) := by rw [IntKind.wrap_i64]; omega
            have HBB := Lib.hid (show us.length + nn ≤ maxLen ∧ (us.length + nn) * 4 ≤ 140737488355328 ∧ B ≤ wr.heap.size by have h2 := HK.out.2.1.size; rw [HBe.out] at h2; have := HK.out.2.2; unfold maxLen; omega)
            by_cases hcp : cap = e1
            · have hs0 : seg = [] := List.eq_nil_of_length_eq_zero (by omega)
              have HCC := Lib.hid (fun (W' : World) (_ : Below B w W') => show ∀ j u, (rowW seg)[j]? = some u → W'.cell? ((⟨b, off, none⟩ : Addr).add j) = some u by rw [hs0]; intro j u hu; cases hu)
              clear hus hnn hx2 h2 hq1 hq2 hdl hseg hsgl he1 he2 hq7 hs0
              go_wp2_with (first
                | (at_builtin; refine wpList_append_own _ rfl (.tmp 58) (.tmp 66) 25 rfl B 27 i0 (.int .u32 0) 1 4 Try.underlying25 hi hz0 hz1 hz2 rfl (by decide) _ us.length (rowW us) rfl HK.out.1 ⟨b, off, none⟩ nn _ (rowW seg) rfl HSL.out (HCC.out _ HK.out.2.1) (rowW_one _) HBB.out.1 HBB.out.2.1 HBB.out.2.2 ?_; intro v1 w1 hown1 hg1 _; obtain ⟨sp2, cap2, rfl⟩ := own_val hown1; have HG := Lib.hid (And.intro hown1 (Below.grown HK.out.2.1 hg1 HBB.out.2.2 (fun j e => (HK.out.1.lt j e).1))); clear hown1 hg1)
                | fail)
              rw [← hcp]
              go_roundg (l.length - e2)
              case measure => have := HEE.out; omega
              case rel => exact ⟨e2, by omega, rfl, us ++ seg, HUS.out, by rw [List.length_append, HSE.out]; omega, by rw [List.length_append, HSE.out, rowW_app]; exact HG.out.1, HG.out.2⟩
            · have HCC := Lib.hid (fun (W' : World) (h : Below B w W') => show ∀ j u, (rowW seg)[j]? = some u → W'.cell? ((⟨b, off + e1, none⟩ : Addr).add j) = some u by
                have h1 := (((HL.out.1.below h (fun h0 => by rw [← HBe.out]; exact HL.out.2.1 h0)).drop e1).take nn)
                rw [hseg] at h1
                exact h1.cells)
              clear hus hnn hx2 h2 hq1 hq2 hdl hseg hsgl he1 he2 hq7
              go_wp2_with (first
                | (at_builtin; refine wpList_append_own _ rfl (.tmp 58) (.tmp 66) 25 rfl B 27 i0 (.int .u32 0) 1 4 Try.underlying25 hi hz0 hz1 hz2 rfl (by decide) _ us.length (rowW us) rfl HK.out.1 ⟨b, off + e1, none⟩ nn _ (rowW seg) rfl HSL.out (HCC.out _ HK.out.2.1) (rowW_one _) HBB.out.1 HBB.out.2.1 HBB.out.2.2 ?_; intro v1 w1 hown1 hg1 _; obtain ⟨sp2, cap2, rfl⟩ := own_val hown1; have HG := Lib.hid (And.intro hown1 (Below.grown HK.out.2.1 hg1 HBB.out.2.2 (fun j e => (HK.out.1.lt j e).1))); clear hown1 hg1)
                | fail)
              go_roundg (l.length - e2)
              case measure => have := HEE.out; omega
              case rel => exact ⟨e2, by omega, rfl, us ++ seg, HUS.out, by rw [List.length_append, HSE.out]; omega, by rw [List.length_append, HSE.out, rowW_app]; exact HG.out.1, HG.out.2⟩
    · have d1 : ¬ (a : Int) < (l.length : Int) := by omega
      obtain rfl : a = l.length := by omega
      rw [List.drop_length, openS_nil] at hus
      have hsome : openS most l = some us := by rw [hus]; simp
      have HK := Lib.hid (And.intro hsome (And.intro hown hbel))
      clear hus hown hbel HR hsome
      go_wp2
      rw [HK.out.1]
      exact ⟨rfl, .tuple #[.slice sp1 us.length cap1, .bool true], by simp [results, Try.results63, go_sem], _, rfl, HK.out.2.1, HK.out.2.2⟩
end Go.Proofs.Ytkbmgilceioieaa
