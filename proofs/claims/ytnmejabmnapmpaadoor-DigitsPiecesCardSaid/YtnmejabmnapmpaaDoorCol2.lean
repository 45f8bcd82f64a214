/- The contracts of the law's lines and first: what digits.Lines goes through, collected, and the first of what digits.Pieces goes through. -/
import Derived.Test.YtnmejabmnapmpaaDoorLin
namespace Go.Proofs.YtnmejabmnapmpaaDoor
open Go.RowKit
attribute [local go_sem] Oper.semAt_some

set_option maxHeartbeats 1000000 in
theorem lines_law (s : ByteArray) (hs : s.size ≤ 5000) (w : World) : Calls Tryd.prog 19 #[.string s] w fun e w' =>
    ∃ v, e = .returned v ∧ w'.ownsRow w.heap.size 9 1 v (lin s.data.toList).length (strs (lin s.data.toList)) ∧ Below w.heap.size w w' := by
  refine (callsIn_wide (n := 0)).1 ?_
  obtain ⟨i0, hi, hz0, hz1, hz2⟩ := info_parts info9
  have hnn := neq_func_nil
  obtain ⟨L, hL⟩ : ∃ L, L = lin s.data.toList := ⟨_, rfl⟩
  have hcount : L.length ≤ 5001 := by
    have h1 : (lin s.data.toList).length ≤ s.data.toList.length := by rw [lin_len]; exact lns_count _
    have h8 : s.data.toList.length = s.size := by simp
    rw [← hL] at h1; omega
  have HL := Lib.hid hL
  rw [← hL]
  clear hL
  refine callsIn_of_wp_marks Tryd.func19 rfl trivial ?_ rfl
  simp only [Tryd.ntmps19, List.size_toArray, List.length_cons, List.length_nil, Nat.reduceAdd, Nat.reduceSub, Array.replicate_succ, Array.replicate_zero, List.push_toArray, List.append_toArray, List.nil_append, List.cons_append]
  gi_wp2_with (refine ⟨trivial, rfl, ?_⟩; gi_at_call 24; refine (callsIn_wide.2 (Lines_any _ _)).mono ?_; rintro e w' ⟨rfl, rfl⟩)
  obtain ⟨B, hB⟩ : ∃ B, B = w.heap.size := ⟨_, rfl⟩
  obtain ⟨w2, hw2⟩ : ∃ w2, ((w.alloc (Obj.cells #[Value.slice none 0 0] 37)).alloc (Obj.cells #[Value.slice none 0 0] 37)).alloc (Obj.cells #[Value.string s] 9) = w2 := ⟨_, rfl⟩
  have z2 : w2.heap.size = B + 3 := by rw [← hw2, hB]; simp
  have b2 : Below B w w2 := by rw [← hw2, hB]; exact (((Below.refl _ w).alloc (Nat.le_refl _) _).alloc (by simp) _).alloc (by simp; omega) _
  have r2 : w2.cell? ⟨B, 0, none⟩ = some (.slice none 0 0) ∧ w2.frozen? ⟨B, 0, none⟩ = false := by rw [← hw2, hB]; simp [go_sem]
  have o2 : w2.cell? ⟨B + 1, 0, none⟩ = some (.slice none 0 0) ∧ w2.frozen? ⟨B + 1, 0, none⟩ = false := by rw [← hw2, hB]; simp [go_sem]
  have s2 : w2.cell? ⟨B + 2, 0, none⟩ = some (.string s) := by rw [← hw2, hB]; simp [go_sem]
  rw [hw2, ← hB]
  clear hw2
  have HB := Lib.hid hB
  clear hB
  refine wpIn_range (gf := 30) (lb := #[.pointer (some ⟨B + 2, 0, none⟩)]) rfl (enters_of Tryd.func30 (by kernel_rfl) rfl)
    L.length (fun k => #[.int .i64 ((k : Int) + 1), .string (bs (at_ L k))]) (fun _ => rfl) (fun j => j = B + 1 ∨ B + 10 ≤ j) (fun j => B + 5 ≤ j ∧ j < B + 10) (B + 10)
    (by rw [z2]; intro k hk; omega) (by rw [z2]; intro k hk; omega)
    (fun k A => ∃ v, A.cell? ⟨B + 1, 0, none⟩ = some v ∧ A.frozen? ⟨B + 1, 0, none⟩ = false ∧ A.cell? ⟨B, 0, none⟩ = some (.slice none 0 0) ∧ A.frozen? ⟨B, 0, none⟩ = false ∧ A.ownsRow (B + 10) 9 1 v k (strs (L.take k)) ∧ Below B w A)
    (fun _ _ _ => False)
    ?hI (fun _ _ _ _ h _ => h) ⟨_, o2.1, o2.2, r2.1, r2.2, World.ownsRow_nil _ _ _ _, b2⟩
    (fun k a' _ => a' = { tmps := #[.string s, undef, .pointer (some ⟨B, 0, none⟩), .pointer (some ⟨B + 1, 0, none⟩), .func (.func 30) #[] #[.pointer (some ⟨B + 2, 0, none⟩)], .int .i64 ((k : Int) + 1), .string (bs (at_ L k)),
      .string s, .func (.func 30) #[] #[.pointer (some ⟨B + 2, 0, none⟩)], .func (.func 30) #[] #[.pointer (some ⟨B + 2, 0, none⟩)], .bool true, .func (.func 30) #[] #[.pointer (some ⟨B + 2, 0, none⟩)],
      .int .i64 ((k : Int) + 1), .string (bs (at_ L k)), undef, undef, undef, undef, undef, undef, undef, undef, undef, undef], defers := [] })
    (fun _ _ _ _ h _ => h) ?hit ?assign ?body ?done (fun _ _ _ _ h _ => h.elim)
  case hI =>
    rintro k A A' ⟨v, h1, h2, h3, h4, h5, h6⟩ hc
    rw [z2] at hc
    exact ⟨v, hc.cell h1 (by simp only; omega), (hc.frozenCell h1 (by simp only; omega)).trans h2, hc.cell h3 (by simp only; omega), (hc.frozenCell h3 (by simp only; omega)).trans h4, own_ch h5 hc (by intro j hj; omega),
      h6.trans (hc.below (by intro j hj; omega) (by have := h6.size; have := HB.out; omega))⟩
  case hit =>
    intro J' Jx' W1 h1 h2 h3 h4 h5 h6 h7 h8
    rw [z2] at h1 h2 h7 ⊢
    have e1 : W1.cell? ⟨B + 2, 0, none⟩ = some (.string s) := (h2.cell (p := ⟨B + 2, 0, none⟩) (by simp only; omega)).trans s2
    have hL := HL.out
    have hz5 : W1.heap.size = B + 5 := by omega
    subst hL
    refine lines_in _ (B + 2) s (by omega) _ J' Jx' W1 (fun k A C h c => h5 k A C h (c.mono (by intro j _ hj; rw [hz5] at hj; omega))) (fun k A C h c => h6 k A C h (c.mono (by intro j _ hj; rw [hz5] at hj; omega))) e1 ?_ (by rw [hz5]; exact h7) h8
    intro j hj hj2
    omega
  case assign =>
    intro k A K hi hk hK
    gi_wp2
    exact hK _ _ rfl (Ch.refl _ _) hi
  case body =>
    rintro k a' A ⟨v, h1, h2, h3, h4, h5, h6⟩ hk rfl hz hlo
    obtain ⟨sp, cap, rfl⟩ := own_val h5
    have hlen : (strs (L.take k)).length = k := by rw [strs_len, List.length_take]; omega
    have hBlk := own_blk h5
    have hS := strs_snoc L k hk
    have HS := Lib.hid hS
    have HK := Lib.hid hBlk
    have H5 := Lib.hid h5
    have H6 := Lib.hid h6
    clear hS hBlk h5 h6 hlen
    have hk5 : (k : Int) ≤ 5001 := by omega
    gi_wp2_with (gi_at_builtin; refine wpListIn_append_own _ rfl _ _ 37 rfl (B + 10) 9 i0 (.string ByteArray.empty) 1 16 Tryd.underlying37 hi hz0 hz1 hz2 rfl (by decide) _ _ _ rfl (H5.out.alloc _) ⟨A.heap.size, 0, none⟩ 1 1 [.string (bs (at_ L k))] rfl rfl (cell_one_new _ _ _) (by simp [Value.oneCell']) (by unfold maxLen; omega) (by omega) (by simp; omega) ?_; intro v' w1 hown' hgrow _; obtain ⟨g', cap', rfl⟩ := ownsRow_succ hown'; have hc1 := (((Ch.refl (fun _ => False) A).alloc (.cells #[.string (bs (at_ L k))] 9)).mono (T' := fun j => B + 10 ≤ j) (fun _ _ h => h.elim)).trans ((ch_grown hgrow).mono (fun j _ hj => HK.out j hj)); have g1 := hc1.cell h1 (by simp only; omega); have g2 := (hc1.frozenCell h1 (by simp only; omega)).trans h2; have g3 := hc1.cell h3 (by simp only; omega); have g4 := (hc1.frozenCell h3 (by simp only; omega)).trans h4; have HO := Lib.hid hown'; have HC1 := Lib.hid hc1; clear hown' hgrow hc1 h1 h2 h3 h4)
    refine ⟨?_, .slice (some ⟨g', 0, none⟩) (k + 1) cap', by simp [go_sem, g1], by simp [go_sem, g2], by simp [go_sem, g3], by simp [go_sem, g4], ?_, ?_⟩
    · exact ((HC1.out.mono (fun j _ hj => .inr hj)).setCell _ _ (.inl (.inl rfl)))
    · rw [HS.out]
      exact own_ch HO.out ((Ch.refl (fun j => j = B + 1) _).setCell _ _ (.inl rfl)) (by intro j hj; omega)
    · exact (H6.out.trans (HC1.out.below (by intro j hj; omega) (by have := H6.out.size; have := HB.out; omega))).setCell (by simp) _
  case done =>
    rintro A ⟨v, h1, h2, h3, h4, h5, h6⟩ hD
    rw [List.take_length] at h5
    rw [z2] at hD
    obtain ⟨sp, cap, rfl⟩ := own_val h5
    have H5 := Lib.hid h5
    have H6 := Lib.hid h6
    clear h5 h6
    gi_wp2
    rw [z2]
    have hc : Ch (fun j => j = B) A (A.setCell ⟨B, 0, none⟩ (.slice sp L.length cap)) := (Ch.refl _ A).setCell _ _ (.inl rfl)
    have hD' := hc.obj hD (by omega)
    have hr : (A.setCell ⟨B, 0, none⟩ (.slice sp L.length cap)).cell? ⟨B, 0, none⟩ = some (.slice sp L.length cap) := by simp [go_sem, h3]
    have hp : Ch (fun j => j = B + 3) (A.setCell ⟨B, 0, none⟩ (.slice sp L.length cap)) ((A.setCell ⟨B, 0, none⟩ (.slice sp L.length cap)).putObj (B + 3) (.deferred none)) := (Ch.refl _ _).putObj _ _ rfl
    have hr2 := hp.cell hr (by simp only; omega)
    refine ⟨by simp, .inl ⟨_, _, rfl, run_takeDeferred hD', ?_⟩⟩
    refine ⟨.slice sp L.length cap, ?_, _, rfl, ?_, ?_⟩
    · simp [results, Tryd.results19, go_sem, hr2]
    · have h9 := own_ch (own_ch H5.out hc (by intro j hj; omega)) hp (by intro j hj; omega)
      rw [← HB.out]
      exact ⟨h9.1, by
        rcases h9.2 with h | ⟨g, c, cur, q1, q2, q3⟩
        · exact .inl h
        · exact .inr ⟨g, c, cur, q1, by omega, q3⟩⟩
    · rw [← HB.out]
      have hs := H6.out.size
      have hb := HB.out
      exact (H6.out.setCell (p := ⟨B, 0, none⟩) (Nat.le_refl _) _).trans (hp.below (by intro j hj; omega) (by simp [World.setCell]; omega))


set_option maxHeartbeats 1000000 in
theorem first_law (s : ByteArray) (hs : s.size ≤ 5000) (w : World) : Calls Tryd.prog 18 #[.string s] w fun e w' =>
    e = .returned (.string (bs (at_ (pcs (segs 32 s.data.toList)) 0))) ∧ Below w.heap.size w w' := by
  refine (callsIn_wide (n := 0)).1 ?_
  have hnn := neq_func_nil
  obtain ⟨L, hL⟩ : ∃ L, L = pcs (segs 32 s.data.toList) := ⟨_, rfl⟩
  have HL := Lib.hid hL
  rw [← hL]
  clear hL
  refine callsIn_of_wp_marks Tryd.func18 rfl trivial ?_ rfl
  simp only [Tryd.ntmps18, List.size_toArray, List.length_cons, List.length_nil, Nat.reduceAdd, Nat.reduceSub, Array.replicate_succ, Array.replicate_zero, List.push_toArray, List.append_toArray, List.nil_append, List.cons_append]
  gi_wp2_with (refine ⟨trivial, rfl, ?_⟩; gi_at_call 23; refine (callsIn_wide.2 (Pieces_any _ _)).mono ?_; rintro e w' ⟨rfl, rfl⟩)
  obtain ⟨B, hB⟩ : ∃ B, B = w.heap.size := ⟨_, rfl⟩
  obtain ⟨w2, hw2⟩ : ∃ w2, (w.alloc (Obj.cells #[Value.string ⟨#[]⟩] 9)).alloc (Obj.cells #[Value.string s] 9) = w2 := ⟨_, rfl⟩
  have z2 : w2.heap.size = B + 2 := by rw [← hw2, hB]; simp
  have b2 : Below B w w2 := by rw [← hw2, hB]; exact ((Below.refl _ w).alloc (Nat.le_refl _) _).alloc (by simp) _
  have r2 : w2.cell? ⟨B, 0, none⟩ = some (.string ⟨#[]⟩) ∧ w2.frozen? ⟨B, 0, none⟩ = false := by rw [← hw2, hB]; simp [go_sem]
  have s2 : w2.cell? ⟨B + 1, 0, none⟩ = some (.string s) := by rw [← hw2, hB]; simp [go_sem]
  rw [hw2, ← hB]
  clear hw2
  have HB := Lib.hid hB
  clear hB
  refine wpIn_range (gf := 27) (lb := #[.pointer (some ⟨B + 1, 0, none⟩)]) rfl (enters_of Tryd.func27 (by kernel_rfl) rfl)
    L.length (fun k => #[.int .i64 k, .string (bs (at_ L k))]) (fun _ => rfl) (fun j => j = B) (fun j => B + 4 ≤ j ∧ j < B + 11) (B + 11)
    (by rw [z2]; intro k hk; omega) (by rw [z2]; intro k hk; omega)
    (fun k A => k = 0 ∧ A.cell? ⟨B, 0, none⟩ = some (.string ⟨#[]⟩) ∧ A.frozen? ⟨B, 0, none⟩ = false ∧ Below B w A)
    (fun c _ A => c = .ret ∧ A.cell? ⟨B, 0, none⟩ = some (.string (bs (at_ L 0))) ∧ A.frozen? ⟨B, 0, none⟩ = false ∧ Below B w A)
    ?hI ?hIx ⟨rfl, r2.1, r2.2, b2⟩
    (fun k a' _ => a' = { tmps := #[.string s, undef, .pointer (some ⟨B, 0, none⟩), .func (.func 27) #[] #[.pointer (some ⟨B + 1, 0, none⟩)], undef, .string (bs (at_ L k)),
      .string s, .func (.func 27) #[] #[.pointer (some ⟨B + 1, 0, none⟩)], .func (.func 27) #[] #[.pointer (some ⟨B + 1, 0, none⟩)], .bool true, .func (.func 27) #[] #[.pointer (some ⟨B + 1, 0, none⟩)],
      .int .i64 k, .string (bs (at_ L k)), undef], defers := [] })
    (fun _ _ _ _ h _ => h) ?hit ?assign ?body ?done ?stop
  case hI =>
    rintro k A A' ⟨h0, h1, h2, h6⟩ hc
    rw [z2] at hc
    exact ⟨h0, hc.cell h1 (by simp only; omega), (hc.frozenCell h1 (by simp only; omega)).trans h2, h6.trans (hc.below (by intro j hj; omega) (by have := h6.size; have := HB.out; omega))⟩
  case hIx =>
    rintro c k A A' ⟨h0, h1, h2, h6⟩ hc
    rw [z2] at hc
    exact ⟨h0, hc.cell h1 (by simp only; omega), (hc.frozenCell h1 (by simp only; omega)).trans h2, h6.trans (hc.below (by intro j hj; omega) (by have := h6.size; have := HB.out; omega))⟩
  case hit =>
    intro J' Jx' W1 h1 h2 h3 h4 h5 h6 h7 h8
    rw [z2] at h1 h2 h7 ⊢
    have e1 : W1.cell? ⟨B + 1, 0, none⟩ = some (.string s) := (h2.cell (p := ⟨B + 1, 0, none⟩) (by simp only; omega)).trans s2
    have hL := HL.out
    have hz5 : W1.heap.size = B + 4 := by omega
    subst hL
    refine pieces_in _ (B + 1) s (by omega) _ J' Jx' W1 (fun k A C h c => h5 k A C h (c.mono (by intro j _ hj; rw [hz5] at hj; omega))) (fun k A C h c => h6 k A C h (c.mono (by intro j _ hj; rw [hz5] at hj; omega))) e1 ?_ (by rw [hz5]; exact h7) h8
    intro j hj hj2
    omega
  case assign =>
    rintro k A K ⟨rfl, h1, h2, h6⟩ hk hK
    gi_wp2
    exact hK _ _ rfl (Ch.refl _ _) ⟨trivial, h1, h2, h6⟩
  case body =>
    rintro k a' A ⟨rfl, h1, h2, h6⟩ hk rfl hz hlo
    gi_wp2
    exact ⟨(Ch.refl (fun j => j = B) A).setCell ⟨B, 0, none⟩ _ (.inl rfl), rfl, by simp [go_sem, h1], by simp [go_sem, h2], h6.setCell (p := ⟨B, 0, none⟩) (Nat.le_refl _) _⟩
  case done =>
    rintro A ⟨h0, h1, h2, h6⟩ hD
    rw [z2] at hD
    have hL0 : bs (at_ L 0) = ⟨#[]⟩ := by
      have : L = [] := List.eq_nil_of_length_eq_zero h0
      rw [this]; rfl
    have HL0 := Lib.hid hL0
    clear hL0 h0
    gi_wp2
    rw [z2]
    have hc : Ch (fun j => j = B) A (A.setCell ⟨B, 0, none⟩ (.string ⟨#[]⟩)) := (Ch.refl _ A).setCell _ _ (.inl rfl)
    have hD' := hc.obj hD (by omega)
    have hr : (A.setCell ⟨B, 0, none⟩ (.string ⟨#[]⟩)).cell? ⟨B, 0, none⟩ = some (.string ⟨#[]⟩) := by simp [go_sem, h1]
    have hp : Ch (fun j => j = B + 2) (A.setCell ⟨B, 0, none⟩ (.string ⟨#[]⟩)) ((A.setCell ⟨B, 0, none⟩ (.string ⟨#[]⟩)).putObj (B + 2) (.deferred none)) := (Ch.refl _ _).putObj _ _ rfl
    have hr2 := hp.cell hr (by simp only; omega)
    refine ⟨by simp, .inl ⟨_, _, rfl, run_takeDeferred hD', ?_⟩⟩
    refine ⟨.string ⟨#[]⟩, ?_, by rw [HL0.out], ?_⟩
    · simp [results, Tryd.results18, go_sem, hr2]
    · rw [← HB.out]
      have hs := h6.size
      have hb := HB.out
      exact (h6.setCell (p := ⟨B, 0, none⟩) (Nat.le_refl _) _).trans (hp.below (by intro j hj; omega) (by simp [World.setCell]; omega))
  case stop =>
    rintro c k A hk ⟨rfl, h1, h2, h6⟩ hD
    rw [z2] at hD
    gi_wp2
    rw [z2]
    have hp : Ch (fun j => j = B + 2) A (A.putObj (B + 2) (.deferred none)) := (Ch.refl _ _).putObj _ _ rfl
    have hr2 := hp.cell h1 (by simp only; omega)
    refine ⟨by simp, .inl ⟨_, _, rfl, run_takeDeferred hD, ?_⟩⟩
    refine ⟨.string (bs (at_ L 0)), ?_, rfl, ?_⟩
    · simp [results, Tryd.results18, go_sem, hr2]
    · rw [← HB.out]
      have hs := h6.size
      have hb := HB.out
      exact h6.trans (hp.below (by intro j hj; omega) (by omega))

end Go.Proofs.YtnmejabmnapmpaaDoor
