/- The contracts of the law's all and parts: what All and Parts go through, collected, as far as is asked for. -/
import Derived.Test.YtkfaccbabagooaaDoorIter
namespace Go.Proofs.YtkfaccbabagooaaDoor
open Go.RowKit
attribute [local go_sem] Oper.semAt_some

theorem neqIn_func_nil (t : TypeId) (ht : Tryd.prog.underlying t = some (.func #[31] #[] false) ∨ Tryd.prog.underlying t = some (.func #[52] #[] false)) (d gf : Nat) (lb : Array Value) (w : World) : (Op.equalIn (d + 1) t (.func (.func gf) #[] lb) .nilFunc).run Tryd.prog w = .ok false w := by
  rcases ht with ht | ht <;> simp [Op.equalIn, run_underlying ht]
theorem neq_func_nil (t : TypeId) (ht : Tryd.prog.underlying t = some (.func #[31] #[] false) ∨ Tryd.prog.underlying t = some (.func #[52] #[] false)) (gf : Nat) (lb : Array Value) (w : World) : (Go.binOp .neq t (.func (.func gf) #[] lb) .nilFunc).run Tryd.prog w = .ok (.bool true) w := by
  have h : (Op.equal t (.func (.func gf) #[] lb) .nilFunc).run Tryd.prog w = .ok false w := neqIn_func_nil t ht 9999 gf lb w
  simp [Go.binOp, h]
theorem neq46 (gf : Nat) (lb : Array Value) (w : World) : (Go.binOp .neq 46 (.func (.func gf) #[] lb) .nilFunc).run Tryd.prog w = .ok (.bool true) w := neq_func_nil 46 (.inl (by kernel_rfl)) gf lb w
theorem neq49 (gf : Nat) (lb : Array Value) (w : World) : (Go.binOp .neq 49 (.func (.func gf) #[] lb) .nilFunc).run Tryd.prog w = .ok (.bool true) w := neq_func_nil 49 (.inr (by kernel_rfl)) gf lb w

theorem own_ch {A B : World} {base : Nat} {e : TypeId} {size : Nat} {v : Value} {n : Nat} {xs : List Value} {T : Nat → Prop}
    (h : A.ownsRow base e size v n xs) (hc : Ch T A B) (ht : ∀ j, base ≤ j → ¬ T j) : B.ownsRow base e size v n xs := by
  obtain ⟨h1, h2⟩ := h
  refine ⟨h1, ?_⟩
  rcases h2 with h2 | ⟨g, cap, cur, hv, hg, hh, r⟩
  · exact .inl h2
  · exact .inr ⟨g, cap, cur, hv, hg, hc.obj hh (ht g hg), r⟩
theorem own_mono {A : World} {base base' : Nat} {e : TypeId} {size : Nat} {v : Value} {n : Nat} {xs : List Value} (h : A.ownsRow base e size v n xs) (hb : base' ≤ base) : A.ownsRow base' e size v n xs := by
  refine ⟨h.1, ?_⟩
  rcases h.2 with h | ⟨g, c, cur, q1, q2, q3⟩
  · exact .inl h
  · exact .inr ⟨g, c, cur, q1, by omega, q3⟩
theorem ch_grown {A B : World} {row : Option Nat} (h : A.grownBy B row) : Ch (fun j => row = some j) A B :=
  ⟨h.os, h.tape, h.output, h.size, fun k hk hn => h.block k hk (fun e => hn e.symm)⟩
theorem own_val {A : World} {base : Nat} {e : TypeId} {size : Nat} {v : Value} {n : Nat} {xs : List Value} (h : A.ownsRow base e size v n xs) : ∃ sp cap, v = .slice sp n cap := by
  rcases h.2 with ⟨h0, h1⟩ | ⟨g, cap, cur, hv, _⟩
  · exact ⟨none, 0, by rw [h0, h1]⟩
  · exact ⟨_, _, hv⟩
theorem own_blk {A : World} {base : Nat} {e : TypeId} {size : Nat} {v : Value} {n : Nat} {xs : List Value} (h : A.ownsRow base e size v n xs) (j : Nat) (hj : v.ownBlock = some j) : base ≤ j := (h.lt j hj).1

theorem rowI_snoc (L : List Int) (k : Nat) (h : k < L.length) : rowI (L.take (k + 1)) = rowI (L.take k) ++ [.int .i64 (nth L k)] := by
  rw [take_succ_nth L k h]; unfold rowI; simp
theorem rowI_len (L : List Int) : (rowI L).length = L.length := by unfold rowI; simp

theorem all_zero (x : BitVec 32) (w : World) : Calls Tryd.prog 20 #[.int .u32 (w32 x), .int .i64 0] w fun e w' =>
    e = .returned (.slice none 0 0) ∧ Below w.heap.size w w' := by
  go_enter Tryd.func20, Tryd.ntmps20
  go_wp2
  go_ret
  exact ⟨rfl, ((Below.refl _ _).alloc (Nat.le_refl _) _).alloc (by simp) _⟩

set_option maxHeartbeats 1000000 in
theorem all_law (x : BitVec 32) (m : Nat) (hm : 0 < m ∧ m ≤ 1000) (w : World) (ht : Tab w) : Calls Tryd.prog 20 #[.int .u32 (w32 x), .int .i64 m] w fun e w' =>
    ∃ v, e = .returned v ∧ w'.ownsRow w.heap.size 3 1 v ((ints (lst x 32)).take m).length (rowI ((ints (lst x 32)).take m)) ∧ Below w.heap.size w w' := by
  refine (callsIn_wide (n := 0)).1 ?_
  obtain ⟨i0, hi, hz0, hz1, hz2⟩ := info_parts info3
  have hnn := neq46
  obtain ⟨L, hL⟩ : ∃ L, L = ints (lst x 32) := ⟨_, rfl⟩
  have hlen : (lst x 32).length = L.length := by rw [hL]; unfold ints; simp
  have hcount : L.length ≤ 32 := by rw [← hlen]; exact lst_len x 32
  have hp := ht.pos
  have hm0 : ((m : Int) == 0) = false := by simp; omega
  have HL := Lib.hid (And.intro hL hlen)
  have HT := Lib.hid ht
  rw [← hL]
  clear hL hlen ht
  refine callsIn_of_wp_marks Tryd.func20 rfl trivial ?_ rfl
  simp only [Tryd.ntmps20, List.size_toArray, List.length_cons, List.length_nil, Nat.reduceAdd, Nat.reduceSub, Array.replicate_succ, Array.replicate_zero, List.push_toArray, List.append_toArray, List.nil_append, List.cons_append]
  gi_wp2_with (refine ⟨trivial, rfl, ?_⟩; gi_at_call 25; refine (callsIn_wide.2 (All_any _ _)).mono ?_; rintro e w' ⟨rfl, rfl⟩)
  obtain ⟨B, hB⟩ : ∃ B, B = w.heap.size := ⟨_, rfl⟩
  obtain ⟨w2, hw2⟩ : ∃ w2, ((w.alloc (Obj.cells #[Value.int IntKind.i64 m] 3)).alloc (Obj.cells #[Value.slice none 0 0] 22)).alloc (Obj.cells #[Value.int IntKind.u32 (w32 x)] 24) = w2 := ⟨_, rfl⟩
  have z2 : w2.heap.size = B + 3 := by rw [← hw2, hB]; simp
  have b2 : Below B w w2 := by rw [← hw2, hB]; exact (((Below.refl _ w).alloc (Nat.le_refl _) _).alloc (by simp) _).alloc (by simp; omega) _
  have r2 : w2.cell? ⟨B, 0, none⟩ = some (.int .i64 m) := by rw [← hw2, hB]; simp [go_sem]
  have o2 : w2.cell? ⟨B + 1, 0, none⟩ = some (.slice none 0 0) ∧ w2.frozen? ⟨B + 1, 0, none⟩ = false := by rw [← hw2, hB]; simp [go_sem]
  have s2 : w2.cell? ⟨B + 2, 0, none⟩ = some (.int .u32 (w32 x)) := by rw [← hw2, hB]; simp [go_sem]
  rw [hw2, ← hB]
  clear hw2
  have hBp : 0 < B := by omega
  have HB := Lib.hid hB
  clear hB hp
  refine wpIn_range (gf := 27) (lb := #[.pointer (some ⟨B + 2, 0, none⟩)]) rfl (enters_of Tryd.func27 (by kernel_rfl) rfl)
    L.length (fun k => #[.int .i64 (nth L k)]) (fun _ => rfl) (fun j => j = B + 1 ∨ B + 5 ≤ j) (fun _ => False) 0
    (by rw [z2]; intro k hk; omega) (fun _ h => h.elim)
    (fun k A => k < m ∧ ∃ v, A.cell? ⟨B + 1, 0, none⟩ = some v ∧ A.frozen? ⟨B + 1, 0, none⟩ = false ∧ A.cell? ⟨B, 0, none⟩ = some (.int .i64 m) ∧ A.cell? ⟨B + 2, 0, none⟩ = some (.int .u32 (w32 x)) ∧ A.ownsRow (B + 5) 3 1 v k (rowI (L.take k)) ∧ Below B w A)
    (fun c k A => c = .exit 0 ∧ k = m ∧ ∃ v, A.cell? ⟨B + 1, 0, none⟩ = some v ∧ A.frozen? ⟨B + 1, 0, none⟩ = false ∧ A.cell? ⟨B, 0, none⟩ = some (.int .i64 m) ∧ A.cell? ⟨B + 2, 0, none⟩ = some (.int .u32 (w32 x)) ∧ A.ownsRow (B + 5) 3 1 v k (rowI (L.take k)) ∧ Below B w A)
    ?hI ?hIx ⟨hm.1, _, o2.1, o2.2, r2, s2, World.ownsRow_nil _ _ _ _, b2⟩
    (fun k a' _ => a' = { tmps := #[.int .u32 (w32 x), .int .i64 m, undef, .pointer (some ⟨B, 0, none⟩), .slice none 0 0, .pointer (some ⟨B + 1, 0, none⟩), .func (.func 27) #[] #[.pointer (some ⟨B + 2, 0, none⟩)], .int .i64 (nth L k),
      .int .i64 m, .bool false, undef, .int .u32 (w32 x), .func (.func 27) #[] #[.pointer (some ⟨B + 2, 0, none⟩)], .func (.func 27) #[] #[.pointer (some ⟨B + 2, 0, none⟩)], .bool true, .func (.func 27) #[] #[.pointer (some ⟨B + 2, 0, none⟩)],
      .int .i64 (nth L k), undef, undef, undef, undef, undef, undef, undef, undef, undef], defers := [] })
    (fun _ _ _ _ h _ => h) ?hit ?assign ?body ?done ?stop
  case hI =>
    rintro k A A' ⟨hk, v, h1, h2, h3, h4, h5, h6⟩ hc
    rw [z2] at hc
    exact ⟨hk, v, hc.cell h1 (by simp only [false_or]; omega), (hc.frozenCell h1 (by simp only [false_or]; omega)).trans h2, hc.cell h3 (by simp only [false_or]; omega), hc.cell h4 (by simp only [false_or]; omega), own_ch h5 hc (by intro j hj; simp only [false_or]; omega),
      h6.trans (hc.below (by intro j hj; simp only [false_or]; omega) (by have := h6.size; have := HB.out; omega))⟩
  case hIx =>
    rintro c k A A' ⟨hce, hk, v, h1, h2, h3, h4, h5, h6⟩ hc
    rw [z2] at hc
    exact ⟨hce, hk, v, hc.cell h1 (by simp only [false_or]; omega), (hc.frozenCell h1 (by simp only [false_or]; omega)).trans h2, hc.cell h3 (by simp only [false_or]; omega), hc.cell h4 (by simp only [false_or]; omega), own_ch h5 hc (by intro j hj; simp only [false_or]; omega),
      h6.trans (hc.below (by intro j hj; simp only [false_or]; omega) (by have := h6.size; have := HB.out; omega))⟩
  case hit =>
    intro J' Jx' W1 h1 h2 h3 h4 h5 h6 h7 h8
    rw [z2] at h7 ⊢
    have hl := HL.out
    have e := all_in (B + 3 + 1) (B + 2) x (fun j => (j = B + 1 ∨ B + 5 ≤ j) ∨ j = B + 3 + 1) J' Jx' W1 (fun k W' h => by obtain ⟨_, v, _, _, _, _, _, q⟩ := h3 k W' h; exact HT.out.below hBp q) (fun k W' h => by obtain ⟨_, v, _, _, _, q, _, _⟩ := h3 k W' h; exact q) ?_ h8
    · rw [hl.2] at e; exact e
    · rw [hl.2, ← hl.1]; exact h7
  case assign =>
    intro k A K hi hk hK
    gi_wp2
    exact hK _ _ rfl (Ch.refl _ _) hi
  case body =>
    rintro k a' A ⟨hkm, v, h1, h2, h3, h4, h5, h6⟩ hk rfl hz hlo
    rw [z2] at hz
    obtain ⟨sp, cap, rfl⟩ := own_val h5
    have hBlk := own_blk h5
    have HS := Lib.hid (rowI_snoc L k hk)
    have HK := Lib.hid hBlk
    have H5 := Lib.hid h5
    have H6 := Lib.hid h6
    clear hBlk h5 h6
    have hk5 : (k : Int) ≤ 1000 := by omega
    by_cases hend : k + 1 = m
    · have hbe : ((k : Int) + 1 == (m : Int)) = true := by simp; omega
      have HE := Lib.hid hend
      clear hend
      gi_wp2_with (gi_at_builtin; refine wpListIn_append_own _ rfl _ _ 22 rfl (B + 5) 3 i0 (.int .i64 0) 1 8 Tryd.underlying22 hi hz0 hz1 hz2 rfl (by decide) _ _ _ rfl (H5.out.alloc _) ⟨A.heap.size, 0, none⟩ 1 1 [.int .i64 (nth L k)] rfl rfl (cell_one_new _ _ _) (by simp [Value.oneCell']) (by unfold maxLen; omega) (by omega) (by simp; omega) ?_; intro v' w1 hown' hgrow _; obtain ⟨g', cap', rfl⟩ := ownsRow_succ hown'; have hc1 := (((Ch.refl (fun _ => False) A).alloc (.cells #[.int .i64 (nth L k)] 3)).mono (T' := fun j => B + 5 ≤ j) (fun _ _ h => h.elim)).trans ((ch_grown hgrow).mono (fun j _ hj => HK.out j hj)); have g1 := hc1.cell h1 (by simp only; omega); have g2 := (hc1.frozenCell h1 (by simp only; omega)).trans h2; have g3 := hc1.cell h3 (by simp only; omega); have g4 := hc1.cell h4 (by simp only; omega); have HO := Lib.hid hown'; have HC1 := Lib.hid hc1; clear hown' hgrow hc1 h1 h2 h3 h4)
      refine ⟨?_, rfl, HE.out, .slice (some ⟨g', 0, none⟩) (k + 1) cap', by simp [go_sem, g1], by simp [go_sem, g2], by simp [go_sem, g3], by simp [go_sem, g4], ?_, ?_⟩
      · exact ((HC1.out.mono (fun j _ hj => .inr hj)).setCell _ _ (.inl (.inl rfl)))
      · rw [HS.out]
        exact own_ch HO.out ((Ch.refl (fun j => j = B + 1) _).setCell _ _ (.inl rfl)) (by intro j hj; omega)
      · exact (H6.out.trans (HC1.out.below (by intro j hj; omega) (by have := H6.out.size; have := HB.out; omega))).setCell (by simp) _
    · have hbe : ((k : Int) + 1 == (m : Int)) = false := by simp; omega
      gi_wp2_with (gi_at_builtin; refine wpListIn_append_own _ rfl _ _ 22 rfl (B + 5) 3 i0 (.int .i64 0) 1 8 Tryd.underlying22 hi hz0 hz1 hz2 rfl (by decide) _ _ _ rfl (H5.out.alloc _) ⟨A.heap.size, 0, none⟩ 1 1 [.int .i64 (nth L k)] rfl rfl (cell_one_new _ _ _) (by simp [Value.oneCell']) (by unfold maxLen; omega) (by omega) (by simp; omega) ?_; intro v' w1 hown' hgrow _; obtain ⟨g', cap', rfl⟩ := ownsRow_succ hown'; have hc1 := (((Ch.refl (fun _ => False) A).alloc (.cells #[.int .i64 (nth L k)] 3)).mono (T' := fun j => B + 5 ≤ j) (fun _ _ h => h.elim)).trans ((ch_grown hgrow).mono (fun j _ hj => HK.out j hj)); have g1 := hc1.cell h1 (by simp only; omega); have g2 := (hc1.frozenCell h1 (by simp only; omega)).trans h2; have g3 := hc1.cell h3 (by simp only; omega); have g4 := hc1.cell h4 (by simp only; omega); have HO := Lib.hid hown'; have HC1 := Lib.hid hc1; clear hown' hgrow hc1 h1 h2 h3 h4)
      refine ⟨?_, by omega, .slice (some ⟨g', 0, none⟩) (k + 1) cap', by simp [go_sem, g1], by simp [go_sem, g2], by simp [go_sem, g3], by simp [go_sem, g4], ?_, ?_⟩
      · exact ((HC1.out.mono (fun j _ hj => .inr hj)).setCell _ _ (.inl (.inl rfl)))
      · rw [HS.out]
        exact own_ch HO.out ((Ch.refl (fun j => j = B + 1) _).setCell _ _ (.inl rfl)) (by intro j hj; omega)
      · exact (H6.out.trans (HC1.out.below (by intro j hj; omega) (by have := H6.out.size; have := HB.out; omega))).setCell (by simp) _
  case done =>
    rintro A ⟨hkm, v, h1, h2, h3, h4, h5, h6⟩ hD
    rw [z2] at hD
    rw [List.take_length] at h5
    have HLM := Lib.hid (show L.take m = L from List.take_of_length_le (by omega))
    obtain ⟨sp, cap, rfl⟩ := own_val h5
    have H5 := Lib.hid h5
    have H6 := Lib.hid h6
    clear h5 h6
    gi_wp2
    rw [z2]
    have hp : Ch (fun j => j = B + 3) A (A.putObj (B + 3) (.deferred none)) := (Ch.refl _ _).putObj _ _ rfl
    refine ⟨by simp, .inl ⟨_, _, rfl, run_takeDeferred hD, ?_⟩⟩
    refine ⟨.slice sp L.length cap, ?_, _, rfl, ?_, ?_⟩
    · simp [results, Tryd.results20, go_sem]
    · rw [← HB.out, HLM.out]
      exact own_mono (own_ch H5.out hp (by intro j hj; omega)) (by omega)
    · rw [← HB.out]
      have hs := H6.out.size
      have hb := HB.out
      exact H6.out.trans (hp.below (by intro j hj; omega) (by omega))
  case stop =>
    rintro c k A hk ⟨rfl, rfl, v, h1, h2, h3, h4, h5, h6⟩ hD
    rw [z2] at hD
    have HLM := Lib.hid (show (L.take k).length = k by simp; omega)
    obtain ⟨sp, cap, rfl⟩ := own_val h5
    have H5 := Lib.hid h5
    have H6 := Lib.hid h6
    clear h5 h6
    gi_wp2
    rw [z2]
    have hp : Ch (fun j => j = B + 3) A (A.putObj (B + 3) (.deferred none)) := (Ch.refl _ _).putObj _ _ rfl
    refine ⟨by simp, .inl ⟨_, _, rfl, run_takeDeferred hD, ?_⟩⟩
    refine ⟨.slice sp k cap, ?_, _, rfl, ?_, ?_⟩
    · simp [results, Tryd.results20, go_sem]
    · rw [← HB.out, HLM.out]
      exact own_mono (own_ch H5.out hp (by intro j hj; omega)) (by omega)
    · rw [← HB.out]
      have hs := H6.out.size
      have hb := HB.out
      exact H6.out.trans (hp.below (by intro j hj; omega) (by omega))

theorem info24 : (Tryd.prog.info? 24).map (fun i => (i.zero, i.size, i.bytes)) = some (some (.int .u32 0), 1, 4) := by kernel_rfl
def rowP (x : BitVec 32) (k : Nat) : List Value := (List.range k).map fun j => .int .u32 (w32 (prt x j))
theorem rowP_snoc (x : BitVec 32) (k : Nat) : rowP x (k + 1) = rowP x k ++ [.int .u32 (w32 (prt x k))] := by
  unfold rowP; rw [List.range_succ, List.map_append]; rfl

set_option maxHeartbeats 1000000 in
theorem parts_law (x : BitVec 32) (m : Nat) (hm : 0 < m ∧ m ≤ 1000) (w : World) : Calls Tryd.prog 21 #[.int .u32 (w32 x), .int .i64 m] w fun e w' =>
    ∃ v, e = .returned v ∧ w'.ownsRow w.heap.size 24 1 v (min (2 ^ (lst x 32).length) m) (rowP x (min (2 ^ (lst x 32).length) m)) ∧ Below w.heap.size w w' := by
  refine (callsIn_wide (n := 0)).1 ?_
  obtain ⟨i0, hi, hz0, hz1, hz2⟩ := info_parts info24
  have hnn := neq49
  obtain ⟨N, hN⟩ : ∃ N, 2 ^ (lst x 32).length = N := ⟨_, rfl⟩
  have hm0 : ((m : Int) == 0) = false := by simp; omega
  have HN := Lib.hid hN
  rw [hN]
  clear hN
  refine callsIn_of_wp_marks Tryd.func21 rfl trivial ?_ rfl
  simp only [Tryd.ntmps21, List.size_toArray, List.length_cons, List.length_nil, Nat.reduceAdd, Nat.reduceSub, Array.replicate_succ, Array.replicate_zero, List.push_toArray, List.append_toArray, List.nil_append, List.cons_append]
  gi_wp2_with (refine ⟨trivial, rfl, ?_⟩; gi_at_call 26; refine (callsIn_wide.2 (Parts_any _ _)).mono ?_; rintro e w' ⟨rfl, rfl⟩)
  obtain ⟨B, hB⟩ : ∃ B, B = w.heap.size := ⟨_, rfl⟩
  obtain ⟨w2, hw2⟩ : ∃ w2, ((w.alloc (Obj.cells #[Value.int IntKind.i64 m] 3)).alloc (Obj.cells #[Value.slice none 0 0] 40)).alloc (Obj.cells #[Value.int IntKind.u32 (w32 x)] 24) = w2 := ⟨_, rfl⟩
  have z2 : w2.heap.size = B + 3 := by rw [← hw2, hB]; simp
  have b2 : Below B w w2 := by rw [← hw2, hB]; exact (((Below.refl _ w).alloc (Nat.le_refl _) _).alloc (by simp) _).alloc (by simp; omega) _
  have r2 : w2.cell? ⟨B, 0, none⟩ = some (.int .i64 m) := by rw [← hw2, hB]; simp [go_sem]
  have o2 : w2.cell? ⟨B + 1, 0, none⟩ = some (.slice none 0 0) ∧ w2.frozen? ⟨B + 1, 0, none⟩ = false := by rw [← hw2, hB]; simp [go_sem]
  have s2 : w2.cell? ⟨B + 2, 0, none⟩ = some (.int .u32 (w32 x)) := by rw [← hw2, hB]; simp [go_sem]
  rw [hw2, ← hB]
  clear hw2
  have HB := Lib.hid hB
  clear hB
  refine wpIn_range (gf := 28) (lb := #[.pointer (some ⟨B + 2, 0, none⟩)]) rfl (enters_of Tryd.func28 (by kernel_rfl) rfl)
    N (fun k => #[.int .u32 (w32 (prt x k))]) (fun _ => rfl) (fun j => j = B + 1 ∨ B + 5 ≤ j) (fun _ => False) 0
    (by rw [z2]; intro k hk; omega) (fun _ h => h.elim)
    (fun k A => k < m ∧ ∃ v, A.cell? ⟨B + 1, 0, none⟩ = some v ∧ A.frozen? ⟨B + 1, 0, none⟩ = false ∧ A.cell? ⟨B, 0, none⟩ = some (.int .i64 m) ∧ A.cell? ⟨B + 2, 0, none⟩ = some (.int .u32 (w32 x)) ∧ A.ownsRow (B + 5) 24 1 v k (rowP x k) ∧ Below B w A)
    (fun c k A => c = .exit 0 ∧ k = m ∧ ∃ v, A.cell? ⟨B + 1, 0, none⟩ = some v ∧ A.frozen? ⟨B + 1, 0, none⟩ = false ∧ A.cell? ⟨B, 0, none⟩ = some (.int .i64 m) ∧ A.cell? ⟨B + 2, 0, none⟩ = some (.int .u32 (w32 x)) ∧ A.ownsRow (B + 5) 24 1 v k (rowP x k) ∧ Below B w A)
    ?hI ?hIx ⟨hm.1, _, o2.1, o2.2, r2, s2, World.ownsRow_nil _ _ _ _, b2⟩
    (fun k a' _ => a' = { tmps := #[.int .u32 (w32 x), .int .i64 m, undef, .pointer (some ⟨B, 0, none⟩), .slice none 0 0, .pointer (some ⟨B + 1, 0, none⟩), .func (.func 28) #[] #[.pointer (some ⟨B + 2, 0, none⟩)], .int .u32 (w32 (prt x k)),
      .int .i64 m, .bool false, undef, .int .u32 (w32 x), .func (.func 28) #[] #[.pointer (some ⟨B + 2, 0, none⟩)], .func (.func 28) #[] #[.pointer (some ⟨B + 2, 0, none⟩)], .bool true, .func (.func 28) #[] #[.pointer (some ⟨B + 2, 0, none⟩)],
      .int .u32 (w32 (prt x k)), undef, undef, undef, undef, undef, undef, undef, undef, undef], defers := [] })
    (fun _ _ _ _ h _ => h) ?hit ?assign ?body ?done ?stop
  case hI =>
    rintro k A A' ⟨hk, v, h1, h2, h3, h4, h5, h6⟩ hc
    rw [z2] at hc
    exact ⟨hk, v, hc.cell h1 (by simp only [false_or]; omega), (hc.frozenCell h1 (by simp only [false_or]; omega)).trans h2, hc.cell h3 (by simp only [false_or]; omega), hc.cell h4 (by simp only [false_or]; omega), own_ch h5 hc (by intro j hj; simp only [false_or]; omega),
      h6.trans (hc.below (by intro j hj; simp only [false_or]; omega) (by have := h6.size; have := HB.out; omega))⟩
  case hIx =>
    rintro c k A A' ⟨hce, hk, v, h1, h2, h3, h4, h5, h6⟩ hc
    rw [z2] at hc
    exact ⟨hce, hk, v, hc.cell h1 (by simp only [false_or]; omega), (hc.frozenCell h1 (by simp only [false_or]; omega)).trans h2, hc.cell h3 (by simp only [false_or]; omega), hc.cell h4 (by simp only [false_or]; omega), own_ch h5 hc (by intro j hj; simp only [false_or]; omega),
      h6.trans (hc.below (by intro j hj; simp only [false_or]; omega) (by have := h6.size; have := HB.out; omega))⟩
  case hit =>
    intro J' Jx' W1 h1 h2 h3 h4 h5 h6 h7 h8
    rw [z2] at h7 ⊢
    have e := parts_in (B + 3 + 1) (B + 2) x (fun j => (j = B + 1 ∨ B + 5 ≤ j) ∨ j = B + 3 + 1) J' Jx' W1 (fun k W' h => by obtain ⟨_, v, _, _, _, q, _, _⟩ := h3 k W' h; exact q) (fun k W' h => by obtain ⟨c, _, _, v, _, _, _, q, _, _⟩ := h4 k W' h; exact q) (by rw [HN.out]; exact h7) h8
    rw [HN.out] at e; exact e
  case assign =>
    intro k A K hi hk hK
    gi_wp2
    exact hK _ _ rfl (Ch.refl _ _) hi
  case body =>
    rintro k a' A ⟨hkm, v, h1, h2, h3, h4, h5, h6⟩ hk rfl hz hlo
    rw [z2] at hz
    obtain ⟨sp, cap, rfl⟩ := own_val h5
    have hBlk := own_blk h5
    have HS := Lib.hid (rowP_snoc x k)
    have HK := Lib.hid hBlk
    have H5 := Lib.hid h5
    have H6 := Lib.hid h6
    clear hBlk h5 h6
    have hk5 : (k : Int) ≤ 1000 := by omega
    by_cases hend : k + 1 = m
    · have hbe : ((k : Int) + 1 == (m : Int)) = true := by simp; omega
      have HE := Lib.hid hend
      clear hend
      gi_wp2_with (gi_at_builtin; refine wpListIn_append_own _ rfl _ _ 40 rfl (B + 5) 24 i0 (.int .u32 0) 1 4 Tryd.underlying40 hi hz0 hz1 hz2 rfl (by decide) _ _ _ rfl (H5.out.alloc _) ⟨A.heap.size, 0, none⟩ 1 1 [.int .u32 (w32 (prt x k))] rfl rfl (cell_one_new _ _ _) (by simp [Value.oneCell']) (by unfold maxLen; omega) (by omega) (by simp; omega) ?_; intro v' w1 hown' hgrow _; obtain ⟨g', cap', rfl⟩ := ownsRow_succ hown'; have hc1 := (((Ch.refl (fun _ => False) A).alloc (.cells #[.int .u32 (w32 (prt x k))] 24)).mono (T' := fun j => B + 5 ≤ j) (fun _ _ h => h.elim)).trans ((ch_grown hgrow).mono (fun j _ hj => HK.out j hj)); have g1 := hc1.cell h1 (by simp only; omega); have g2 := (hc1.frozenCell h1 (by simp only; omega)).trans h2; have g3 := hc1.cell h3 (by simp only; omega); have g4 := hc1.cell h4 (by simp only; omega); have HO := Lib.hid hown'; have HC1 := Lib.hid hc1; clear hown' hgrow hc1 h1 h2 h3 h4)
      refine ⟨?_, rfl, HE.out, .slice (some ⟨g', 0, none⟩) (k + 1) cap', by simp [go_sem, g1], by simp [go_sem, g2], by simp [go_sem, g3], by simp [go_sem, g4], ?_, ?_⟩
      · exact ((HC1.out.mono (fun j _ hj => .inr hj)).setCell _ _ (.inl (.inl rfl)))
      · rw [HS.out]
        exact own_ch HO.out ((Ch.refl (fun j => j = B + 1) _).setCell _ _ (.inl rfl)) (by intro j hj; omega)
      · exact (H6.out.trans (HC1.out.below (by intro j hj; omega) (by have := H6.out.size; have := HB.out; omega))).setCell (by simp) _
    · have hbe : ((k : Int) + 1 == (m : Int)) = false := by simp; omega
      gi_wp2_with (gi_at_builtin; refine wpListIn_append_own _ rfl _ _ 40 rfl (B + 5) 24 i0 (.int .u32 0) 1 4 Tryd.underlying40 hi hz0 hz1 hz2 rfl (by decide) _ _ _ rfl (H5.out.alloc _) ⟨A.heap.size, 0, none⟩ 1 1 [.int .u32 (w32 (prt x k))] rfl rfl (cell_one_new _ _ _) (by simp [Value.oneCell']) (by unfold maxLen; omega) (by omega) (by simp; omega) ?_; intro v' w1 hown' hgrow _; obtain ⟨g', cap', rfl⟩ := ownsRow_succ hown'; have hc1 := (((Ch.refl (fun _ => False) A).alloc (.cells #[.int .u32 (w32 (prt x k))] 24)).mono (T' := fun j => B + 5 ≤ j) (fun _ _ h => h.elim)).trans ((ch_grown hgrow).mono (fun j _ hj => HK.out j hj)); have g1 := hc1.cell h1 (by simp only; omega); have g2 := (hc1.frozenCell h1 (by simp only; omega)).trans h2; have g3 := hc1.cell h3 (by simp only; omega); have g4 := hc1.cell h4 (by simp only; omega); have HO := Lib.hid hown'; have HC1 := Lib.hid hc1; clear hown' hgrow hc1 h1 h2 h3 h4)
      refine ⟨?_, by omega, .slice (some ⟨g', 0, none⟩) (k + 1) cap', by simp [go_sem, g1], by simp [go_sem, g2], by simp [go_sem, g3], by simp [go_sem, g4], ?_, ?_⟩
      · exact ((HC1.out.mono (fun j _ hj => .inr hj)).setCell _ _ (.inl (.inl rfl)))
      · rw [HS.out]
        exact own_ch HO.out ((Ch.refl (fun j => j = B + 1) _).setCell _ _ (.inl rfl)) (by intro j hj; omega)
      · exact (H6.out.trans (HC1.out.below (by intro j hj; omega) (by have := H6.out.size; have := HB.out; omega))).setCell (by simp) _
  case done =>
    rintro A ⟨hkm, v, h1, h2, h3, h4, h5, h6⟩ hD
    rw [z2] at hD
    have HLM := Lib.hid (show min N m = N by omega)
    obtain ⟨sp, cap, rfl⟩ := own_val h5
    have H5 := Lib.hid h5
    have H6 := Lib.hid h6
    clear h5 h6
    gi_wp2
    rw [z2]
    have hp : Ch (fun j => j = B + 3) A (A.putObj (B + 3) (.deferred none)) := (Ch.refl _ _).putObj _ _ rfl
    refine ⟨by simp, .inl ⟨_, _, rfl, run_takeDeferred hD, ?_⟩⟩
    refine ⟨.slice sp N cap, ?_, _, rfl, ?_, ?_⟩
    · simp [results, Tryd.results21, go_sem]
    · rw [← HB.out, HLM.out]
      exact own_mono (own_ch H5.out hp (by intro j hj; omega)) (by omega)
    · rw [← HB.out]
      have hs := H6.out.size
      have hb := HB.out
      exact H6.out.trans (hp.below (by intro j hj; omega) (by omega))
  case stop =>
    rintro c k A hk ⟨rfl, rfl, v, h1, h2, h3, h4, h5, h6⟩ hD
    rw [z2] at hD
    have HLM := Lib.hid (show min N k = k by omega)
    obtain ⟨sp, cap, rfl⟩ := own_val h5
    have H5 := Lib.hid h5
    have H6 := Lib.hid h6
    clear h5 h6
    gi_wp2
    rw [z2]
    have hp : Ch (fun j => j = B + 3) A (A.putObj (B + 3) (.deferred none)) := (Ch.refl _ _).putObj _ _ rfl
    refine ⟨by simp, .inl ⟨_, _, rfl, run_takeDeferred hD, ?_⟩⟩
    refine ⟨.slice sp k cap, ?_, _, rfl, ?_, ?_⟩
    · simp [results, Tryd.results21, go_sem]
    · rw [← HB.out, HLM.out]
      exact own_mono (own_ch H5.out hp (by intro j hj; omega)) (by omega)
    · rw [← HB.out]
      have hs := H6.out.size
      have hb := HB.out
      exact H6.out.trans (hp.below (by intro j hj; omega) (by omega))

end Go.Proofs.YtkfaccbabagooaaDoor
