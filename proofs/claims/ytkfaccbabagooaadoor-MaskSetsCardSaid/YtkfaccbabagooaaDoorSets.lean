/- The walk of MaskSets: true for every slice, every set and every number. -/
import Derived.Test.YtkfaccbabagooaaDoorLaws
namespace Go.Proofs.YtkfaccbabagooaaDoor
open Go.RowKit

theorem run_append_zero {P : Program} (w : World) (t ty e : TypeId) (i : TypeInfo) (ht : P.underlying t = some (.slice e)) (hi : P.info? e = some i)
    (ad : Option Addr) (c : Nat) (sp : Option Addr) (cx : Nat) :
    (Builtin.append_ #[t, t] ty #[.slice ad 0 c, .slice sp 0 cx]).run P w = .ok (.slice ad 0 c) w := by
  cases ad <;> cases sp <;> simp [Builtin.append_, run_underlying ht, sizeOf, typeInfo, hi, Builtin.lenOf, Builtin.firstCells, loadCells, loadCellsFrom, storeCells]
theorem wpList_append_zero {P : Program} {ops : Array Oper} {rest : List Oper} {o : Oper} {a : Act} {w : World} {Q : Exit → Act → World → Prop} (hgd : o.guard = none) (s x : Operand) (t : TypeId)
    (ho : o.op = .call { callee := .builtin .append, args := #[s, x], argTypes := #[t, t] })
    (e : TypeId) (i : TypeInfo) (ht : P.underlying t = some (.slice e)) (hi : P.info? e = some i)
    (ad : Option Addr) (c : Nat) (hs : a.eval s = .slice ad 0 c) (sp : Option Addr) (cx : Nat) (hx : a.eval x = .slice sp 0 cx)
    (h : wpList P ops Q rest (a.put o.dst (.slice ad 0 c)) w) : wpList P ops Q (o :: rest) a w :=
  wpList_plain hgd fun K hK => by
    have hr := run_append_zero (P := P) w t o.type e i ht hi ad c sp cx
    unfold Oper.wp execOp
    simp only [ho, resolve, invoke, builtin, Sem.run_bind, Sem.run_pure, Result.andThen_ok, List.map_toArray, List.map_cons, List.map_nil, hs, hx, hr]
    exact hK _ _ h
theorem own_fresh (w : World) (base : Nat) (h : base ≤ w.heap.size) : (w.alloc (.cells #[] 3)).ownsRow base 3 1 (.slice (some ⟨w.heap.size, 0, none⟩) 0 0) 0 [] :=
  ⟨rfl, .inr ⟨w.heap.size, 0, #[], rfl, h, World.alloc_heap_new _ _, Nat.le_refl _, Nat.zero_le _, rfl, rfl⟩⟩
theorem cells_rowI {l : List Int} {w W : World} {g : Nat} {sp : Option Addr} (h : Lies w sp g 0 l) (hB : Below w.heap.size w W) :
    ∀ j u, (rowI l)[j]? = some u → W.cell? ((⟨g, 0, none⟩ : Addr).add j) = some u := by
  intro j u hu
  have hj : j < l.length := by
    have := (List.getElem?_eq_some_iff.1 hu).1
    simpa [rowI] using this
  rw [rowI_get l j hj] at hu
  rw [Addr.add_lit, hB.cell (p := ⟨g, 0 + j, none⟩) (h.1 (by omega)).2, h.2 j hj]
  exact hu
theorem rowI_one (l : List Int) : ∀ u ∈ rowI l, u.oneCell' = true := by
  intro u hu; unfold rowI at hu; simp at hu; obtain ⟨x, _, rfl⟩ := hu; rfl
theorem head_nth (l : List Nat) (h : 0 < l.length) : nth (ints l) 0 = ((l.headD 0 : Nat) : Int) := by
  cases l with
  | nil => simp at h
  | cons a l => rfl

set_option maxHeartbeats 4000000 in
theorem law_sets (sl : Option Addr) (bl offl cl : Nat) (l : List Int) (x : BitVec 32) (n : Int) (w : World) (ht : Tab w) (hl : l.length ≤ 9223372036854775807) (h : Lies w sl bl offl l) :
    Calls Tryd.prog 3 #[.slice sl l.length cl, .int .u32 (w32 x), .int .i64 n] w fun e w' => e = .returned (.bool true) ∧ Below w.heap.size w w' := by
  by_cases hn : 1000 < l.length
  · have h1 : ((1000 : Int) < (l.length : Int)) := by omega
    go_enter Tryd.func3, Tryd.ntmps3
    go_wp2
    go_ret
    exact ⟨rfl, Below.refl _ _⟩
  have h1 : ((1000 : Int) < (l.length : Int)) = False := by simp; omega
  obtain ⟨i0, hi, hz0, hz1, hz2⟩ := info_parts info3
  have hp := Lib.hid ht.pos
  have HT := Lib.hid ht
  have HLies := Lib.hid h
  clear ht h
  go_enter Tryd.func3, Tryd.ntmps3
  go_wp2_with fail
  refine (list_any x w).mono ?_
  rintro e w1 ⟨v, rfl, hown, hb1⟩
  obtain ⟨L, hL⟩ : ∃ L, L = ints (lst x 32) := ⟨_, rfl⟩
  have hlen : (lst x 32).length = L.length := by rw [hL]; unfold ints; simp
  rw [← hL, hlen] at hown
  obtain ⟨sp, g, cap, rfl, hlies, hg⟩ := own_lies hown
  have h32 : L.length ≤ 32 := by rw [← hlen]; exact lst_len x 32
  have T1 := HT.out.below hp.out hb1
  have CF := first_any x w1 T1
  have hhd : ∀ (_ : 0 < L.length), nth L 0 = (((lst x 32).headD 0 : Nat) : Int) := fun h0 => by rw [hL]; exact head_nth _ (by omega)
  rw [hlen] at CF
  have CF := Lib.hid CF
  have HHD := Lib.hid hhd
  have HLS := Lib.hid hlies
  have HB1 := Lib.hid hb1
  have HG := Lib.hid hg
  have CW : ofR (L ++ [n]) = x ||| onl n := by rw [hL]; exact with_eq x n
  have CH : decide (n ∈ ints (lst x 32)) = decide (n ∈ L) := by rw [hL]
  have CW := Lib.hid CW
  have CH := Lib.hid CH
  have CLen := Lib.hid hlen
  have C2 := Lib.hid (show Below w1.heap.size w1 (w1.alloc (.cells #[] 3)) from (Below.refl _ _).alloc (Nat.le_refl _) _)
  clear hlies hb1 hown hg hlen hL T1 hhd
  obtain ⟨hd, hhd⟩ : ∃ hd : Int, (((lst x 32).headD 0 : Nat) : Int) = hd := ⟨_, rfl⟩
  rw [hhd] at CF HHD
  have HEMP := Lib.hid (fun (h0 : L.length = 0) => show hd = 0 by
    have h2 := CLen.out
    rw [h0] at h2
    rw [← hhd, List.eq_nil_of_length_eq_zero h2]; rfl)
  clear hhd
  by_cases hemp : L.length = 0
  · obtain rfl : L = [] := List.eq_nil_of_length_eq_zero hemp
    have hd0 : decide (0 < ([] : List Int).length) = false := by decide
    rw [hd0] at CF
    have hL0 : ([] : List Int).length = 0 := rfl
    rw [hL0]
    have hhd0 : hd = 0 := HEMP.out rfl
    subst hhd0
    go_wp2_with fail
    refine CF.out.mono ?_
    rintro e w2 ⟨rfl, rfl⟩
    go_wp2_with (first
      | (at_builtin; refine wpList_append_zero rfl (.tmp 29) (.tmp 30) 22 rfl 3 i0 Tryd.underlying22 hi _ 0 rfl sp cap rfl ?_)
      | (at_builtin; refine wpList_append_own _ rfl (.tmp 31) (.tmp 33) 22 rfl w1.heap.size 3 i0 (.int .i64 0) 1 8 Tryd.underlying22 hi hz0 hz1 hz2 rfl Nat.one_pos _ 0 [] rfl ((own_fresh w1 w1.heap.size (Nat.le_refl _)).alloc _) ⟨w1.heap.size + 1, 0, none⟩ 1 1 [.int .i64 n] rfl rfl (by have := cell_one_new (w1.alloc (.cells #[] 3)) (.int .i64 n) 3; rwa [World.size_alloc] at this) (one_cell _) (by decide) (by decide) (by simp; omega) ?_; intro v3 w3 hown3 hg3 _))
    have HO3 := Lib.hid (show w3.ownsRow w1.heap.size 3 1 v3 ([] ++ [n] : List Int).length (rowI ([] ++ [n])) from hown3)
    have HB3 := Lib.hid (show Below w1.heap.size w1 w3 from Below.grown (Below.alloc C2.out C2.out.size _) hg3 (by simp; omega) (fun j e => by cases e; simp))
    clear hown3 hg3
    obtain ⟨sp3, g3, cap3, rfl, hlies3, hg3⟩ := own_lies HO3.out
    have CO := Lib.hid (refof_any sp3 g3 0 cap3 (([] : List Int) ++ [n]) w3 (by simp; try omega) hlies3)
    rw [CW.out] at CO
    clear hlies3 hg3
    go_wp2_with fail
    refine CO.out.mono ?_
    rintro e w4 ⟨rfl, rfl⟩
    go_wp2_with fail
    refine (between_any x (-1) n _).mono ?_
    rintro e w5 ⟨rfl, hb5⟩
    have B5 := Lib.hid (HB3.out.trans (hb5.mono HB3.out.size))
    clear hb5
    go_wp2_with fail
    refine (between_any x n 32 _).mono ?_
    rintro e w6 ⟨rfl, hb6⟩
    have B6 := Lib.hid (B5.out.trans (hb6.mono B5.out.size))
    clear hb6
    have ha := add32 (btw x (-1) n) (btw x n 32)
    by_cases hneg : n < 0
    · have hwo : w32 (x &&& ~~~onl n) = w32 x := by rw [without_neg x n hneg]
      have B6w := Lib.hid (HB1.out.trans (B6.out.mono HB1.out.size))
      have CO1 := Lib.hid (of_any sl bl offl cl l w6 hl (HLies.out.below B6w.out (fun h0 => (HLies.out.1 h0).2)))
      have CO2 := Lib.hid (refof_any sl bl offl cl l w6 hl (HLies.out.below B6w.out (fun h0 => (HLies.out.1 h0).2)))
      have CI := Lib.hid (in_any sp g 0 cap ([] : List Int) n w6 (by decide) (HLS.out.below B6.out (fun h0 => (HLS.out.1 h0).2)))
      have CHas := Lib.hid (has_any x n w6)
      have hol : w32 (ofL l) = w32 (ofR l) := by rw [ofL_eq]
      rw [CH.out] at CHas
      go_wp2_with fail
      refine CO1.out.mono ?_
      rintro e w7 ⟨rfl, rfl⟩
      go_wp2_with fail
      refine CO2.out.mono ?_
      rintro e w7 ⟨rfl, rfl⟩
      go_wp2_with fail
      refine CHas.out.mono ?_
      rintro e w7 ⟨rfl, rfl⟩
      go_wp2_with fail
      refine CI.out.mono ?_
      rintro e w7 ⟨rfl, rfl⟩
      go_wp2_with fail
      refine (with_any x n _).mono ?_
      rintro e w7 ⟨rfl, rfl⟩
      go_wp2_with fail
      refine (without_any x n _).mono ?_
      rintro e w7 ⟨rfl, rfl⟩
      go_wp2_with fail
      refine (len_any x _).mono ?_
      rintro e w8 ⟨rfl, hb8⟩
      rw [CLen.out]
      have B8 := Lib.hid (B6w.out.trans (hb8.mono B6w.out.size))
      clear hb8
      go_wp2_with fail
      refine (alive_any _ (HT.out.below hp.out B8.out)).mono ?_
      rintro e w9 ⟨rfl, hb9⟩
      have B9 := Lib.hid (B8.out.trans (hb9.mono B8.out.size))
      clear hb9
      go_wp2
      go_ret
      exact ⟨rfl, B9.out⟩
    · have hwo : w32 (x &&& ~~~onl n) = w32 (btw x (-1) n + btw x n 32) := by rw [without_eq x n (by omega)]
      have B6w := Lib.hid (HB1.out.trans (B6.out.mono HB1.out.size))
      have CO1 := Lib.hid (of_any sl bl offl cl l w6 hl (HLies.out.below B6w.out (fun h0 => (HLies.out.1 h0).2)))
      have CO2 := Lib.hid (refof_any sl bl offl cl l w6 hl (HLies.out.below B6w.out (fun h0 => (HLies.out.1 h0).2)))
      have CI := Lib.hid (in_any sp g 0 cap ([] : List Int) n w6 (by decide) (HLS.out.below B6.out (fun h0 => (HLS.out.1 h0).2)))
      have CHas := Lib.hid (has_any x n w6)
      have hol : w32 (ofL l) = w32 (ofR l) := by rw [ofL_eq]
      rw [CH.out] at CHas
      go_wp2_with fail
      refine CO1.out.mono ?_
      rintro e w7 ⟨rfl, rfl⟩
      go_wp2_with fail
      refine CO2.out.mono ?_
      rintro e w7 ⟨rfl, rfl⟩
      go_wp2_with fail
      refine CHas.out.mono ?_
      rintro e w7 ⟨rfl, rfl⟩
      go_wp2_with fail
      refine CI.out.mono ?_
      rintro e w7 ⟨rfl, rfl⟩
      go_wp2_with fail
      refine (with_any x n _).mono ?_
      rintro e w7 ⟨rfl, rfl⟩
      go_wp2_with fail
      refine (without_any x n _).mono ?_
      rintro e w7 ⟨rfl, rfl⟩
      go_wp2_with fail
      refine (len_any x _).mono ?_
      rintro e w8 ⟨rfl, hb8⟩
      rw [CLen.out]
      have B8 := Lib.hid (B6w.out.trans (hb8.mono B6w.out.size))
      clear hb8
      go_wp2_with fail
      refine (alive_any _ (HT.out.below hp.out B8.out)).mono ?_
      rintro e w9 ⟨rfl, hb9⟩
      have B9 := Lib.hid (B8.out.trans (hb9.mono B8.out.size))
      clear hb9
      go_wp2
      go_ret
      exact ⟨rfl, B9.out⟩
  · have hpos : 0 < L.length := by omega
    have hd0 : decide (0 < L.length) = true := by simpa using hpos
    rw [hd0] at CF
    have hposI : (0 : Int) < (L.length : Int) := by omega
    obtain ⟨rfl, hgl⟩ := HLS.out.1 hpos
    have hc0 : w1.cell? ⟨g, 0, none⟩ = some (.int .i64 hd) := by rw [← HHD.out hpos]; exact HLS.out.2 0 hpos
    have HN2 := Lib.hid (cells_rowI HLS.out C2.out)
    go_wp2_with fail
    refine CF.out.mono ?_
    rintro e w2 ⟨rfl, rfl⟩
    go_wp2_with (first
      | (at_builtin; refine wpList_append_own _ rfl (.tmp 29) (.tmp 30) 22 rfl w1.heap.size 3 i0 (.int .i64 0) 1 8 Tryd.underlying22 hi hz0 hz1 hz2 rfl Nat.one_pos _ 0 [] rfl (own_fresh w1 w1.heap.size (Nat.le_refl _)) ⟨g, 0, none⟩ L.length cap (rowI L) rfl (by simp [rowI]) HN2.out (rowI_one _) (by unfold maxLen; omega) (by omega) (by simp) ?_; intro v2 w2 hown2 hg2 _; rw [Nat.zero_add, List.nil_append] at hown2; have z2 := hg2.size; rw [World.size_alloc] at z2)
      | (at_builtin; refine wpList_append_own _ rfl (.tmp 31) (.tmp 33) 22 rfl w1.heap.size 3 i0 (.int .i64 0) 1 8 Tryd.underlying22 hi hz0 hz1 hz2 rfl Nat.one_pos _ L.length (rowI L) rfl (hown2.alloc _) ⟨w2.heap.size, 0, none⟩ 1 1 [.int .i64 n] rfl rfl (cell_one_new _ _ _) (one_cell _) (by unfold maxLen; omega) (by omega) (by simp; omega) ?_; intro v3 w3 hown3 hg3 _))
    have HB2 : Below w1.heap.size w1 w2 := Below.grown C2.out hg2 (by simp) (fun j e => by cases e; simp)
    have HO3 := Lib.hid (show w3.ownsRow w1.heap.size 3 1 v3 (L ++ [n]).length (rowI (L ++ [n])) by
      unfold rowI at hown3 ⊢
      rw [List.length_append, List.map_append]; exact hown3)
    have HB3 := Lib.hid (show Below w1.heap.size w1 w3 from Below.grown (Below.alloc HB2 HB2.size _) hg3 (by simp; omega) (fun j e => (hown2.lt j e).1))
    clear hown3 hg3 hown2 hg2 z2 HB2
    obtain ⟨sp3, g3, cap3, rfl, hlies3, hg3⟩ := own_lies HO3.out
    have CO := Lib.hid (refof_any sp3 g3 0 cap3 (L ++ [n]) w3 (by simp; try omega) hlies3)
    rw [CW.out] at CO
    clear hlies3 hg3
    go_wp2_with fail
    refine CO.out.mono ?_
    rintro e w4 ⟨rfl, rfl⟩
    go_wp2_with fail
    refine (between_any x (-1) n _).mono ?_
    rintro e w5 ⟨rfl, hb5⟩
    have B5 := Lib.hid (HB3.out.trans (hb5.mono HB3.out.size))
    clear hb5
    go_wp2_with fail
    refine (between_any x n 32 _).mono ?_
    rintro e w6 ⟨rfl, hb6⟩
    have B6 := Lib.hid (B5.out.trans (hb6.mono B5.out.size))
    clear hb6
    have ha := add32 (btw x (-1) n) (btw x n 32)
    by_cases hneg : n < 0
    · have hwo : w32 (x &&& ~~~onl n) = w32 x := by rw [without_neg x n hneg]
      have B6w := Lib.hid (HB1.out.trans (B6.out.mono HB1.out.size))
      have CO1 := Lib.hid (of_any sl bl offl cl l w6 hl (HLies.out.below B6w.out (fun h0 => (HLies.out.1 h0).2)))
      have CO2 := Lib.hid (refof_any sl bl offl cl l w6 hl (HLies.out.below B6w.out (fun h0 => (HLies.out.1 h0).2)))
      have CI := Lib.hid (in_any (some ⟨g, 0, none⟩) g 0 cap L n w6 (by omega) (HLS.out.below B6.out (fun h0 => (HLS.out.1 h0).2)))
      have CHas := Lib.hid (has_any x n w6)
      have hol : w32 (ofL l) = w32 (ofR l) := by rw [ofL_eq]
      rw [CH.out] at CHas
      go_wp2_with fail
      refine CO1.out.mono ?_
      rintro e w7 ⟨rfl, rfl⟩
      go_wp2_with fail
      refine CO2.out.mono ?_
      rintro e w7 ⟨rfl, rfl⟩
      go_wp2_with fail
      refine CHas.out.mono ?_
      rintro e w7 ⟨rfl, rfl⟩
      go_wp2_with fail
      refine CI.out.mono ?_
      rintro e w7 ⟨rfl, rfl⟩
      go_wp2_with fail
      refine (with_any x n _).mono ?_
      rintro e w7 ⟨rfl, rfl⟩
      go_wp2_with fail
      refine (without_any x n _).mono ?_
      rintro e w7 ⟨rfl, rfl⟩
      go_wp2_with fail
      refine (len_any x _).mono ?_
      rintro e w8 ⟨rfl, hb8⟩
      rw [CLen.out]
      have B8 := Lib.hid (B6w.out.trans (hb8.mono B6w.out.size))
      clear hb8
      go_wp2_with fail
      refine (alive_any _ (HT.out.below hp.out B8.out)).mono ?_
      rintro e w9 ⟨rfl, hb9⟩
      have B9 := Lib.hid (B8.out.trans (hb9.mono B8.out.size))
      clear hb9
      go_wp2
      go_ret
      exact ⟨rfl, B9.out⟩
    · have hwo : w32 (x &&& ~~~onl n) = w32 (btw x (-1) n + btw x n 32) := by rw [without_eq x n (by omega)]
      have B6w := Lib.hid (HB1.out.trans (B6.out.mono HB1.out.size))
      have CO1 := Lib.hid (of_any sl bl offl cl l w6 hl (HLies.out.below B6w.out (fun h0 => (HLies.out.1 h0).2)))
      have CO2 := Lib.hid (refof_any sl bl offl cl l w6 hl (HLies.out.below B6w.out (fun h0 => (HLies.out.1 h0).2)))
      have CI := Lib.hid (in_any (some ⟨g, 0, none⟩) g 0 cap L n w6 (by omega) (HLS.out.below B6.out (fun h0 => (HLS.out.1 h0).2)))
      have CHas := Lib.hid (has_any x n w6)
      have hol : w32 (ofL l) = w32 (ofR l) := by rw [ofL_eq]
      rw [CH.out] at CHas
      go_wp2_with fail
      refine CO1.out.mono ?_
      rintro e w7 ⟨rfl, rfl⟩
      go_wp2_with fail
      refine CO2.out.mono ?_
      rintro e w7 ⟨rfl, rfl⟩
      go_wp2_with fail
      refine CHas.out.mono ?_
      rintro e w7 ⟨rfl, rfl⟩
      go_wp2_with fail
      refine CI.out.mono ?_
      rintro e w7 ⟨rfl, rfl⟩
      go_wp2_with fail
      refine (with_any x n _).mono ?_
      rintro e w7 ⟨rfl, rfl⟩
      go_wp2_with fail
      refine (without_any x n _).mono ?_
      rintro e w7 ⟨rfl, rfl⟩
      go_wp2_with fail
      refine (len_any x _).mono ?_
      rintro e w8 ⟨rfl, hb8⟩
      rw [CLen.out]
      have B8 := Lib.hid (B6w.out.trans (hb8.mono B6w.out.size))
      clear hb8
      go_wp2_with fail
      refine (alive_any _ (HT.out.below hp.out B8.out)).mono ?_
      rintro e w9 ⟨rfl, hb9⟩
      have B9 := Lib.hid (B8.out.trans (hb9.mono B8.out.size))
      clear hb9
      go_wp2
      go_ret
      exact ⟨rfl, B9.out⟩

end Go.Proofs.YtkfaccbabagooaaDoor
