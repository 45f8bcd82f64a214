/- The contract of the law's same: a queue and the reference's, held against each other. -/
import Derived.Test.YtimaihdlaaonbaaDoorRAll
import Derived.BigQuiet
import Derived.Deep.QuietTactic
namespace Go.Proofs.YtimaihdlaaonbaaDoor
open Go.RowKit

/-- The m-th pair's number and level. -/
def aN (L : List (Nat × Nat)) (m : Nat) : Nat := (L.getD m (0, 0)).1
def aL (L : List (Nat × Nat)) (m : Nat) : Nat := (L.getD m (0, 0)).2
theorem flat_at (L : List (Nat × Nat)) (m : Nat) (hm : m < L.length) : nth (flat L) (2 * m) = aN L m ∧ nth (flat L) (2 * m + 1) = aL L m := by
  induction L generalizing m with
  | nil => simp at hm
  | cons x L ih =>
    cases m with
    | zero => exact ⟨rfl, rfl⟩
    | succ m =>
      have h := ih m (by simpa using hm)
      have e1 : nth (flat (x :: L)) (2 * (m + 1)) = nth (flat L) (2 * m) := by
        rw [show 2 * (m + 1) = 2 * m + 1 + 1 by omega]; simp [flat, nth]
      have e2 : nth (flat (x :: L)) (2 * (m + 1) + 1) = nth (flat L) (2 * m + 1) := by
        rw [show 2 * (m + 1) + 1 = 2 * m + 1 + 1 + 1 by omega]; simp [flat, nth]
      exact ⟨e1.trans h.1, e2.trans h.2⟩
def nums (L : List (Nat × Nat)) : List Int := L.map fun x => (x.1 : Int)
theorem nums_snoc (L : List (Nat × Nat)) (m : Nat) (hm : m < L.length) : (nums L).take (m + 1) = (nums L).take m ++ [(aN L m : Int)] := by
  have hl : m < (nums L).length := by unfold nums; simpa using hm
  rw [List.take_succ_eq_append_getElem hl]
  congr 1
  have e : (nums L)[m] = ((L[m]).1 : Int) := List.getElem_map ..
  rw [e]
  unfold aN
  simp [hm]
/-- What is found of a number among the first c pairs. -/
def fl (L : List (Nat × Nat)) (n : Int) : Nat → Nat × Bool
  | 0 => (0, false)
  | c + 1 => if (aN L c : Int) = n then (aL L c, true) else fl L n c
theorem fl_spec (L : List (Nat × Nat)) (n : Int) (c : Nat) : (fl L n c = (0, false) ∧ ∀ m, m < c → (aN L m : Int) ≠ n) ∨ ∃ m, m < c ∧ (aN L m : Int) = n ∧ fl L n c = (aL L m, true) := by
  induction c with
  | zero => left; exact ⟨rfl, fun m hm => by omega⟩
  | succ c ih =>
    unfold fl
    by_cases h : (aN L c : Int) = n
    · rw [if_pos h]; right; exact ⟨c, by omega, h, rfl⟩
    · rw [if_neg h]
      rcases ih with ⟨h1, h2⟩ | ⟨m, hm, h1, h2⟩
      · left
        refine ⟨h1, fun m hm => ?_⟩
        by_cases e : m = c
        · subst e; exact h
        · exact h2 m (by omega)
      · right; exact ⟨m, by omega, h1, h2⟩
theorem mem_at (L : List (Nat × Nat)) (m : Nat) (hm : m < L.length) : (aN L m, aL L m) ∈ L := by
  unfold aN aL
  rw [List.getD_eq_getElem?_getD, List.getElem?_eq_getElem hm]
  exact List.getElem_mem hm
theorem fl_all (q : Nat → Nat) (hb : ∀ i, q i ≤ 32) (n : Int) : fl (allP q 32) n (allP q 32).length = (lvOf q n, inQ q n) := by
  rcases fl_spec (allP q 32) n (allP q 32).length with ⟨h1, h2⟩ | ⟨m, hm, h1, h2⟩
  · rw [h1]
    have e : inQ q n = false := by
      cases hi : inQ q n
      · rfl
      · unfold inQ at hi
        rw [decide_eq_true_iff] at hi
        obtain ⟨g0, g1, g2⟩ := hi
        have hmem : (n.toNat, q n.toNat - 1) ∈ allP q 32 := by rw [mem_allP]; have := hb n.toNat; omega
        obtain ⟨m, hm, he⟩ := List.mem_iff_getElem.1 hmem
        exfalso
        apply h2 m hm
        unfold aN
        rw [List.getD_eq_getElem?_getD, List.getElem?_eq_getElem hm, he]
        simp; omega
    unfold lvOf
    rw [e]; rfl
  · rw [h2]
    have hmem := mem_at (allP q 32) m hm
    rw [mem_allP] at hmem
    obtain ⟨g1, g2, g3⟩ := hmem
    have hd : decide (0 ≤ n ∧ n < 32 ∧ q n.toNat = aL (allP q 32) m + 1) = true := by
      rw [decide_eq_true_iff, ← h1]
      refine ⟨by omega, by omega, ?_⟩
      rw [Int.toNat_natCast]; exact g3
    obtain ⟨e1, e2⟩ := in_yes hd
    rw [e1, e2]
theorem head_at (L : List (Nat × Nat)) : (L.map (·.1)).headD 0 = aN L 0 := by
  cases L <;> rfl

/-- An owned row of ints, as a slice whose cells are known. -/
theorem own_ints {w : World} {base : Nat} {v : Value} {n : Nat} {l : List Int} (h : w.ownsRow base 3 1 v n (rowI l)) (hn : n = l.length) :
    ∃ sp g cap, v = .slice sp n cap ∧ (0 < n → sp = some ⟨g, 0, none⟩ ∧ base ≤ g ∧ g < w.heap.size) ∧ ∀ k, k < n → w.cell? ⟨g, k, none⟩ = some (.int .i64 (nth l k)) := by
  rcases h.2 with ⟨rfl, h0⟩ | ⟨g, cap, cur, rfl, _⟩
  · exact ⟨none, 0, 0, by rw [h0], fun h => by omega, fun k hk => by omega⟩
  · have hl := h.lt g rfl
    refine ⟨some ⟨g, 0, none⟩, g, cap, rfl, fun _ => ⟨rfl, hl.1, hl.2⟩, fun k hk => (h.cellAt k (by omega)).trans ?_⟩
    unfold rowI nth
    rw [List.getElem?_map, List.getElem?_eq_getElem (by omega)]; simp [show k < l.length by omega]

set_option maxHeartbeats 4000000 in
theorem same_any (B : Nat) (q : Nat → Nat) (n : Int) (w : World) (h : QAt w B q) (hb : ∀ i, q i ≤ 32) (ht : Tab w) :
    Calls Tryd.prog 9 #[.pointer (some ⟨B, 0, none⟩), .agg (qs q).toArray, .int .i64 n] w fun e w' => e = .returned (.bool true) ∧ Below w.heap.size w w' := by
  obtain ⟨i0, hi, hz0, hz1, hz2⟩ := info_parts info3
  have hp := ht.pos
  obtain ⟨L, hL⟩ : ∃ L, L = allP q 32 := ⟨_, rfl⟩
  obtain ⟨w1, hw1⟩ : ∃ w1, w1 = w.alloc (.cells (qs q).toArray 30) := ⟨_, rfl⟩
  have bx : w1.heap[w.heap.size]? = some (.cells (qs q).toArray 30 (0, 0)) := by rw [hw1]; exact heap_alloc_new w _
  have b1 : Below w.heap.size w w1 := by rw [hw1]; exact (Below.refl _ _).alloc (Nat.le_refl _) _
  have q1 := h.below b1 h.lt
  have t1 := ht.below hp b1
  have hle := allP_le q 32
  rw [← hL] at hle
  have C18 := Lib.hid (refall_any q hb w1)
  have hhd : headP q = aN L 0 := by unfold headP; rw [← hL]; exact head_at L
  have C11 := Lib.hid (show ∀ wz, Below w1.heap.size w1 wz → Calls Tryd.prog 11 #[.pointer (some ⟨B, 0, none⟩)] wz fun e w' => ∃ v, e = .returned v ∧ w'.ownsRow wz.heap.size 3 1 v (2 * L.length) (rowI (flat L)) ∧ Below wz.heap.size wz w' from
    fun wz hz => by have := allq_any B q wz (q1.below hz q1.lt) (t1.below t1.pos hz); rw [← hL] at this; exact this)
  have C12 := Lib.hid (show ∀ wz, Below w1.heap.size w1 wz → Calls Tryd.prog 12 #[.pointer (some ⟨B, 0, none⟩)] wz fun e w' => e = .returned (.tuple #[.int .i64 (aN L 0), .bool (decide (0 < L.length))]) ∧ wz = w' from
    fun wz hz => by have := first_q B q wz (q1.below hz q1.lt) (t1.below t1.pos hz); rw [← hL, hhd] at this; exact this)
  have C14 := Lib.hid (fun wz (hz : Below w1.heap.size w1 wz) => level_any B q n wz (q1.below hz q1.lt) hb)
  have C13 := Lib.hid (fun wz (hz : Below w1.heap.size w1 wz) => set_any B q wz (q1.below hz q1.lt))
  have hfl := fl_all q hb n
  have hof := ofR_nums q hb
  have hnm : numsP q = nums L := by unfold numsP nums; rw [hL]
  rw [hnm] at hof
  rw [← hL] at C18 hfl
  have HF := Lib.hid (And.intro hfl hof)
  have BX := Lib.hid bx
  have B1 := Lib.hid b1
  clear h ht hp hL bx b1 q1 t1 hfl hhd hof hnm
  go_enter Tryd.func9, Tryd.ntmps9
  have e1 : w.alloc (.cells (qs q).toArray 30) = w1 := hw1.symm
  clear hw1
  go_wp2_with (refine wpList_load_row rfl 30 (.tmp 4) rfl w.heap.size rfl 30 (qs q).toArray (0, 0) _ BX.out Tryd.underlying30 rfl (by rw [info30]; simp [qs_len]) ?_)
  refine C18.out.mono ?_
  rintro e W2 ⟨v1, rfl, hown1, hb2⟩
  obtain ⟨sp1, g1, cp1, rfl, hs1, hc1⟩ := own_ints hown1 (by rw [flat_len])
  clear hown1
  go_wp2_with fail
  refine (C11.out W2 hb2).mono ?_
  rintro e W3 ⟨v2, rfl, hown2, hb3⟩
  obtain ⟨sp2, g2, cp2, rfl, hs2, hc2⟩ := own_ints hown2 (by rw [flat_len])
  obtain ⟨N2, hN2⟩ : ∃ N2, N2 = 2 * L.length := ⟨_, rfl⟩
  have B3 := Lib.hid (hb2.trans (hb3.mono hb2.size))
  have HC := Lib.hid (show ∀ wz : World, Below W3.heap.size W3 wz → ∀ k, k < 2 * L.length → wz.cell? ⟨g1, k, none⟩ = some (.int .i64 (nth (flat L) k)) ∧ wz.cell? ⟨g2, k, none⟩ = some (.int .i64 (nth (flat L) k)) from fun wz hz k hk => by
    obtain ⟨_, _, l1⟩ := hs1 (by omega)
    obtain ⟨_, _, l2⟩ := hs2 (by omega)
    have k2 := hc2 k hk
    have k1 : W3.cell? ⟨g1, k, none⟩ = some (.int .i64 (nth (flat L) k)) := (hb3.cell (p := ⟨g1, k, none⟩) l1).trans (hc1 k hk)
    exact ⟨(hz.cell (p := ⟨g1, k, none⟩) (Nat.lt_of_lt_of_le l1 hb3.size)).trans k1, (hz.cell (p := ⟨g2, k, none⟩) l2).trans k2⟩)
  have HSP := Lib.hid (show 0 < 2 * L.length → sp1 = some ⟨g1, 0, none⟩ ∧ sp2 = some ⟨g2, 0, none⟩ from fun h => ⟨(hs1 h).1, (hs2 h).1⟩)
  clear hown2 hb2 hb3 hs1 hs2 hc1 hc2
  have hne : ((2 * L.length : Nat) : Int) = (N2 : Int) := by rw [hN2]
  rw [← hN2] at HC HSP
  rw [← hN2]
  have HN := Lib.hid hN2
  have hN5 : N2 ≤ 2048 := by omega
  clear hN2 hne hle
  go_wp2_with fail
  go_loopg [9, 10, 11, 12] N2 (fun g s lw iw i wr => ∃ (k c : Nat), k + g = N2 ∧ (k = 2 * c ∨ k + 1 = 2 * c) ∧ i = .int .i64 k ∧ lw = .int .i64 (fl L n c).1 ∧ iw = .bool (fl L n c).2 ∧ wr.ownsRow W3.heap.size 3 1 s c (rowI ((nums L).take c)) ∧ Aside (Below W3.heap.size W3 wr))
  case atStart => exact ⟨0, 0, by omega, .inl rfl, rfl, rfl, rfl, World.ownsRow_nil _ _ _ _, Below.refl _ _⟩
  case round =>
    obtain ⟨k, c, hkg, hkc, rfl, rfl, rfl, hown, HB⟩ := hrel
    obtain ⟨sp, cp, rfl⟩ := own_val hown
    have HO := Lib.hid hown
    clear hown
    cases gk with
    | zero =>
      obtain rfl : k = N2 := by omega
      have hN := HN.out
      obtain rfl : c = L.length := by omega
      have hnl : (nums L).length = L.length := by unfold nums; simp
      have hown := HO.out
      rw [← hnl, List.take_length] at hown
      rw [hnl] at hown
      obtain ⟨sp3, g3, cp3, hv3, hs3, hc3⟩ := own_ints hown hnl.symm
      injection hv3 with e1 e2 e3
      subst e1; subst e3
      have BW1 := Lib.hid (B3.out.trans (HB.out.mono B3.out.size))
      have h19 := refof_any sp g3 0 cp (nums L) wr (by omega) ⟨fun h0 => by rw [hnl] at h0; exact ⟨(hs3 h0).1, (hs3 h0).2.2⟩, fun j hj => by rw [Nat.zero_add]; exact hc3 j (by omega)⟩
      rw [hnl, HF.out.2] at h19
      have C19 := Lib.hid h19
      have FIN := Lib.hid (B1.out.trans (BW1.out.mono B1.out.size))
      rw [HF.out.1]
      clear h19 hown hs3 hc3 hnl e2
      by_cases h0 : 0 < L.length
      · have hd : decide (0 < L.length) = true := by simpa using h0
        rw [hd] at C12
        obtain ⟨rfl, rfl⟩ := HSP.out (by omega)
        have hx1 := (HC.out wr HB.out 0 (by omega)).1
        have hat := (flat_at L 0 h0).1
        rw [show 2 * 0 = 0 from rfl] at hat
        rw [hat] at hx1
        have hpos : (0 : Int) < ((2 * L.length : Nat) : Int) := by omega
        rw [← hN] at hpos
        clear hd h0 hat hN
        go_wp2_with fail
        refine (C12.out wr BW1.out).mono ?_
        rintro e w5 ⟨rfl, rfl⟩
        go_wp2_with fail
        refine (C14.out wr BW1.out).mono ?_
        rintro e w6 ⟨rfl, rfl⟩
        go_wp2_with fail
        refine (C13.out wr BW1.out).mono ?_
        rintro e w7 ⟨rfl, rfl⟩
        go_wp2_with fail
        refine (C19.out).mono ?_
        rintro e w8 ⟨rfl, rfl⟩
        go_wp2
        go_ret
        exact ⟨rfl, FIN.out⟩
      · have hd : decide (0 < L.length) = false := by simpa using h0
        rw [hd] at C12
        have hz : L = [] := List.eq_nil_of_length_eq_zero (by omega)
        have ha : (aN L 0 : Int) = 0 := by rw [hz]; rfl
        obtain rfl : k = 0 := by omega
        rw [ha] at C12
        clear hd h0 hz ha hN
        go_wp2_with fail
        refine (C12.out wr BW1.out).mono ?_
        rintro e w5 ⟨rfl, rfl⟩
        go_wp2_with fail
        refine (C14.out wr BW1.out).mono ?_
        rintro e w6 ⟨rfl, rfl⟩
        go_wp2_with fail
        refine (C13.out wr BW1.out).mono ?_
        rintro e w7 ⟨rfl, rfl⟩
        go_wp2_with fail
        refine (C19.out).mono ?_
        rintro e w8 ⟨rfl, rfl⟩
        go_wp2
        go_ret
        exact ⟨rfl, FIN.out⟩
    | succ m1 =>
      have hk : k < N2 := by omega
      have hli : (k : Int) < (N2 : Int) := by omega
      have hl0 : (0 : Int) ≤ (k : Int) := by omega
      obtain ⟨rfl, rfl⟩ := HSP.out (by omega)
      obtain ⟨X, hX⟩ : ∃ X, X = nth (flat L) k := ⟨_, rfl⟩
      obtain ⟨hx1, hx2⟩ := HC.out wr HB.out k hk
      rw [← hX] at hx1 hx2
      have HXX := Lib.hid hX
      have HKC := Lib.hid hkc
      clear hX
      rcases hkc with hkc | hkc
      · have hN := HN.out
        have hc : c < L.length := by omega
        have e2 : ((k : Int) % 2 == 0) = true := by rw [beq_iff_eq]; omega
        have hat := flat_at L c hc
        rw [← hkc] at hat
        have hXa : X = (aN L c : Int) := HXX.out.trans hat.1
        obtain ⟨hy1, _⟩ := HC.out wr HB.out (k + 1) (by omega)
        rw [hat.2] at hy1
        have hs := nums_snoc L c hc
        have HS := Lib.hid hs
        have HK1 := Lib.hid (show k + 1 < N2 by omega)
        have HAT := Lib.hid hat.2
        have HCC := Lib.hid (And.intro hN (And.intro hkc hc))
        have hk1 : (k : Int) + 1 < (N2 : Int) := by omega
        have hc5 : c ≤ 1024 := by omega
        have HFL := Lib.hid (show fl L n (c + 1) = if X = n then (aL L c, true) else fl L n c by rw [hXa]; rfl)
        have HXa := Lib.hid hXa
        clear hkc hN hc hat hs hXa
        by_cases hn : X = n
        · have hbn : (X == n) = true := by simpa using hn
          have HFN := Lib.hid (show fl L n (c + 1) = (aL L c, true) by rw [HFL.out, if_pos hn])
          clear hn
          go_wp2
          go_quiet (fail)
          have HOq : (wr.drewN nq).ownsRow W3.heap.size 3 1 (.slice sp c cp) c (rowI ((nums L).take c)) := HO.out
          have HBq : Below W3.heap.size W3 (wr.drewN nq) := HB.out.trans ⟨rfl, rfl, rfl, Nat.le_refl _, fun _ _ => rfl⟩
          have HQ := Lib.hid (And.intro HOq HBq)
          clear HOq HBq
          go_wp2_with (at_builtin; refine wpList_append_own _ rfl (.tmp 45) (.tmp 50) 41 rfl W3.heap.size 3 i0 (.int .i64 0) 1 8 Tryd.underlying41 hi hz0 hz1 hz2 rfl Nat.one_pos _ c (rowI ((nums L).take c)) rfl (HQ.out.1.alloc _) ⟨wr.heap.size, 0, none⟩ 1 1 [.int .i64 X] rfl rfl (cell_one_new _ _ _) (by simp [Value.oneCell']) (by unfold maxLen; omega) (by omega) (by rw [World.size_alloc]; exact Nat.le_succ_of_le HQ.out.2.size) ?_; intro v4 w4 hown4 hg4 _; obtain ⟨sp4, cp4, rfl⟩ := own_val hown4; have hb4 := Below.grown (Below.alloc HQ.out.2 HQ.out.2.size _) hg4 (by rw [World.size_alloc]; exact Nat.le_succ_of_le HQ.out.2.size) (fun j e => (HQ.out.1.lt j e).1); have hz1 := (HC.out w4 hb4 k hk).1; have hz2' := (HC.out w4 hb4 (k + 1) HK1.out).1; rw [← HXX.out] at hz1; rw [HAT.out] at hz2'; have HO4 := Lib.hid (And.intro hown4 hb4); clear hown4 hg4 hb4)
          go_roundg m1
          case measure => omega
          case rel =>
            refine ⟨k + 1, c + 1, by omega, .inr (by have := HCC.out; omega), by go_num, by rw [HFN.out], by rw [HFN.out], ?_, HO4.out.2⟩
            have h := HO4.out.1
            rw [HXa.out] at h
            rw [HS.out]
            unfold rowI at h ⊢
            rw [List.map_append]
            exact h
        · have hbn : (X == n) = false := by simpa using hn
          have HFN := Lib.hid (show fl L n (c + 1) = fl L n c by rw [HFL.out, if_neg hn])
          clear hn
          go_wp2
          go_quiet (fail)
          have HOq : (wr.drewN nq).ownsRow W3.heap.size 3 1 (.slice sp c cp) c (rowI ((nums L).take c)) := HO.out
          have HBq : Below W3.heap.size W3 (wr.drewN nq) := HB.out.trans ⟨rfl, rfl, rfl, Nat.le_refl _, fun _ _ => rfl⟩
          have HQ := Lib.hid (And.intro HOq HBq)
          clear HOq HBq
          go_wp2_with (at_builtin; refine wpList_append_own _ rfl (.tmp 45) (.tmp 50) 41 rfl W3.heap.size 3 i0 (.int .i64 0) 1 8 Tryd.underlying41 hi hz0 hz1 hz2 rfl Nat.one_pos _ c (rowI ((nums L).take c)) rfl (HQ.out.1.alloc _) ⟨wr.heap.size, 0, none⟩ 1 1 [.int .i64 X] rfl rfl (cell_one_new _ _ _) (by simp [Value.oneCell']) (by unfold maxLen; omega) (by omega) (by rw [World.size_alloc]; exact Nat.le_succ_of_le HQ.out.2.size) ?_; intro v4 w4 hown4 hg4 _; obtain ⟨sp4, cp4, rfl⟩ := own_val hown4; have hb4 := Below.grown (Below.alloc HQ.out.2 HQ.out.2.size _) hg4 (by rw [World.size_alloc]; exact Nat.le_succ_of_le HQ.out.2.size) (fun j e => (HQ.out.1.lt j e).1); have hz1 := (HC.out w4 hb4 k hk).1; have hz2' := (HC.out w4 hb4 (k + 1) HK1.out).1; rw [← HXX.out] at hz1; rw [HAT.out] at hz2'; have HO4 := Lib.hid (And.intro hown4 hb4); clear hown4 hg4 hb4)
          go_roundg m1
          case measure => omega
          case rel =>
            refine ⟨k + 1, c + 1, by omega, .inr (by have := HCC.out; omega), by go_num, by rw [HFN.out], by rw [HFN.out], ?_, HO4.out.2⟩
            have h := HO4.out.1
            rw [HXa.out] at h
            rw [HS.out]
            unfold rowI at h ⊢
            rw [List.map_append]
            exact h
      · have e2 : ((k : Int) % 2 == 0) = false := by rw [beq_eq_false_iff_ne]; omega
        go_wp2
        go_quiet (fail)
        go_wp2
        go_roundg m1
        case measure => omega
        case rel => exact ⟨k + 1, c, by omega, .inl (by omega), by go_num, rfl, rfl, HO.out, HB.out.trans ⟨rfl, rfl, rfl, Nat.le_refl _, fun _ _ => rfl⟩⟩
end Go.Proofs.YtimaihdlaaonbaaDoor
