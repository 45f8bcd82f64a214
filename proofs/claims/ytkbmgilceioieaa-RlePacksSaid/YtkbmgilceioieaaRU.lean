/- The contract of told: the words that the groups of packed words tell. -/
import Derived.Test.YtkbmgilceioieaaRT
import Derived.Test.YtkbmgilceioieaaRP
import Derived.Test.YtkbmgilceioieaaBq
import Derived.Test.YtkbmgilceioieaaBr
namespace Go.Proofs.Ytkbmgilceioieaa
open Go.RowKit
attribute [local go_sem] Oper.semAt_some

theorem gN_le {l : List Nat} (hb : ∀ x ∈ l, x < 4294967296) {k : Nat} (hk : k < (parse l).1.length) : gN l k ≤ 4096 := by
  have h := g_round hb hk
  omega
theorem toldK_len (l : List Nat) (hb : ∀ x ∈ l, x < 4294967296) (k : Nat) (hk : k ≤ (parse l).1.length) : (toldK l k).length ≤ 4096 * k := by
  induction k with
  | zero => simp [toldK_zero]
  | succ k ih =>
    obtain ⟨g, hg, e1, -⟩ := g_at (show k < (parse l).1.length by omega)
    have := gN_le hb (show k < (parse l).1.length by omega)
    rw [toldK_succ l k g hg, List.length_append]
    have := ih (by omega)
    omega
theorem posG_ge (l : List Nat) (k : Nat) (hk : k ≤ (parse l).1.length) : k ≤ posG l k := by
  induction k with
  | zero => omega
  | succ k ih =>
    obtain ⟨g, hg, -, e2⟩ := g_at (show k < (parse l).1.length by omega)
    have h1 := posG_succ l k g hg
    have h2 : 0 < g.enc.length := List.length_pos_iff.2 (enc_ne g)
    have := ih (by omega)
    omega
theorem parse_len (l : List Nat) : (parse l).1.length ≤ l.length := by
  have h := posG_ge l _ (Nat.le_refl _)
  have h1 := congrArg List.length (parse_enc l).1
  rw [List.length_append] at h1
  unfold posG at h
  rw [List.take_length] at h
  omega

/-- A round's words. -/
theorem g_told {l : List Nat} {k : Nat} (hk : k < (parse l).1.length) :
    ∃ zs, toldK l (k + 1) = toldK l k ++ zs ∧ zs.length = gN l k ∧
      ((2147483648 ≤ nthW l (posG l k) ∧ gE l k = 2 ∧ posG l k + 1 < l.length ∧ zs = List.replicate (gN l k) (nthW l (posG l k + 1))) ∨
       (nthW l (posG l k) < 2147483648 ∧ gE l k = 1 + gN l k ∧ posG l k + 1 + gN l k ≤ l.length ∧ zs = (l.drop (posG l k + 1)).take (gN l k))) := by
  obtain ⟨g, hg, e1, e2⟩ := g_at hk
  obtain ⟨h1, h2, h3, h4, -, -⟩ := grp_at l k g hg
  refine ⟨g.told, toldK_succ l k g hg, e1.symm, ?_⟩
  rw [drop_head h3, parse1_cons] at h1
  split at h1
  · rename_i hx
    refine .inl ⟨hx, ?_⟩
    have hl : posG l k + 1 < l.length := by
      apply Classical.byContradiction
      intro hn
      rw [List.drop_of_length_le (by omega)] at h1
      cases h1
    rw [drop_head hl, parseR_cons] at h1
    split at h1
    · injection h1 with h1; injection h1 with h1 h5
      subst h1
      exact ⟨e2, hl, by rw [e1]; simp [Grp.told]⟩
    · cases h1
  · rename_i hx
    refine .inr ⟨by omega, ?_⟩
    split at h1
    · rename_i hn
      injection h1 with h1; injection h1 with h1 h5
      subst h1
      have hlt : ((l.drop (posG l k + 1)).take (nthW l (posG l k))).length = nthW l (posG l k) := by rw [List.length_take]; omega
      have e3 : gN l k = nthW l (posG l k) := by rw [e1]; exact hlt
      rw [List.length_drop] at hn
      exact ⟨by rw [e2, e3]; simp only [Grp.enc, List.length_cons, hlt]; omega, by omega, by rw [e3]; rfl⟩
    · cases h1

set_option maxHeartbeats 2000000 in
set_option maxRecDepth 100000 in
theorem told_any (l : List Nat) (sp : Option Addr) (b off cap : Nat) (w : World) (hl : SL w sp b off l) (hcap : l.length ≤ cap) (hlen : l.length ≤ 100000) (hb : ∀ x ∈ l, x < 4294967296) :
    Calls Try.prog 62 #[.slice sp l.length cap] w fun e w' => ∃ v, e = .returned v ∧ w'.ownsRow w.heap.size 27 1 v (toldG (parse l).1).length (rowW (toldG (parse l).1)) ∧ Below w.heap.size w w' := by
  refine (callsIn_wide (n := 0)).1 ?_
  obtain ⟨i0, hi, hz0, hz1, hz2⟩ := info_parts info27
  refine callsIn_of_wp_marks Try.func62 rfl trivial ?_ rfl
  simp only [Try.ntmps62, List.size_toArray, List.length_cons, List.length_nil, Nat.reduceAdd, Nat.reduceSub, Array.replicate_succ, Array.replicate_zero, List.push_toArray, List.append_toArray, List.nil_append, List.cons_append]
  gi_wp2_with (refine ⟨trivial, rfl, ?_⟩; gi_at_call 78; refine (callsIn_wide.2 (Groups_any _ _ _ _)).mono ?_; rintro e w' ⟨rfl, rfl⟩)
  obtain ⟨Oc, hOc⟩ : ∃ Oc, Oc = w.heap.size := ⟨_, rfl⟩
  generalize hw2 : World.alloc (World.alloc w _) _ = w2
  have z2 : w2.heap.size = Oc + 2 := by rw [← hw2, hOc]; simp
  have b2 : Below w.heap.size w w2 := by rw [← hw2]; exact ((Below.refl _ w).alloc (Nat.le_refl _) _).alloc (by simp) _
  have o2 : w2.cell? ⟨Oc, 0, none⟩ = some (.slice none 0 0) ∧ w2.frozen? ⟨Oc, 0, none⟩ = false ∧ w2.cell? ⟨Oc + 1, 0, none⟩ = some (.slice sp l.length cap) := by rw [← hw2, hOc]; simp [go_sem]
  rw [← hOc]
  have HOc := Lib.hid hOc
  have hIO : IO w Oc Oc (.slice none 0 0) (toldK l 0) w2 := by
    refine ⟨Ch.new b2, _, o2.1, o2.2.1, ?_, fun j hj => .inl hj⟩
    rw [toldK_zero]
    exact World.ownsRow_nil _ _ _ _
  have HH := Lib.hid (And.intro hOc.symm (And.intro z2 (And.intro hIO (And.intro o2.2.2 b2))))
  have HL := Lib.hid hl
  have HB := Lib.hid hb
  have hlb : 0 < l.length → b < Oc := fun h0 => by rw [hOc]; exact hl.lt h0
  have HLB := Lib.hid hlb
  clear hw2 z2 b2 o2 hIO hl hOc hlb
  refine wpIn_rangeF (gf := 87) (lb := #[.pointer (some ⟨Oc + 1, 0, none⟩)]) rfl (enters_of Try.func87 (by kernel_rfl) rfl)
    (parse l).1.length (fun k => #[.int .i64 (gN l k), .slice (some ⟨b, off + posG l k, none⟩) (gE l k) (gE l k)]) (fun _ => rfl) (FO Oc)
    (fun k W => IO w Oc Oc (.slice none 0 0) (toldK l k) W) (fun _ _ _ => False)
    (fun k => IO.foot HH.out.1) (fun _ _ => ⟨fun _ h => h.elim, fun _ _ h => h.elim⟩) HH.out.2.2.1
    (fun k a' _ => a' = { tmps := #[.slice sp l.length cap, undef, .slice none 0 0, .pointer (some ⟨Oc, 0, none⟩), .int .i64 (gN l k), .slice (some ⟨b, off + posG l k, none⟩) (gE l k) (gE l k), undef, undef, .slice sp l.length cap, .func (.func 87) #[] #[.pointer (some ⟨Oc + 1, 0, none⟩)], .int .i64 (gN l k), .slice (some ⟨b, off + posG l k, none⟩) (gE l k) (gE l k), undef, undef, undef, undef, undef, undef, undef, undef, undef, undef, undef, undef, undef, undef], defers := [] })
    (fun _ _ _ _ h _ => h) ?hit ?assign ?body ?done (fun _ _ _ _ h => h.elim)
  case hit =>
    intro J' Jx' W1 h1 h2 h3 h4 h5 h6 h7 h8
    rw [HH.out.2.1] at h1 h2 h3 h4 h5 h6 h7 ⊢
    exact groups_in _ (Oc + 1) l sp b off cap _ J' Jx' W1 ((h2.cell (p := ⟨Oc + 1, 0, none⟩) (show Oc + 1 < Oc + 2 by omega)).trans HH.out.2.2.2.1) hcap hlen HB.out
      (fun k W' hJ => by obtain ⟨⟨hc, -⟩, -⟩ := h3 k W' hJ; exact HL.out.ch hc (fun _ h => by cases h)) h7 h5 h8
  case assign =>
    intro k W K hi hk hK
    gi_wp2
    exact hK _ _ rfl (Ch.refl _ _) hi (fun _ h => h)
  case body =>
    rintro k a' W ⟨h2, v, h3, h4, h5, h6⟩ hk rfl hz
    rw [HH.out.2.1] at hz
    obtain ⟨zs, hzs, hzl, hcase⟩ := g_told hk
    obtain ⟨hp1, hpl, hp2, -, hn4, -⟩ := g_round HB.out hk
    have hgn := gN_le HB.out hk
    have hyk := toldK_len l HB.out k (by omega)
    have hpk := parse_len l
    obtain ⟨Y, hY⟩ : ∃ Y, toldK l k = Y := ⟨_, rfl⟩
    rw [hY] at h5 hyk
    obtain ⟨sp1, cap1, rfl⟩ := own_val h5
    have HE := Lib.hid (show toldK l (k + 1) = Y ++ zs by rw [hzs, hY])
    obtain ⟨pp, hpp⟩ : ∃ pp, posG l k = pp := ⟨_, rfl⟩
    obtain ⟨nn, hnn⟩ : ∃ nn, gN l k = nn := ⟨_, rfl⟩
    obtain ⟨ss, hss⟩ : ∃ ss, gE l k = ss := ⟨_, rfl⟩
    rw [hpp] at hpl hcase hn4 hp1
    rw [hnn] at hgn hzl hcase
    rw [hss] at hcase hp1
    rw [hpp, hnn, hss]
    have hsl := HL.out.ch h2 (fun _ h => by cases h)
    have c0 := hsl.2 pp hpl
    obtain ⟨x, hx⟩ : ∃ x, nthW l pp = x := ⟨_, rfl⟩
    rw [hx] at c0 hcase hn4
    have HBB := Lib.hid (show Y.length + nn ≤ maxLen ∧ (Y.length + nn) * 4 ≤ 140737488355328 by unfold maxLen; omega)
    have HZL := Lib.hid (show (rowW zs).length = nn * 1 by rw [rowW_len, hzl]; omega)
    have H2 := Lib.hid h2
    have H5 := Lib.hid h5
    have H6 := Lib.hid h6
    have HC := Lib.hid (And.intro h3 h4)
    have HS := Lib.hid hsl
    have HZZ := Lib.hid (show Oc + 3 ≤ W.heap.size by omega)
    clear h2 h5 h6 hzs hY hpp hnn hss hsl hx hyk hpk hp1 hp2 hn4
    rcases hcase with ⟨d1, rfl, hq, hze⟩ | ⟨d1, hse, hq, hze⟩
    · have c1 := HS.out.2 (pp + 1) hq
      have HC1 := Lib.hid c1
      have d2 : decide ((2147483648 : Int) ≤ (x : Int)) = true := by simp; omega
      clear d1 c1
      have HZ := Lib.hid (And.intro hze hzl)
      clear hze hzl
      gi_wp2
      refine wpIn_region_quiet0 (by kernel_rfl) (by kernel_rfl) (by kernel_rfl) (fun _ _ h => h) ?_
      repeat (quiet_step (fail))
      refine wpQuiet_nil ?_
      intro _ hw1
      obtain ⟨nq, hw2⟩ := hw1
      subst hw2
      have HREP := Lib.hid (repeat_any (nthW l (pp + 1)) nn b (off + pp + 1) 1 (W.drewN nq) HC1.out hgn)
      gi_wp2_with (first
        | (refine ⟨trivial, rfl, ?_⟩; gi_at_call 44; refine (CallsIn.inRound _ (callsIn_wide.2 HREP.out)).mono ?_; rintro e w5 ⟨rfl, hs5, hb5⟩; have hv5 : Ch (fun _ => False) W w5 := Ch.then_below ((Ch.refl _ W).drewN nq) hb5; have HV := Lib.hid hv5; have e5 : w5.cell? ⟨Oc, 0, none⟩ = some (.slice sp1 Y.length cap1) := hv5.cell HC.out.1 (fun h => h); have e6 : w5.frozen? ⟨Oc, 0, none⟩ = false := (hv5.frozenCell HC.out.1 (fun h => h)).trans HC.out.2; have HOWN := Lib.hid (own_ch H5.out hv5 (fun _ _ h => h)); have HSZ := Lib.hid (show Oc ≤ w5.heap.size from Nat.le_trans (Nat.le_trans (Nat.le_add_right Oc 3) HZZ.out) hv5.size); have HZC := Lib.hid (show ∀ j u, (rowW zs)[j]? = some u → w5.cell? ((⟨W.heap.size, 0, none⟩ : Addr).add j) = some u by rw [HZ.out.1]; exact hs5.cells); clear hs5 hb5 hv5 h3 h4)
        | (gi_at_builtin; refine wpListIn_append_at _ rfl (.tmp 22) (.tmp 23) 25 rfl Oc 27 i0 (.int .u32 0) 1 4 Try.underlying25 hi hz0 hz1 hz2 rfl (by decide) _ _ _ rfl HOWN.out ⟨W.heap.size, 0, none⟩ nn nn (rowW zs) rfl HZL.out HZC.out (rowW_one _) HBB.out.1 HBB.out.2 HSZ.out ?_; intro v3 w3 hown3 hgrow3 hat3; obtain ⟨sp3, cap3, rfl⟩ := own_val hown3; have HG3 := Lib.hid (IO.grow (zs := zs) HH.out.1 (Nat.le_refl _) H2.out (fun _ h => by cases h) HC.out.1 HC.out.2 H5.out H6.out HZZ.out HV.out (by rw [HZ.out.2]; exact hown3) hgrow3 hat3); have g5 := HG3.out.1.1; have g6 := HG3.out.1.2; clear hown3 hgrow3 hat3)
        | fail)

      have hF := HG3.out.2
      rw [← HE.out] at hF
      exact hF
    · by_cases hn0 : nn = 0
      · subst hn0
        obtain rfl : ss = 1 := hse
        have d2 : decide ((2147483648 : Int) ≤ (x : Int)) = false := by simp; omega
        have hz0' : zs = [] := List.eq_nil_of_length_eq_zero hzl
        have HZ := Lib.hid (And.intro hz0' hzl)
        have HZC := Lib.hid (show ∀ j u, (rowW zs)[j]? = some u → (W.drewN 0).cell? ((⟨b, off + pp, none⟩ : Addr).add j) = some u by rw [hz0']; intro j u hu; cases hu)
        clear d1 hze hzl hz0'
        gi_wp2
        refine wpIn_region_quiet0 (by kernel_rfl) (by kernel_rfl) (by kernel_rfl) (fun _ _ h => h) ?_
        repeat (quiet_step (fail))
        refine wpQuiet_nil ?_
        intro _ hw1
        obtain ⟨nq, hw2⟩ := hw1
        subst hw2
        have HV := Lib.hid (show Ch (fun _ => False) W (W.drewN nq) from (Ch.refl _ _).drewN nq)
        have HOWN := Lib.hid (show (W.drewN nq).ownsRow Oc 27 1 (.slice sp1 Y.length cap1) Y.length (rowW Y) from H5.out)
        have HSZ := Lib.hid (show Oc ≤ (W.drewN nq).heap.size from Nat.le_trans (Nat.le_add_right Oc 3) HZZ.out)
        gi_wp2_with (gi_at_builtin; refine wpListIn_append_at _ rfl (.tmp 22) (.tmp 23) 25 rfl Oc 27 i0 (.int .u32 0) 1 4 Try.underlying25 hi hz0 hz1 hz2 rfl (by decide) _ _ _ rfl HOWN.out ⟨b, off + pp, none⟩ 0 0 (rowW zs) rfl HZL.out HZC.out (rowW_one _) HBB.out.1 HBB.out.2 HSZ.out ?_; intro v3 w3 hown3 hgrow3 hat3; obtain ⟨sp3, cap3, rfl⟩ := own_val hown3; have HG3 := Lib.hid (IO.grow (zs := zs) HH.out.1 (Nat.le_refl _) H2.out (fun _ h => by cases h) HC.out.1 HC.out.2 H5.out H6.out HZZ.out HV.out (by rw [HZ.out.2]; exact hown3) hgrow3 hat3); have g5 := HG3.out.1.1; have g6 := HG3.out.1.2; clear hown3 hgrow3 hat3)
        have hF := HG3.out.2
        rw [← HE.out] at hF
        exact hF
      · have d2 : decide ((2147483648 : Int) ≤ (x : Int)) = false := by simp; omega
        have hs1 : (0 : Int) < (ss : Int) := by omega
        have hs2 : (1 : Int) ≤ (ss : Int) := by omega
        have hs3 : ¬ ss = 1 := by omega
        have hs5 : 0 < ss := by omega
        have hs6 : 1 ≤ ss := by omega
        have hs4 : ss - 1 = nn := by omega
        have HZC := Lib.hid (show ∀ j u, (rowW zs)[j]? = some u → (W.drewN 0).cell? ((⟨b, off + pp + 1, none⟩ : Addr).add j) = some u by
          rw [hze]
          have := ((HS.out.drop (pp + 1)).take nn).cells
          rwa [show off + (pp + 1) = off + pp + 1 by omega] at this)
        have HZ := Lib.hid (And.intro hze hzl)
        clear d1 hze hzl hse
        gi_wp2
        refine wpIn_region_quiet0 (by kernel_rfl) (by kernel_rfl) (by kernel_rfl) (fun _ _ h => h) ?_
        repeat (quiet_step (fail))
        refine wpQuiet_nil ?_
        intro _ hw1
        obtain ⟨nq, hw2⟩ := hw1
        subst hw2

        have HV := Lib.hid (show Ch (fun _ => False) W (W.drewN nq) from (Ch.refl _ _).drewN nq)
        have HOWN := Lib.hid (show (W.drewN nq).ownsRow Oc 27 1 (.slice sp1 Y.length cap1) Y.length (rowW Y) from H5.out)
        have HSZ := Lib.hid (show Oc ≤ (W.drewN nq).heap.size from Nat.le_trans (Nat.le_add_right Oc 3) HZZ.out)
        gi_wp2_with (gi_at_builtin; refine wpListIn_append_at _ rfl (.tmp 22) (.tmp 23) 25 rfl Oc 27 i0 (.int .u32 0) 1 4 Try.underlying25 hi hz0 hz1 hz2 rfl (by decide) _ _ _ rfl HOWN.out ⟨b, off + pp + 1, none⟩ nn nn (rowW zs) rfl HZL.out HZC.out (rowW_one _) HBB.out.1 HBB.out.2 HSZ.out ?_; intro v3 w3 hown3 hgrow3 hat3; obtain ⟨sp3, cap3, rfl⟩ := own_val hown3; have HG3 := Lib.hid (IO.grow (zs := zs) HH.out.1 (Nat.le_refl _) H2.out (fun _ h => by cases h) HC.out.1 HC.out.2 H5.out H6.out HZZ.out HV.out (by rw [HZ.out.2]; exact hown3) hgrow3 hat3); have g5 := HG3.out.1.1; have g6 := HG3.out.1.2; clear hown3 hgrow3 hat3)
        have hF := HG3.out.2
        rw [← HE.out] at hF
        exact hF
  case done =>
    rintro W ⟨h2, v, h3, h4, h5, h6⟩ hD hnD hz
    rw [HH.out.2.1] at hD hnD hz
    rw [toldK_all] at h5
    obtain ⟨Y, hY⟩ : ∃ Y, toldG (parse l).1 = Y := ⟨_, rfl⟩
    rw [hY] at h5
    obtain ⟨sp1, cap1, rfl⟩ := own_val h5
    have hne : ∀ g, (Value.slice sp1 Y.length cap1).ownBlock = some g → g ≠ Oc + 2 := fun g hg e => by subst e; exact hnD (.inr (.inr ⟨_, h3, hg⟩))
    have HK := Lib.hid (And.intro h2 (And.intro h5 (And.intro hD (And.intro hne h6))))
    clear h2 h5 hD hnD hne h6
    gi_wp2
    rw [HH.out.2.1, hY, HH.out.1]
    have hp : Ch (fun j => j = Oc + 2) W (W.putObj (Oc + 2) (.deferred none)) := (Ch.refl _ _).putObj _ _ rfl
    refine ⟨by simp, .inl ⟨_, _, rfl, run_takeDeferred HK.out.2.2.1, ?_⟩⟩
    refine ⟨.slice sp1 Y.length cap1, ?_, _, rfl, ?_, ?_⟩
    · simp [results, Try.results62, go_sem]
    · exact own_same HK.out.2.1 fun g hg => hp.block g (HK.out.2.1.lt g hg).2 (HK.out.2.2.2.1 g hg)
    · refine ⟨hp.os.trans HK.out.1.os, hp.tape.trans HK.out.1.tape, hp.output.trans HK.out.1.output, Nat.le_trans HK.out.1.size hp.size, fun j hj => ?_⟩
      have hjw : j < w.heap.size := by rw [HH.out.1]; exact hj
      rw [hp.block j (Nat.lt_of_lt_of_le hjw HK.out.1.size) (by omega)]
      exact HK.out.1.block j hjw (fun h => by cases h)
end Go.Proofs.Ytkbmgilceioieaa
