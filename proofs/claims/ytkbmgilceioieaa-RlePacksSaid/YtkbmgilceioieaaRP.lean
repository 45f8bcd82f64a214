/- The walk of others. -/
import Derived.Test.YtkbmgilceioieaaRO
namespace Go.Proofs.Ytkbmgilceioieaa
open Go.RowKit
attribute [local go_sem] Oper.semAt_some

theorem IO.at_ {w0 W : World} {Oc B : Nat} {vp v : Value} {ys : List Nat} (h : IO w0 Oc B vp ys W) (hc : W.cell? ⟨Oc, 0, none⟩ = some v) :
    Ch (fun j => vp.ownBlock = some j) w0 W ∧ W.frozen? ⟨Oc, 0, none⟩ = false ∧ W.ownsRow B 27 1 v ys.length (rowW ys) ∧ ∀ j, v.ownBlock = some j → vp.ownBlock = some j ∨ Oc + 3 ≤ j := by
  obtain ⟨h1, u, h2, h3, h4, h5⟩ := h
  rw [hc] at h2; injection h2 with h2; subst h2
  exact ⟨h1, h3, h4, h5⟩
theorem zs_cells {w W : World} {vp : Value} {sp : Option Addr} {b off i mm : Nat} {l zs : List Nat} (h : Ch (fun j => vp.ownBlock = some j) w W) (hl : SL w sp b off l) (hap : 0 < l.length → vp.ownBlock ≠ some b) (hz : (l.drop i).take mm = zs) :
    ∀ j u, (rowW zs)[j]? = some u → W.cell? ((⟨b, off + i, none⟩ : Addr).add j) = some u := by
  rw [← hz]
  exact (((hl.ch h hap).drop i).take mm).cells

set_option maxHeartbeats 2000000 in
set_option maxRecDepth 100000 in
theorem others_any (B : Nat) (vp : Value) (ys l : List Nat) (sp : Option Addr) (b off cap : Nat) (w : World) (hv : w.ownsRow B 27 1 vp ys.length (rowW ys)) (hB : B ≤ w.heap.size) (hl : SL w sp b off l) (hcap : l.length ≤ cap)
    (hlen : l.length ≤ 30000) (hylen : ys.length ≤ 100000) (hap : 0 < l.length → vp.ownBlock ≠ some b) :
    Calls Try.prog 65 #[vp, .slice sp l.length cap] w fun e w' => ∃ v, e = .returned v ∧ w'.ownsRow B 27 1 v (ys ++ othS l).length (rowW (ys ++ othS l)) ∧ Ch (fun j => vp.ownBlock = some j) w w' ∧
      ∀ j, v.ownBlock = some j → vp.ownBlock = some j ∨ w.heap.size ≤ j := by
  refine (callsIn_wide (n := 0)).1 ?_
  obtain ⟨i0, hi, hz0, hz1, hz2⟩ := info_parts info27
  obtain ⟨spv, capv, hvv⟩ := own_val hv
  subst hvv
  have hvlt : ∀ j, (Value.slice spv ys.length capv).ownBlock = some j → j < w.heap.size := fun j hj => (hv.lt j hj).2
  refine callsIn_of_wp_marks Try.func65 rfl trivial ?_ rfl
  simp only [Try.ntmps65, List.size_toArray, List.length_cons, List.length_nil, Nat.reduceAdd, Nat.reduceSub, Array.replicate_succ, Array.replicate_zero, List.push_toArray, List.append_toArray, List.nil_append, List.cons_append]
  gi_wp2_with (refine ⟨trivial, rfl, ?_⟩; gi_at_call 81; refine (callsIn_wide.2 (Chunk_any _ _ _ _)).mono ?_; rintro e w' ⟨rfl, rfl⟩)
  obtain ⟨Oc, hOc⟩ : ∃ Oc, Oc = w.heap.size := ⟨_, rfl⟩
  generalize hw2 : World.alloc (World.alloc (World.alloc w _) _) _ = w2
  have z2 : w2.heap.size = Oc + 3 := by rw [← hw2, hOc]; simp
  have b2 : Below w.heap.size w w2 := by rw [← hw2]; exact (((Below.refl _ w).alloc (Nat.le_refl _) _).alloc (by simp) _).alloc (by simp; omega) _
  have o2 : w2.cell? ⟨Oc, 0, none⟩ = some (.slice spv ys.length capv) ∧ w2.frozen? ⟨Oc, 0, none⟩ = false ∧ w2.cell? ⟨Oc + 1, 0, none⟩ = some (.slice sp l.length cap) ∧ w2.cell? ⟨Oc + 1 + 1, 0, none⟩ = some (.int .i64 4096) := by rw [← hw2, hOc]; simp [go_sem]
  rw [← hOc]
  have HOc := Lib.hid hOc
  have hvlt' : ∀ j, (Value.slice spv ys.length capv).ownBlock = some j → j < Oc := fun j hj => by rw [hOc]; exact hvlt j hj
  have hIO : IO w Oc B (.slice spv ys.length capv) (ys ++ othK l 0) w2 := by
    refine ⟨Ch.new b2, _, o2.1, o2.2.1, ?_, fun j hj => .inl hj⟩
    have : ys ++ othK l 0 = ys := by simp [othK]
    rw [this]
    exact own_below hv b2 (Nat.le_refl _)
  have HH := Lib.hid (And.intro hOc.symm (And.intro z2 (And.intro hvlt' (And.intro hIO (And.intro o2 b2)))))
  have HL := Lib.hid (And.intro hl hap)
  have hBO : B ≤ Oc := by omega
  have hspl : 0 < l.length → sp = some ⟨b, off, none⟩ := hl.1
  have HSP := Lib.hid hspl
  have hkl : ∀ k, (ys ++ othK l k).length ≤ 130000 + k := fun k => by rw [List.length_append]; have := othK_len l k; omega
  have HKL := Lib.hid hkl
  clear hw2 z2 b2 o2 hvlt hvlt' hIO hl hap hspl hkl hOc hv
  refine wpIn_rangeF (gf := 88) (lb := #[.pointer (some ⟨Oc + 1, 0, none⟩), .pointer (some ⟨Oc + 1 + 1, 0, none⟩)]) rfl (enters_of Try.func88 (by kernel_rfl) rfl)
    (chN l.length) (fun k => #[.slice (some ⟨b, off + 4096 * k, none⟩) (chL l.length k) (chL l.length k)]) (fun _ => rfl) (FO Oc)
    (fun k W => IO w Oc B (.slice spv ys.length capv) (ys ++ othK l k) W) (fun _ _ _ => False)
    (fun k => IO.foot HH.out.1) (fun _ _ => ⟨fun _ h => h.elim, fun _ _ h => h.elim⟩) HH.out.2.2.2.1
    (fun k a' _ => a' = { tmps := #[.slice spv ys.length capv, .slice sp l.length cap, .pointer (some ⟨Oc, 0, none⟩), undef, .slice none 0 0, .slice (some ⟨b, off + 4096 * k, none⟩) (chL l.length k) (chL l.length k), .slice sp l.length cap, .func (.func 88) #[] #[.pointer (some ⟨Oc + 1, 0, none⟩), .pointer (some ⟨Oc + 1 + 1, 0, none⟩)], .slice (some ⟨b, off + 4096 * k, none⟩) (chL l.length k) (chL l.length k), undef, undef, undef, undef, undef, undef, undef, undef, undef, undef], defers := [] })
    (fun _ _ _ _ h _ => h) ?hit ?assign ?body ?done (fun _ _ _ _ h => h.elim)
  case hit =>
    intro J' Jx' W1 h1 h2 h3 h4 h5 h6 h7 h8
    rw [HH.out.2.1] at h1 h2 h3 h4 h5 h6 h7 ⊢
    refine chunk_in _ (Oc + 1) (Oc + 1 + 1) l.length b off cap sp _ J' Jx' W1 ((h2.cell (p := ⟨Oc + 1, 0, none⟩) (show Oc + 1 < Oc + 3 by omega)).trans HH.out.2.2.2.2.1.2.2.1) ((h2.cell (p := ⟨Oc + 1 + 1, 0, none⟩) (show Oc + 1 + 1 < Oc + 3 by omega)).trans HH.out.2.2.2.2.1.2.2.2) HSP.out hcap (by omega) ?_ h7 h5 h8
    intro k W' hJ
    obtain ⟨⟨-, v, hv, -, -, hvb⟩, -⟩ := h3 k W' hJ
    have hno : ∀ x, Oc < x → x < Oc + 3 → ¬ (FO Oc W' x ∨ x = Oc + 3 ∨ x = Oc + 3 + 1) := by
      rintro x hx1 hx2 ((hf | hf | ⟨u, hu, hub⟩) | hf | hf)
      · omega
      · omega
      · rw [hv] at hu; injection hu with hu; subst hu
        rcases hvb x hub with h | h
        · have := HH.out.2.2.1 x h; omega
        · omega
      · omega
      · omega
    exact ⟨hno _ (by omega) (by omega), hno _ (by omega) (by omega)⟩
  case assign =>
    intro k W K hi hk hK
    gi_wp2
    exact hK _ _ rfl (Ch.refl _ _) hi (fun _ h => h)
  case body =>
    rintro k a' W ⟨h2, v, h3, h4, h5, h6⟩ hk rfl hz
    rw [HH.out.2.1] at hz
    have hyk := HKL.out k
    obtain ⟨Y, hY⟩ : ∃ Y, ys ++ othK l k = Y := ⟨_, rfl⟩
    rw [hY] at h5 hyk
    obtain ⟨sp1, cap1, rfl⟩ := own_val h5
    obtain ⟨mm, hmm⟩ : ∃ mm, chL l.length k = mm := ⟨_, rfl⟩
    have hm1 : 4096 * k + mm ≤ l.length ∧ 0 < mm ∧ mm ≤ 4096 := by rw [← hmm]; unfold chL; unfold chN at hk; omega
    obtain ⟨hm1, hm2, hm3⟩ := hm1
    have hk2 : k ≤ 10 := by unfold chN at hk; omega
    obtain ⟨zs, hzs⟩ : ∃ zs, (l.drop (4096 * k)).take mm = zs := ⟨_, rfl⟩
    have hzl : zs.length = mm := by rw [← hzs, List.length_take, List.length_drop]; omega
    have HE := Lib.hid (show ys ++ othK l (k + 1) = Y ++ [mm] ++ zs by rw [othK_succ, hmm, hzs, ← hY]; simp)
    have HZ := Lib.hid (And.intro hzs hzl)
    have HZL := Lib.hid (show (rowW zs).length = mm * 1 by rw [rowW_len, hzl]; omega)
    have H2 := Lib.hid h2
    have H5 := Lib.hid h5
    have H6 := Lib.hid h6
    have HC := Lib.hid (And.intro h3 h4)
    rw [hmm]
    clear h2 h5 h6 hmm hzs hzl hY
    gi_wp2_with (first
      | (gi_at_builtin; refine wpListIn_append_at _ rfl (.tmp 9) (.tmp 13) 25 rfl B 27 i0 (.int .u32 0) 1 4 Try.underlying25 hi hz0 hz1 hz2 rfl (by decide) _ _ _ rfl (H5.out.alloc _) ⟨W.heap.size, 0, none⟩ 1 1 [.int .u32 (mm : Int)] rfl rfl (cell_one_new _ _ _) (by simp [Value.oneCell']) (by unfold maxLen; omega) (by omega) (by simp; omega) ?_; intro v' w1 hown' hgrow hat; obtain ⟨sp', cap', rfl⟩ := own_val hown'; have HG := Lib.hid (IO.grow (zs := [mm]) HH.out.1 (by omega) H2.out HH.out.2.2.1 HC.out.1 HC.out.2 H5.out H6.out (by omega) ((Ch.refl _ _).alloc _) hown' hgrow hat); have g1 := HG.out.1.1; have g2 := HG.out.1.2; have g3 := World.cell?_setCell_same w1 ⟨Oc, 0, none⟩ (.slice sp' (Y.length + 1) cap') g1; have g4 : (w1.setCell ⟨Oc, 0, none⟩ (.slice sp' (Y.length + 1) cap')).frozen? ⟨Oc, 0, none⟩ = false := by rw [World.frozen?_setCell]; exact g2
         have HP := Lib.hid (IO.at_ HG.out.2.2 g3)
         have HBB := Lib.hid (show (Y ++ [mm]).length + mm ≤ maxLen ∧ ((Y ++ [mm]).length + mm) * 4 ≤ 140737488355328 by rw [List.length_append]; unfold maxLen; simp; omega)
         have HSZ := Lib.hid (show Oc + 3 ≤ (w1.setCell ⟨Oc, 0, none⟩ (.slice sp' (Y.length + 1) cap')).heap.size by have := hgrow.size; rw [World.size_alloc] at this; simp [World.setCell]; omega)
         have HZC := Lib.hid (zs_cells HP.out.1 HL.out.1 HL.out.2 HZ.out.1)
         clear hown' hgrow hat h3 h4)
      | (gi_at_builtin; refine wpListIn_append_at _ rfl (.tmp 15) (.tmp 16) 25 rfl B 27 i0 (.int .u32 0) 1 4 Try.underlying25 hi hz0 hz1 hz2 rfl (by decide) _ _ _ rfl HP.out.2.2.1 ⟨b, off + 4096 * k, none⟩ mm mm (rowW zs) rfl HZL.out HZC.out (rowW_one _) HBB.out.1 HBB.out.2 (Nat.le_trans (by omega) HSZ.out) ?_; intro v3 w3 hown3 hgrow3 hat3; obtain ⟨sp3, cap3, rfl⟩ := own_val hown3; have HG3 := Lib.hid (IO.grow (zs := zs) HH.out.1 (by omega) HP.out.1 HH.out.2.2.1 g3 g4 HP.out.2.2.1 HP.out.2.2.2 HSZ.out (Ch.refl _ _) (by rw [HZ.out.2]; exact hown3) hgrow3 hat3); have g5 := HG3.out.1.1; have g6 := HG3.out.1.2; clear hown3 hgrow3 hat3))
    have hF := HG3.out.2
    rw [List.length_append, List.length_singleton, ← HE.out] at hF
    exact ⟨HG.out.2.1.trans hF.1, hF.2⟩
  case done =>
    rintro W ⟨h2, v, h3, h4, h5, h6⟩ hD hnD hz
    rw [HH.out.2.1] at hD hnD hz
    rw [othK_all] at h5
    obtain ⟨Y, hY⟩ : ∃ Y, ys ++ othS l = Y := ⟨_, rfl⟩
    rw [hY] at h5
    obtain ⟨sp1, cap1, rfl⟩ := own_val h5
    have hne : ∀ g, (Value.slice sp1 Y.length cap1).ownBlock = some g → g ≠ Oc + 3 := fun g hg e => by subst e; exact hnD (.inr (.inr ⟨_, h3, hg⟩))
    have HK := Lib.hid (And.intro h2 (And.intro h5 (And.intro hD (And.intro hne h6))))
    clear h2 h5 hD hnD hne h6
    gi_wp2
    rw [HH.out.2.1, hY]
    have hp : Ch (fun j => j = Oc + 3) W (W.putObj (Oc + 3) (.deferred none)) := (Ch.refl _ _).putObj _ _ rfl
    refine ⟨by simp, .inl ⟨_, _, rfl, run_takeDeferred HK.out.2.2.1, ?_⟩⟩
    refine ⟨.slice sp1 Y.length cap1, ?_, _, rfl, ?_, ?_, ?_⟩
    · simp [results, Try.results65, go_sem]
    · exact own_same HK.out.2.1 fun g hg => hp.block g (HK.out.2.1.lt g hg).2 (HK.out.2.2.2.1 g hg)
    · refine ⟨hp.os.trans HK.out.1.os, hp.tape.trans HK.out.1.tape, hp.output.trans HK.out.1.output, Nat.le_trans HK.out.1.size hp.size, fun j hj hn => ?_⟩
      rw [hp.block j (Nat.lt_of_lt_of_le hj HK.out.1.size) (by have := HOc.out; omega)]
      exact HK.out.1.block j hj hn
    · intro j hj
      rcases HK.out.2.2.2.2 j hj with h | h
      · exact .inl h
      · exact .inr (by have := HOc.out; omega)
end Go.Proofs.Ytkbmgilceioieaa
