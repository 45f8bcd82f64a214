/- The contract of mbox's told: the walk. -/
import Derived.Test.YtbdcjfkplopbiaaDoorUJ
import Derived.Test.YtbdcjfkplopbiaaDoorUD
namespace Go.Proofs.YtbdcjfkplopbiaaDoor
open Go.RowKit
attribute [local go_sem] Oper.semAt_some

theorem lst_get {f : Nat → List Int} {k : Nat} (hk : k < (lst (dgK f 32) 32).length) : ∃ d, (lst (dgK f 32) 32)[k]? = some d ∧ nth (ints (lst (dgK f 32) 32)) k = (d : Int) ∧ d < 32 ∧ (f d).length ≠ 0 := by
  refine ⟨(lst (dgK f 32) 32)[k], List.getElem?_eq_getElem hk, by unfold nth ints; simp [hk], ?_⟩
  have hm := (mem_lst _ _ _).1 (List.getElem_mem hk)
  refine ⟨hm.1, ?_⟩
  have := hm.2
  rw [dgK_bit f 32 (Nat.le_refl _) _ hm.1] at this
  simp at this
  simpa using this.2
theorem nts_take (f : Nat → List Int) (d j : Nat) (h : j < (f d).length) : (nts f d).take (j + 1) = (nts f d).take j ++ [((d : Int), nth (f d) j)] := by
  unfold nts
  rw [← List.map_take, ← List.map_take, take_succ_nth _ _ h, List.map_append]
  rfl
set_option maxHeartbeats 4000000 in
set_option maxRecDepth 100000 in
theorem told_any {w : World} {V : Nat → Prop} {B : Nat} {rm : Int} {f : Nat → List Int} (h : BAt w V B rm f) (ht : Tab w) (hm : many f 32 ≤ 65536) :
    Calls Tryd.prog 25 #[.pointer (some ⟨B, 0, none⟩)] w fun e w' => ∃ v, e = .returned v ∧ w'.ownsRow w.heap.size 30 2 v (toldF f).length (prow (toldF f)) ∧ Below w.heap.size w w' := by
  obtain ⟨sp, cp, hx⟩ := h
  refine (callsIn_wide (n := 0)).1 ?_
  obtain ⟨i0, hi, hz0, hz1, hz2⟩ := info_parts infoNote
  have hp := ht.pos
  unfold toldF
  obtain ⟨L, hL⟩ : ∃ L, L = ints (lst (dgK f 32) 32) := ⟨_, rfl⟩
  obtain ⟨N, hN⟩ : ∃ N, N = (lst (dgK f 32) 32).length := ⟨_, rfl⟩
  rw [← hN]
  have HD := Lib.hid (fun (wz : World) (hz : BX wz V B rm sp cp f) => mdeg_any hz)
  have HBX := Lib.hid (And.intro hx (And.intro ht hm))
  refine callsIn_of_wp_marks Tryd.func25 rfl trivial ?_ rfl
  simp only [Tryd.ntmps25, List.size_toArray, List.length_cons, List.length_nil, Nat.reduceAdd, Nat.reduceSub, Array.replicate_succ, Array.replicate_zero, List.push_toArray, List.append_toArray, List.nil_append, List.cons_append]
  have ha2 : Below w.heap.size w ((w.alloc (.cells #[.pointer (some ⟨B, 0, none⟩)] 23)).alloc (.cells #[.slice none 0 0] 28)) := ((Below.refl _ _).alloc (Nat.le_refl _) _).alloc (by simp) _
  have HDa := Lib.hid (HD.out _ (hx.new ha2))
  clear ha2 hx ht
  gi_wp2_with (first
    | (refine ⟨trivial, rfl, ?_⟩; gi_at_call 13; refine (callsIn_wide.2 HDa.out).mono ?_; rintro e w' ⟨rfl, rfl⟩)
    | (refine ⟨trivial, rfl, ?_⟩; gi_at_call 29; refine (callsIn_wide.2 (All_any _ _)).mono ?_; rintro e w' ⟨rfl, rfl⟩))
  obtain ⟨Oc, hOc⟩ : ∃ Oc, Oc = w.heap.size := ⟨_, rfl⟩
  generalize hw2 : World.alloc (World.alloc (World.alloc w _) _) _ = w2
  have z2 : w2.heap.size = Oc + 3 := by rw [← hw2, hOc]; simp
  have b2 : Below Oc w w2 := by rw [← hw2, hOc]; exact (((Below.refl _ w).alloc (Nat.le_refl _) _).alloc (by simp) _).alloc (by simp; omega) _
  have o2 : w2.cell? ⟨Oc, 0, none⟩ = some (.pointer (some ⟨B, 0, none⟩)) ∧ w2.cell? ⟨Oc + 1, 0, none⟩ = some (.slice none 0 0) ∧ w2.frozen? ⟨Oc + 1, 0, none⟩ = false ∧ w2.cell? ⟨Oc + 2, 0, none⟩ = some (.int .u32 (w32 (dgK f 32))) := by rw [← hw2, hOc]; simp [go_sem]
  rw [← hOc]
  have HOc := Lib.hid hOc
  have HC := Lib.hid (show ∀ W', Below (Oc + 1) w2 W' → W'.cell? ⟨Oc, 0, none⟩ = some (.pointer (some ⟨B, 0, none⟩)) ∧ BX W' V B rm sp cp f ∧ Tab W' from fun W' hb => by
    have hbw : Below w.heap.size w W' := by rw [← hOc]; exact b2.trans (hb.mono (by omega))
    exact ⟨(hb.cell (p := ⟨Oc, 0, none⟩) (show Oc < Oc + 1 by omega)).trans o2.1, HBX.out.1.new hbw, HBX.out.2.1.below hp hbw⟩)
  have hI0 : IX w2 (Oc + 1) (Oc + 1) (tk f 0) w2 := ⟨Below.refl _ _, _, o2.2.1, o2.2.2.1, World.ownsRow_nil _ _ _ _⟩
  have HH := Lib.hid (And.intro z2 (And.intro hI0 (And.intro o2.2.2.2 b2)))
  have HL := Lib.hid (And.intro hL hN)
  clear hw2 z2 b2 o2 hI0 hL hN hp hOc HDa HD
  refine wpIn_rangeF (gf := 32) (lb := #[.pointer (some ⟨Oc + 2, 0, none⟩)]) rfl (enters_of Tryd.func32 (by kernel_rfl) rfl)
    N (fun k => #[.int .i64 (nth L k)]) (fun _ => rfl) (FC (Oc + 1) (Oc + 1))
    (fun k W => IX w2 (Oc + 1) (Oc + 1) (tk f k) W) (fun _ _ _ => False)
    (fun k => IX.foot (by rw [HH.out.1]; omega)) (fun _ _ => ⟨fun _ h => h.elim, fun _ _ h => h.elim⟩) HH.out.2.1
    (fun k a' _ => a' = { tmps := #[.pointer (some ⟨B, 0, none⟩), .pointer (some ⟨Oc, 0, none⟩), .slice none 0 0, .pointer (some ⟨Oc + 1, 0, none⟩), .int .i64 (nth L k), undef, undef, .pointer (some ⟨B, 0, none⟩), .int .u32 (w32 (dgK f 32)), .func (.func 32) #[] #[.pointer (some ⟨Oc + 2, 0, none⟩)], .int .i64 (nth L k), undef, undef, undef, undef, undef, undef, undef, undef, undef, undef, undef, undef, undef, undef, undef, undef, undef, undef, undef], defers := [] })
    (fun _ _ _ _ h _ => h) ?hit ?assign ?body ?done (fun _ _ _ _ h => h.elim)
  case hit =>
    intro J' Jx' W1 h1 h2 h3 h4 h5 h6 h7 h8
    rw [HH.out.1] at h1 h2 h3 h4 h5 h6 h7 ⊢
    rw [HL.out.1] at h7
    rw [HL.out.2] at h7 ⊢
    exact all_in _ (Oc + 2) (dgK f 32) _ J' Jx' W1 (fun k W' hJ => (HC.out W' (h3 k W' hJ).1.1).2.2) ((h2.cell (p := ⟨Oc + 2, 0, none⟩) (show Oc + 2 < Oc + 3 by omega)).trans HH.out.2.2.1) h7 h8
  case assign =>
    intro k W K hi hk hK
    gi_wp2
    exact hK _ _ rfl (Ch.refl _ _) hi (fun _ h => h)
  case body =>
    rintro k a' A hA hk rfl hz
    obtain ⟨e0, hxA, -⟩ := HC.out A hA.1
    obtain ⟨d, hd, hnd, hd32, hd0⟩ := lst_get (f := f) (k := k) (by rw [← HL.out.2]; exact hk)
    rw [← HL.out.1] at hnd
    have HT := Lib.hid (tk_succ f k d hd)
    have HTL := Lib.hid (tk_len f k)
    rw [hnd]
    have cd := hxA.cd d hd32
    obtain ⟨q, off, cur, hsp, -⟩ := (hxA.sl d hd32).cons hd0
    rw [hsp] at cd
    have HA := Lib.hid hA
    have HDD := Lib.hid (And.intro hd32 (And.intro hd0 hsp))
    obtain ⟨n, hn⟩ : ∃ n, (f d).length = n := ⟨_, rfl⟩
    obtain ⟨c, hc⟩ : ∃ c, cp d = c := ⟨_, rfl⟩
    have HNC := Lib.hid (And.intro hn hc)
    rw [hn, hc] at cd
    obtain ⟨X, hX⟩ : ∃ X, tk f k = X := ⟨_, rfl⟩
    rw [hX] at HT HA HTL
    have d0 : (0 : Int) ≤ (d : Int) := by omega
    have d1 : (d : Int) < 32 := by omega
    have hnl : n ≤ 65536 := by
      rw [← hn]
      have h1 := many_mono f (d + 1) 32 (by omega)
      have h2 : many f (d + 1) = many f d + (f d).length := rfl
      have := HBX.out.2.2
      omega
    clear hA hd hnd hd32 hd0 hxA hsp hn hc hX
    gi_wp2
    gi_loopg [18] n (fun g s18 wr => ∃ j : Nat, j + g = n ∧ s18 = .int .i64 (j : Nat) ∧ Aside (Step (FC (Oc + 1) (Oc + 1)) A wr ∧ IX w2 (Oc + 1) (Oc + 1) (X ++ (nts f d).take j) wr))
    case atStart => exact ⟨0, by omega, rfl, Step.refl _ _, by rw [List.take_zero, List.append_nil]; exact HA.out⟩
    case round =>
      obtain ⟨j, hjn, rfl, HR⟩ := hrel
      cases gk with
      | zero =>
        obtain rfl : j = n := by omega
        gi_wp2
        refine ⟨HR.out.1, ?_⟩
        show IX w2 (Oc + 1) (Oc + 1) (tk f (k + 1)) _
        rw [HT.out]
        have := HR.out.2
        rwa [List.take_of_length_le (by unfold nts; rw [List.length_map, HNC.out.1]; exact Nat.le_refl _)] at this
      | succ g1 =>
        have hj : j < n := by omega
        obtain ⟨h2, v, h3, h4, h5⟩ := HR.out.2
        obtain ⟨spv, cpv, rfl⟩ := own_val h5
        have hxr := (HC.out wr h2).2.1
        obtain ⟨q', off', cur', hsp', hq', hoc', hlc', hcs'⟩ := (hxr.sl d HDD.out.1).cons HDD.out.2.1
        have hqo : q' = q ∧ off' = off := by
          rw [HDD.out.2.2] at hsp'; injection hsp' with e; injection e with e1 e2; exact ⟨e1.symm, e2.symm⟩
        obtain ⟨rfl, rfl⟩ := hqo
        have cj : wr.cell? ⟨q', off' + j, none⟩ = some (.int .i64 (nth (f d) j)) := by
          rw [cell_of_row wr q' _ _ _ _ hq']
          exact hcs' j (by rw [HNC.out.1]; exact hj)
        have HTK := Lib.hid (nts_take f d j (by rw [HNC.out.1]; exact hj))
        obtain ⟨y, hy⟩ : ∃ y, nth (f d) j = y := ⟨_, rfl⟩
        rw [hy] at cj HTK
        obtain ⟨Y, hY⟩ : ∃ Y, X ++ (nts f d).take j = Y := ⟨_, rfl⟩
        have HYY := Lib.hid (show X ++ (nts f d).take (j + 1) = Y ++ [((d : Int), y)] from by rw [HTK.out, ← hY, List.append_assoc])
        have hYl : Y.length ≤ 131072 := by
          rw [← hY, List.length_append, List.length_take]
          have := HTL.out; have := HBX.out.2.2; omega
        rw [hY] at h3 h5
        have H5 := Lib.hid h5
        have H2 := Lib.hid h2
        have HSt := Lib.hid HR.out.1
        clear h5 h2 hy hY hxr hsp' hq' hoc' hlc' hcs' HR
        gi_wp2_with (gi_at_builtin; refine wpListIn_append_at _ rfl _ _ 28 rfl (Oc + 1 + 1) 30 i0 (.agg #[.int .i64 0, .int .i64 0]) 2 16 Tryd.underlying28 hi hz0 hz1 hz2 rfl (by decide) _ _ _ rfl (H5.out.alloc _) ⟨wr.heap.size, 0, none⟩ 1 1 [.int .i64 (d : Nat), .int .i64 y] rfl rfl (two_new _ _ _ _) (by simp [Value.oneCell']) (by unfold maxLen; omega) (by omega) (by have := H2.out.size; have := HH.out.1; simp; omega) ?_; intro v' w1 hown' hgrow hat; obtain ⟨sp', cap', rfl⟩ := own_val hown'; have HG := Lib.hid (IX.grow H2.out (Nat.le_refl _) (by have := HH.out.1; omega) h3 h4 H5.out hown' hgrow hat); have gA : w1.cell? ⟨Oc + 1, 0, none⟩ = some (.slice spv Y.length cpv) := (grow_cell h3 h4 H5.out hgrow).1; have gB : w1.frozen? ⟨Oc + 1, 0, none⟩ = false := (grow_cell h3 h4 H5.out hgrow).2; clear hown' hgrow hat h3 h4)
        go_roundg g1
        case measure => omega
        case rel => exact ⟨j + 1, by omega, by go_num, HSt.out.trans HG.out.1, by rw [HYY.out]; exact HG.out.2⟩
  case done =>
    rintro A ⟨h2, v, h3, h4, h5⟩ hD hnD hz
    rw [HH.out.1] at hD hnD hz
    obtain ⟨sp', cap', rfl⟩ := own_val h5
    have hne : ∀ g, (Value.slice sp' (tk f N).length cap').ownBlock = some g → g ≠ Oc + 3 := fun g hg e => by subst e; exact hnD (.inr (.inr ⟨_, h3, hg⟩))
    have HK := Lib.hid (And.intro h2 (And.intro h5 (And.intro hD hne)))
    obtain ⟨m, hm'⟩ : ∃ m, (tk f N).length = m := ⟨_, rfl⟩
    rw [hm'] at h3
    have HM := Lib.hid hm'
    clear h2 h5 hD hnD hne hm'
    gi_wp2
    rw [HH.out.1]
    have hp : Ch (fun j => j = Oc + 3) A (A.putObj (Oc + 3) (.deferred none)) := (Ch.refl _ _).putObj _ _ rfl
    refine ⟨by simp, .inl ⟨_, _, rfl, run_takeDeferred HK.out.2.2.1, ?_⟩⟩
    refine ⟨.slice sp' m cap', ?_, _, rfl, ?_, ?_⟩
    · simp [results, Tryd.results25, go_sem]
    · rw [← HOc.out, ← HM.out]
      exact own_mono (own_same HK.out.2.1 fun g hg => hp.block g (HK.out.2.1.lt g hg).2 (HK.out.2.2.2 g hg)) (by omega)
    · rw [← HOc.out]
      exact (HH.out.2.2.2.trans (HK.out.1.mono (by omega))).trans (hp.below (fun j hj e => by omega) (by have := HK.out.1.size; have := HH.out.1; omega))
end Go.Proofs.YtbdcjfkplopbiaaDoor
