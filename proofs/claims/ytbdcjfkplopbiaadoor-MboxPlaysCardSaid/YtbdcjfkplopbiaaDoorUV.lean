/- The walk of MboxPlays. -/
import Derived.Test.YtbdcjfkplopbiaaDoorUT
import Derived.Test.YtbdcjfkplopbiaaDoorUM
import Derived.Test.YtbdcjfkplopbiaaDoorUW
namespace Go.Proofs.YtbdcjfkplopbiaaDoor
open Go.RowKit

set_option maxHeartbeats 8000000 in
set_option maxRecDepth 100000 in
theorem law_plays (rm : Int) (sp : Option Addr) (b off cap : Nat) (O : List (Bool × Int × Int)) (w : World) (ht : Tab w) (_hlen : O.length ≤ 9223372036854775807) (hO : OpsM w sp b off O) :
    Calls Tryd.prog 3 #[.int .i64 rm, .slice sp O.length cap] w fun e w' => e = .returned (.bool true) ∧ Below w.heap.size w w' := by
  by_cases hn : O.length ≤ 200
  case neg =>
    have d2 : (200 : Int) < (O.length : Int) := by omega
    clear hO hn
    go_enter Tryd.func3, Tryd.ntmps3
    go_wp2
    go_ret
    exact ⟨rfl, Below.refl _ _⟩
  have d1 : ¬ (200 : Int) < (O.length : Int) := by omega
  by_cases hr : rm < 1 ∨ 65536 < rm
  · have HNw := Lib.hid (mnew_none rm hr w)
    have HA := Lib.hid (malive_any w ht)
    obtain ⟨NN, hN⟩ : ∃ N, N = O.length := ⟨_, rfl⟩
    rw [← hN] at d1 ⊢
    clear hO hn ht hN _hlen
    by_cases h1 : rm < 1
    · clear hr
      go_enter Tryd.func3, Tryd.ntmps3
      go_wp2_with (first | (go_at_call 5; refine HNw.out.mono ?_; rintro e w1 ⟨rfl, rfl⟩; clear HNw) | (go_at_call 6; refine HA.out.mono ?_; rintro e w2 ⟨rfl, b2⟩; have H2 := Lib.hid b2; clear b2))
      go_ret
      exact ⟨rfl, H2.out⟩
    · have h2 : 65536 < rm := by omega
      clear hr
      go_enter Tryd.func3, Tryd.ntmps3
      go_wp2_with (first | (go_at_call 5; refine HNw.out.mono ?_; rintro e w1 ⟨rfl, rfl⟩; clear HNw) | (go_at_call 6; refine HA.out.mono ?_; rintro e w2 ⟨rfl, b2⟩; have H2 := Lib.hid b2; clear b2))
      go_ret
      exact ⟨rfl, H2.out⟩
  have h1 : ¬ rm < 1 := by omega
  have h2 : ¬ 65536 < rm := by omega
  obtain ⟨B, hB⟩ : ∃ B, B = w.heap.size := ⟨_, rfl⟩
  have HNw := Lib.hid (mnew_some (fun j => j < w.heap.size) rm (by omega) (by omega) w (fun j hj => hj))
  rw [← hB] at HNw
  have HT := Lib.hid (show ∀ wz, Below w.heap.size w wz → Tab wz from fun wz hb => ht.below ht.pos hb)
  have HS := Lib.hid (show ∀ wz, BAt wz (fun j => j < w.heap.size) B rm f0 → Below w.heap.size w wz → RAt w wz B rm f0 none 0 (fun j => j < w.heap.size) from fun wz h hb => RAt.start h hb)
  rw [← hB] at HS
  have HB := Lib.hid hB
  obtain ⟨NN, hN⟩ : ∃ N, N = O.length := ⟨_, rfl⟩
  have HO := Lib.hid (And.intro hN hO)
  rw [← hN] at hn d1 ⊢
  have HR := Lib.hid (And.intro h1 h2)
  clear hO hN ht hB hr _hlen
  go_enter Tryd.func3, Tryd.ntmps3
  go_upto_region 4 with (go_at_call 5; refine HNw.out.mono ?_; rintro e w1 ⟨rfl, h3, b1⟩; rw [HB.out] at h3 b1; have H1 := Lib.hid (And.intro h3 b1); clear h3 b1 HNw)
  go_wp2
  go_loopg [7, 8] NN (fun g s7 s8 wr => ∃ (i : Nat) (f : Nat → List Int) (sp' : Option Addr) (cap' : Nat) (V' : Nat → Prop), i + g = NN ∧ s7 = .slice sp' (toldF f).length cap' ∧ s8 = .int .i64 (i : Nat) ∧ Aside (RAt w wr B rm f sp' cap' V' ∧ many f 32 ≤ i ∧ (many f 32 : Int) ≤ rm))
  case atStart =>
    refine ⟨0, f0, none, 0, _, by omega, by rw [told_f0]; rfl, rfl, RAt.start ?_ H1.out.2, by rw [many_f0]; exact Nat.le_refl _, by rw [many_f0]; have := HR.out; omega⟩
    rw [HB.out]; exact H1.out.1
  case round =>
    obtain ⟨i, f, sp', cap', V', hig, rfl, rfl, HQ⟩ := hrel
    clear H1
    cases gk with
    | zero =>
      obtain rfl : i = NN := by omega
      have HTr := Lib.hid (malive_any wr (HT.out _ HQ.out.1.low))
      go_wp2_with (go_at_call 6; refine HTr.out.mono ?_; rintro e w2 ⟨rfl, b2⟩; have H2 := Lib.hid (HQ.out.1.low.trans (b2.mono HQ.out.1.low.size)); clear b2)
      go_ret
      exact ⟨rfl, H2.out⟩
    | succ g1 =>
      have hi : i < NN := by omega
      obtain ⟨hsp, hbw⟩ := HO.out.2.1 (by have := HO.out.1; omega)
      subst hsp
      obtain ⟨k0, k1, k2⟩ := HO.out.2.2 i (by have := HO.out.1; omega)
      have c0 := (HQ.out.1.low.cell (p := ⟨b, off + i * 3, none⟩) hbw).trans k0
      have c1 := (HQ.out.1.low.cell (p := ⟨b, off + i * 3 + 1, none⟩) hbw).trans k1
      have c2 := (HQ.out.1.low.cell (p := ⟨b, off + i * 3 + 2, none⟩) hbw).trans k2
      obtain ⟨⟨t, a, x⟩, hop⟩ : ∃ o, opM O i = o := ⟨_, rfl⟩
      rw [hop] at c0 c1 c2
      have HII := Lib.hid (And.intro hi hig)
      obtain ⟨Wo, hWo⟩ : ∃ Wo, Wo = wr.heap.size := ⟨_, rfl⟩
      have hi2 : (i : Int) + 1 ≤ NN := by omega
      clear k0 k1 k2 hop hbw hig
      go_upto_region 13 with fail
      rw [← hWo]
      generalize hw2 : World.alloc _ _ = w2
      have b2 : Below wr.heap.size wr w2 := by rw [← hw2]; exact (Below.refl _ _).alloc (Nat.le_refl _) _
      have hr2 : RowAt w2 Wo 32 #[.bool t, .int .i64 a, .int .i64 x] := by rw [← hw2, hWo]; exact RowAt.mk _ _ _
      have H2 := Lib.hid (And.intro (HQ.out.1.add b2 (Nat.le_of_eq hWo.symm) hr2.lt) hr2)
      have HM := Lib.hid HQ.out.2
      have x0 : w2.cell? ⟨Wo, 0, none⟩ = some (.bool t) := hr2.cell 0
      clear hw2 b2 hr2 hWo c0 c1 c2 HQ
      have HT2 := Lib.hid (HT.out _ H2.out.1.low)
      by_cases hte : t = true ∧ many f 32 = 0
      · obtain ⟨rfl, hf0⟩ := hte
        have HK := Lib.hid (take_no H2.out.1.box HT2.out (empty_lst hf0))
        obtain ⟨N, hN⟩ : ∃ N, (toldF f).length = N := ⟨_, rfl⟩
        rw [hN]
        have HN := Lib.hid hN
        obtain rfl : N = 0 := by rw [← hN, toldF_len, hf0]
        clear hN hf0
        go_wp2_with (go_at_call 7; refine HK.out.mono ?_; rintro e w3 ⟨rfl, h3, b3⟩; have H3 := Lib.hid (H2.out.1.new b3); clear h3 b3)
        go_roundg g1
        case measure => omega
        case rel => exact ⟨i + 1, f, sp', cap', _, by have := HII.out.2; omega, by rw [HN.out], by go_num, H3.out.new ((Below.refl _ _).alloc (Nat.le_refl _) _), by have := HM.out.1; omega, HM.out.2⟩
      · have x1 : w2.cell? ⟨Wo, 1, none⟩ = some (.int .i64 a) := H2.out.2.cell 1
        have x2 : w2.cell? ⟨Wo, 2, none⟩ = some (.int .i64 x) := H2.out.2.cell 2
        obtain ⟨N, hN⟩ : ∃ N, (toldF f).length = N := ⟨_, rfl⟩
        rw [hN]
        have HN := Lib.hid hN
        have hN2 : N ≤ 1000 := by have := toldF_len f; have := HM.out.1; have := HII.out.1; omega
        clear hN
        go_upto_if 60 with fail
        clear x0
        go_cut [7] from 49 to 183 (fun s7 wx => ∃ (f2 : Nat → List Int) (sp2 : Option Addr) (cap2 : Nat) (V2 : Nat → Prop), s7 = .slice sp2 (toldF f2).length cap2 ∧ Aside (RAt w wx B rm f2 sp2 cap2 V2 ∧ RowAt wx Wo 32 #[.bool t, .int .i64 a, .int .i64 x] ∧ many f2 32 ≤ i + 1 ∧ (many f2 32 : Int) ≤ rm))
        case first => as_aux_lemma =>
          cases t with
          | false =>
            clear hte
            obtain ⟨f', went, code, hsi⟩ := SendIs.any rm a x f (by have := HR.out; omega) HM.out.2
            have HP := Lib.hid (hsi.prog H2.out.1.box H2.out.1.lt HT2.out (by have := HM.out.1; omega))
            have HMM := Lib.hid (hsi.many HM.out.2)
            have HL := Lib.hid (show ∀ wz, Ch (fun j => ¬ (fun j => V' j ∨ j = Wo) j) w2 wz → Calls Tryd.prog 9 #[.int .i64 rm, .slice sp' N cap', .agg #[.int .i64 a, .int .i64 x]] wz fun e w' => LOut wz w' sp' N cap' f' went code e from fun wz hc => by
              have := hsi.law (H2.out.1.low_ hc).2.1 H2.out.1.cap_ (by rw [HN.out]; exact hN2) H2.out.1.sn
              rw [HN.out] at this
              exact this)
            clear hsi
            cases went
            all_goals
              go_wp2_with (first
                | (go_at_call 8; refine HP.out.mono ?_; rintro e w3 ⟨rfl, h3, c3⟩; have H3 := Lib.hid (And.intro h3 c3); have y1 : w3.cell? ⟨Wo, 1, none⟩ = some (.int .i64 a) := (H2.out.2.keep c3 (fun hn => hn (.inr rfl))).cell 1; have y2 : w3.cell? ⟨Wo, 2, none⟩ = some (.int .i64 x) := (H2.out.2.keep c3 (fun hn => hn (.inr rfl))).cell 2; have HLq := Lib.hid (HL.out w3 c3); clear h3 c3)
                | (go_at_call 9; refine HLq.out.mono ?_; rintro e w4 ho; obtain ⟨sp4, cap4, V4, rfl, h4⟩ := H2.out.1.sent H3.out.2 H3.out.1 (by rw [HN.out]; exact ho); have H4 := Lib.hid (And.intro h4 ((H2.out.2.keep H3.out.2 (fun hn => hn (.inr rfl))).new ho.low)); clear h4 ho)
                | fail)
              go_meet
              case rel => exact ⟨f', sp4, cap4, V4, rfl, H4.out.1, H4.out.2, by have := HMM.out.2; have := HM.out.1; omega, HMM.out.1⟩
          | true =>
            have hm0 : many f 32 ≠ 0 := fun e => hte ⟨rfl, e⟩
            have hne : lst (dgK f 32) 32 ≠ [] := fun e => hm0 (many_zero (lst_empty e) 32 (Nat.le_refl _))
            obtain ⟨d, l, hl⟩ : ∃ d l, lst (dgK f 32) 32 = d :: l := List.exists_cons_of_ne_nil hne
            have hdd := dg_cons hl
            obtain ⟨y, L, hfd⟩ : ∃ y L, f d = y :: L := List.exists_cons_of_ne_nil (by simpa using hdd.2)
            have htd := told_drop f hdd.1 hfd (lst_least hl)
            have hmd := many_upd f d ((f d).drop 1) 32 hdd.1
            have hld : ((f d).drop 1).length + 1 = (f d).length := by rw [hfd]; rfl
            have HK := Lib.hid (take_some H2.out.1.box H2.out.1.lt HT2.out d l hl (by
              have h1 := many_mono f (d + 1) 32 (by omega)
              have h2 : many f (d + 1) = many f d + (f d).length := rfl
              have := HM.out.1; omega))
            have hn0 : nth (f d) 0 = y := by rw [hfd]; rfl
            rw [hn0] at HK
            obtain ⟨f2, hf2⟩ : ∃ f2, updF f d ((f d).drop 1) = f2 := ⟨_, rfl⟩
            have HF2 := Lib.hid hf2
            have HTD := Lib.hid htd
            have hNl : N = (toldF f2).length + 1 := by rw [← HN.out, htd, hf2]; rfl
            have HMD := Lib.hid (show many f2 32 + 1 = many f 32 by rw [← hf2]; omega)
            rw [hf2] at HK
            rcases H2.out.1.sn with ⟨_, hc⟩ | ⟨b', o', hsp⟩
            · exfalso
              have := H2.out.1.cap_
              rw [HN.out] at this; omega
            · subst hsp
              have hcN : N ≤ cap' := by have := H2.out.1.cap_; rw [HN.out] at this; exact this
              obtain ⟨M2, hM2⟩ : ∃ M2, (toldF f2).length = M2 := ⟨_, rfl⟩
              rw [hM2] at hNl
              subst hNl
              have HM2 := Lib.hid hM2
              have HX := Lib.hid (show ∀ wz, Ch (fun j => ¬ (fun j => V' j ∨ j = Wo) j) w2 wz → wz.cell? ⟨b', o', none⟩ = some (.int .i64 (d : Nat)) ∧ wz.cell? ⟨b', o' + 1, none⟩ = some (.int .i64 y) from fun wz hc => by
                obtain ⟨b1, o1, q1, q2⟩ := (H2.out.1.low_ hc).2.1
                rw [HTD.out] at q1 q2
                obtain ⟨q3, _⟩ := q1 (by simp)
                injection q3 with q3
                injection q3 with q3 q4 _
                subst q3 q4
                exact ⟨q2 0 _ rfl, q2 1 _ rfl⟩)
              have e0 : ¬ ((M2 + 1 : Nat) : Int) = 0 := by omega
              have e1 : (0 : Int) < ((M2 + 1 : Nat) : Int) := by omega
              have e2 : ¬ ((M2 : Nat) : Int) + 1 = 0 := by omega
              have e3 : (0 : Int) < ((M2 : Nat) : Int) + 1 := by omega
              clear hte hl hdd hfd htd hmd hld hn0 hf2 hM2 hne hm0
              go_upto_region 15 with (go_at_call 7; refine HK.out.mono ?_; rintro e w3 ⟨rfl, h3, c3⟩; have H3 := Lib.hid (And.intro h3 c3); have y0 := (HX.out w3 c3).1; have y1 := (HX.out w3 c3).2; clear h3 c3)
              go_upto_region 18 with fail
              obtain ⟨Wn, hWn⟩ : ∃ Wn, Wn = w3.heap.size := ⟨_, rfl⟩
              rw [← hWn]
              generalize hw4 : World.alloc _ _ = w4
              have b4 : Below w3.heap.size w3 w4 := by rw [← hw4]; exact (Below.refl _ _).alloc (Nat.le_refl _) _
              have hr4 : RowAt w4 Wn 30 #[.int .i64 (d : Nat), .int .i64 y] := by rw [← hw4, hWn]; exact RowAt.mk _ _ _
              have H4 := Lib.hid (And.intro (H3.out.1.new b4) (H3.out.2.trans (Ch.new b4)))
              clear y0 y1 hw4 hWn b4
              have y0 := (HX.out w4 H4.out.2).1
              have y1 := (HX.out w4 H4.out.2).2
              have n0 : w4.cell? ⟨Wn, 0, none⟩ = some (.int .i64 (d : Nat)) := hr4.cell 0
              have n1 : w4.cell? ⟨Wn, 1, none⟩ = some (.int .i64 y) := hr4.cell 1
              clear hr4
              go_quiet (fail)
              go_upto_region 20 with fail
              clear y0 y1 n0 n1
              have HFin := Lib.hid (show ∀ o'', (o'' = o' + 2 ∨ M2 = 0) → RAt w w4 B rm f2 (some ⟨b', o'', none⟩) (cap' - 1) (fun j => V' j ∨ j = Wo) from fun o'' ho => by
                have h := H4.out.1
                rw [← HF2.out] at h ⊢
                exact H2.out.1.taken H4.out.2 h HTD.out o'' (by rw [HF2.out, HM2.out]; exact ho))
              have e6 : M2 + 1 - 1 = M2 := by omega
              by_cases hc1 : cap' = 1
              · subst hc1
                obtain rfl : M2 = 0 := by omega
                go_wp2
                go_meet
                case rel => exact ⟨f2, some ⟨b', o', none⟩, 0, _, by rw [HM2.out], (HFin.out o' (by simp)).new (below_dn (Below.refl _ _) _), (H2.out.2.keep H4.out.2 (fun hn => hn (.inr rfl))).new (below_dn (Below.refl _ _) _), by have := HMD.out; have := HM.out.1; omega, by have := HMD.out; have := HM.out.2; omega⟩
              · have e4 : (1 : Int) ≤ (cap' : Int) := by omega
                have e5 : (1 : Int) ≤ ((M2 + 1 : Nat) : Int) := by omega
                have e7 : 1 ≤ M2 + 1 := by omega
                have e8 : ¬ cap' - 1 = 0 := by omega
                go_wp2
                go_meet
                case rel => exact ⟨f2, some ⟨b', o' + 2, none⟩, cap' - 1, _, by rw [HM2.out], (HFin.out (o' + 2) (by simp)).new (below_dn (Below.refl _ _) _), (H2.out.2.keep H4.out.2 (fun hn => hn (.inr rfl))).new (below_dn (Below.refl _ _) _), by have := HMD.out; have := HM.out.1; omega, by have := HMD.out; have := HM.out.2; omega⟩
        case rest =>
          obtain ⟨f2, sp2, cap2, V2, rfl, HX⟩ := hcut
          have HP := Lib.hid HX.out
          clear HX H2 HT2 HN hte hN2 HM
          have hm2 : many f2 32 ≤ 65536 := by have := HP.out.2.2.1; omega
          have HAl := Lib.hid (lall_any (HP.out.1.box.new (below_dn (Below.refl _ _) 1)) (HT.out _ (HP.out.1.low.trans ((below_dn (Below.refl _ _) 1).mono HP.out.1.low.size))) hm2)
          have HOf := Lib.hid (show ∀ wz, Below wc.heap.size wc wz → Calls Tryd.prog 11 #[.pointer (some ⟨B, 0, none⟩), .int .i64 a] wz fun e w' => ∃ v, e = .returned v ∧ w'.ownsRow wz.heap.size 3 1 v (ofF f2 a).length (rowI (ofF f2 a)) ∧ Below wz.heap.size wz w' from fun wz hb => lof_any (HP.out.1.box.new hb) hm2 a)
          obtain ⟨X, hX⟩ : ∃ X, toldF f2 = X := ⟨_, rfl⟩
          obtain ⟨Y, hY⟩ : ∃ Y, ofF f2 a = Y := ⟨_, rfl⟩
          have HAt := Lib.hid (show ∀ n, n < X.length → (pth X n).1 = a → cntK X a n < Y.length ∧ nth Y (cntK X a n) = (pth X n).2 from by rw [← hX, ← hY]; exact of_at f2 a)
          have HLe := Lib.hid (show cntK X a X.length = Y.length from by rw [← hX, ← hY]; exact of_len f2 a)
          have HXm := Lib.hid (show X.length = many f2 32 by rw [← hX]; exact toldF_len f2)
          have HXX := Lib.hid hX
          rw [hX] at HAl ⊢
          rw [hY] at HOf
          clear hX hY
          obtain ⟨N, hN⟩ : ∃ N, X.length = N := ⟨_, rfl⟩
          obtain ⟨M, hM⟩ : ∃ M, Y.length = M := ⟨_, rfl⟩
          rw [hN] at HAl HAt HLe HXm ⊢
          rw [hM] at HOf HAt HLe
          have HNM := Lib.hid (And.intro hN hM)
          have hN2 : N ≤ 1000 := by have := HXm.out; have := HP.out.2.2.1; omega
          have hM2 : M ≤ 1000 := by have := HLe.out; have := cntK_le X a N; omega
          clear hN hM hm2
          have k1 : wc.cell? ⟨Wo, 1, none⟩ = some (.int .i64 a) := HP.out.2.1.cell 1
          go_upto_region 26 with fail
          refine wp_region_held_drew (S := fun w' => w'.cell? ⟨Wo, 1, none⟩ = some (.int .i64 a)) (by kernel_rfl) k1 (fun hS => ?_)
          refine wpAnyH_take (i := 0) (oi := { dst := some 111, op := .move (.tmp 5), type := 23, pos := "law.go:107", after := #[], guard := none }) (v := ?_) rfl (by kernel_rfl) (by kernel_rfl) (by kernel_rfl) (fun _ _ _ h => h) (Or.inl ⟨by rfl, ?_⟩) hS ?_
          rotate_left 1
          · intro w hw; obtain s0 := hw; go_simp; try (with_reducible rfl)
          simp only [Act.put, List.setIfInBounds_toArray, List.set_cons_zero, List.set_cons_succ]
          refine wpAnyH_take (i := 2) (oi := { dst := some 113, op := .move (.tmp 5), type := 23, pos := "law.go:107", after := #[], guard := none }) (v := ?_) rfl (by kernel_rfl) (by kernel_rfl) (by kernel_rfl) (fun _ _ _ h => h) (Or.inl ⟨by rfl, ?_⟩) hS ?_
          rotate_left 1
          · intro w hw; obtain s0 := hw; go_simp; try (with_reducible rfl)
          simp only [Act.put, List.setIfInBounds_toArray, List.set_cons_zero, List.set_cons_succ]
          refine wpAnyH_take (i := 3) (oi := { dst := some 114, op := .fieldAddr 32 (.tmp 9) 1, type := 0, pos := "law.go:107", after := #[], guard := none }) (v := ?_) rfl (by kernel_rfl) (by kernel_rfl) (by kernel_rfl) (fun _ _ _ h => h) (Or.inl ⟨by rfl, ?_⟩) hS ?_
          rotate_left 1
          · intro w hw; obtain s0 := hw; go_simp; try (with_reducible rfl)
          simp only [Act.put, List.setIfInBounds_toArray, List.set_cons_zero, List.set_cons_succ]
          refine wpAnyH_take (i := 4) (oi := { dst := some 115, op := .fieldAddr 30 (.tmp 114) 0, type := 0, pos := "law.go:107", after := #[{ on := 3, ground := .data }], guard := none }) (v := ?_) rfl (by kernel_rfl) (by kernel_rfl) (by kernel_rfl) (fun _ _ _ h => h) (Or.inl ⟨by rfl, ?_⟩) hS ?_
          rotate_left 1
          · intro w hw; obtain s0 := hw; go_simp; try (with_reducible rfl)
          simp only [Act.put, List.setIfInBounds_toArray, List.set_cons_zero, List.set_cons_succ]
          refine wpAnyH_take (i := 5) (oi := { dst := some 116, op := .load 3 (.tmp 115), type := 3, pos := "law.go:107", after := #[{ on := 4, ground := .data }], guard := none }) (v := ?_) rfl (by kernel_rfl) (by kernel_rfl) (by kernel_rfl) (fun _ _ _ h => h) (Or.inl ⟨by rfl, ?_⟩) hS ?_
          rotate_left 1
          · intro w hw; obtain s0 := hw; go_simp; try (with_reducible rfl)
          simp only [Act.put, List.setIfInBounds_toArray, List.set_cons_zero, List.set_cons_succ]
          refine wpAnyH_ready (rs := [1]) (by kernel_rfl) (by simp) (AllReadyH.cons (o := { dst := some 112, op := .call { callee := .value (.func 10), args := #[.tmp 111], argTypes := #[23] }, type := 28, pos := "law.go:107", after := #[{ on := 0, ground := .data }], guard := none }) rfl (fun K hK => ?_) AllReadyH.nil)
          go_simp
          go_at_call 10
          refine HAl.out.mono ?_
          rintro e wA ⟨vA, rfl, hoA, hbA0⟩
          have hbA : Below wc.heap.size wc wA := (below_dn (Below.refl _ _) 1).trans hbA0
          obtain ⟨spA, cpA, rfl⟩ := own_val hoA
          have HA := Lib.hid (And.intro hoA hbA)
          have HOfA := Lib.hid (HOf.out wA hbA)
          have q1 : wA.cell? ⟨Wo, 1, none⟩ = some (.int .i64 a) := (HP.out.2.1.new hbA).cell 1
          clear hoA hbA hbA0 HOf HAl
          try dsimp only
          refine hK.out _ _ q1 (fun hHeld => ?_)
          clear hK K
          try simp only [Act.put, List.setIfInBounds_toArray, List.set_cons_zero, List.set_cons_succ]
          refine wpAnyH_ready (rs := [6]) (by kernel_rfl) (by simp) (AllReadyH.cons (o := { dst := some 117, op := .call { callee := .value (.func 11), args := #[.tmp 113, .tmp 116], argTypes := #[23, 3] }, type := 40, pos := "law.go:107", after := #[{ on := 2, ground := .data }, { on := 5, ground := .data }, { on := 1, ground := .chain }], guard := none }) rfl (fun K hK => ?_) AllReadyH.nil)
          go_simp
          go_at_call 11
          refine HOfA.out.mono ?_
          rintro e wB ⟨vB, rfl, hoB, hbB⟩
          obtain ⟨spB, cpB, rfl⟩ := own_val hoB
          have HB2 := Lib.hid (And.intro hoB hbB)
          have q2 : wB.cell? ⟨Wo, 1, none⟩ = some (.int .i64 a) := ((HP.out.2.1.new HA.out.2).new hbB).cell 1
          clear hoB hbB HOfA
          try dsimp only
          refine hK.out _ _ q2 (fun hHeld => ?_)
          clear hK K
          try simp only [Act.put, List.setIfInBounds_toArray, List.set_cons_zero, List.set_cons_succ]
          refine wpAnyH_ready (rs := [7]) (by kernel_rfl) (by simp) (AllReadyH.cons (o := { dst := some 16, op := .assign (.tmp 112), type := 28, pos := "law.go:107", after := #[{ on := 1, ground := .data }, { on := 6, ground := .chain }, { on := 0, ground := .phase }, { on := 1, ground := .phase }, { on := 2, ground := .textOnly Go.Departure.lateStores }, { on := 3, ground := .textOnly Go.Departure.lateStores }, { on := 4, ground := .textOnly Go.Departure.lateStores }, { on := 5, ground := .textOnly Go.Departure.lateStores }, { on := 6, ground := .textOnly Go.Departure.lateStoresUnsure }], guard := none }) rfl (fun K hK => ?_) AllReadyH.nil)
          go_simp
          refine hK.out _ _ q2 (fun hHeld => ?_)
          clear hK K
          try simp only [Act.put, List.setIfInBounds_toArray, List.set_cons_zero, List.set_cons_succ]
          refine wpAnyH_ready (rs := [8]) (by kernel_rfl) (by simp) (AllReadyH.cons (o := { dst := some 17, op := .assign (.tmp 117), type := 40, pos := "law.go:107", after := #[{ on := 6, ground := .data }, { on := 7, ground := .chain }, { on := 0, ground := .phase }, { on := 1, ground := .phase }, { on := 2, ground := .phase }, { on := 3, ground := .phase }, { on := 4, ground := .phase }, { on := 5, ground := .phase }, { on := 6, ground := .phase }, { on := 7, ground := .phase }], guard := none }) rfl (fun K hK => ?_) AllReadyH.nil)
          go_simp
          refine hK.out _ _ q2 (fun hHeld => ?_)
          clear hK K
          try simp only [Act.put, List.setIfInBounds_toArray, List.set_cons_zero, List.set_cons_succ]
          refine wpAnyH_done (by kernel_rfl) ?_ _

          clear k1 q1
          obtain ⟨hRB, hXB, hYB⟩ : RAt w wB B rm f2 sp2 cap2 V2 ∧ wB.ownsRow wc.heap.size 30 2 (.slice spA N cpA) N (prow X) ∧ wB.ownsRow wA.heap.size 3 1 (.slice spB M cpB) M (rowI Y) := by
            refine ⟨(HP.out.1.new HA.out.2).new HB2.out.2, own_same HA.out.1 fun g hg => HB2.out.2.block g (HA.out.1.lt g hg).2, HB2.out.1⟩
          have HR2 := Lib.hid hRB
          obtain ⟨rb, ro, hr1, hr2⟩ := hRB.row
          rw [HXX.out] at hr1 hr2
          have HRow := Lib.hid (And.intro hr1 hr2)
          have HXB := Lib.hid hXB
          have HYB := Lib.hid hYB
          clear hRB hXB hYB hr1 hr2
          have HP2 := Lib.hid (And.intro HP.out.2.2.1 HP.out.2.2.2)
          have HLo := Lib.hid HR2.out.low
          clear HP HA HB2
          go_wp2
          go_loopg [18, 19] N (fun g s18 s19 wr => ∃ n : Nat, n + g = N ∧ s19 = .int .i64 (n : Nat) ∧ s18 = .int .i64 (cntK X a n : Nat) ∧ Aside (∃ q, wr = wB.drewN q))
          case atStart => exact ⟨0, by omega, rfl, by rw [cntK_zero]; rfl, 0, rfl⟩
          case round =>
            obtain ⟨n, hng, rfl, rfl, HD⟩ := hrel
            obtain ⟨q, rfl⟩ := HD.out
            clear HD
            cases gk with
            | zero =>
              obtain rfl : n = N := by omega
              have hle := HLe.out
              rw [hle]
              obtain ⟨spx, cpx, hBX⟩ := HR2.out.box
              have HLn := Lib.hid (fun nq => mlen_any (w := wB.drewN nq) (hBX.new (below_dn (Below.refl _ _) _)) (by have := HXm.out; omega))
              have hxm := HXm.out
              rw [← hxm] at HLn
              clear hBX hle hxm q2
              go_wp2_with (go_at_call 12; refine (HLn.out _).mono ?_; rintro e w' ⟨rfl, rfl⟩)
              go_roundg g1
              case measure => omega
              case rel => exact ⟨i + 1, f2, sp2, cap2, V2, by have := HII.out.2; omega, by rw [HXX.out, HNM.out.1], by go_num, HR2.out.new (below_dn (Below.refl _ _) _), HP2.out.1, HP2.out.2⟩
            | succ g2 =>
              have hlt : n < N := by omega
              obtain ⟨gA, cA, hvA, -, -, hcA⟩ := own_notes HXB.out HNM.out.1.symm (by omega)
              have hv1 : spA = some ⟨gA, 0, none⟩ := by injection hvA
              subst hv1
              obtain ⟨a0, a1⟩ := hcA n hlt
              obtain ⟨hs2, -⟩ := HRow.out.1 (by rw [HNM.out.1]; omega)
              subst hs2
              have hpa := prow_at X n (by rw [HNM.out.1]; exact hlt)
              have r0 := HRow.out.2 _ _ hpa.1
              have r1 := HRow.out.2 _ _ hpa.2
              rw [show ro + 2 * n = ro + n * 2 by omega] at r0
              rw [show ro + (2 * n + 1) = ro + n * 2 + 1 by omega] at r1
              have hat := HAt.out n hlt
              have hcl := cntK_le X a n
              have HY1 := Lib.hid (@cntK_yes X a n (by rw [HNM.out.1]; exact hlt))
              have HN1 := Lib.hid (@cntK_no X a n (by rw [HNM.out.1]; exact hlt))
              obtain ⟨k, hk⟩ : ∃ k, cntK X a n = k := ⟨_, rfl⟩
              rw [hk] at hat hcl HY1 HN1
              have HK := Lib.hid hk
              obtain ⟨y0, hy0⟩ : ∃ y0, (pth X n).1 = y0 := ⟨_, rfl⟩
              obtain ⟨y1, hy1⟩ : ∃ y1, (pth X n).2 = y1 := ⟨_, rfl⟩
              rw [hy0] at a0 r0 hat HY1 HN1
              rw [hy1] at a1 r1 hat
              rw [hk]
              have e1 : (n : Int) < (N : Int) := by omega
              have e2 : (k : Int) + 1 ≤ 1000 := by omega
              have e3 : (n : Int) + 1 ≤ 1000 := by omega
              clear hk hy0 hy1 hvA hcA hpa
              by_cases hya : y0 = a
              · obtain ⟨hkM, hyk⟩ := hat hya
                obtain ⟨sp3, gB, cB, hvB, hsB, hcB⟩ := own_ints HYB.out HNM.out.2.symm
                have hv2 : spB = some ⟨gB, 0, none⟩ := by
                  injection hvB with e1 _ _
                  rw [e1]; exact (hsB (by omega)).1
                subst hv2
                have b0 := hcB k hkM
                rw [hyk] at b0
                subst hya
                have e4 : (k : Int) < (M : Int) := by omega
                clear hat hvB hsB hcB hyk
                have HY2 := Lib.hid (HY1.out rfl)
                go_wp2
                go_quiet (fail)
                go_wp2
                go_quiet (fail)
                go_wp2
                go_quiet (fail)
                go_wp2
                go_roundg g2
                case measure => omega
                case rel => exact ⟨n + 1, by omega, by go_num, by rw [HY2.out]; go_num, _, rfl⟩
              · have hyb : (y0 == a) = false := by simpa using hya
                have HN2 := Lib.hid (HN1.out hya)
                clear hat hya
                go_wp2
                go_quiet (fail)
                go_wp2
                go_quiet (fail)
                go_wp2
                go_roundg g2
                case measure => omega
                case rel => exact ⟨n + 1, by omega, by go_num, by rw [HN2.out], _, rfl⟩
end Go.Proofs.YtbdcjfkplopbiaaDoor
