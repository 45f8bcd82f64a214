/- The walk of MboxOrder. -/
import Derived.Test.YthnbckcilcfhnaaDoorUH
namespace Go.Proofs.YthnbckcilcfhnaaDoor
open Go.RowKit

theorem BAt.new {w w' : World} {V : Nat → Prop} {B : Nat} {rm : Int} {f : Nat → List Int} (h : BAt w V B rm f) (hb : Below w.heap.size w w') : BAt w' V B rm f := by
  obtain ⟨sp, cp, hx⟩ := h; exact ⟨sp, cp, hx.new hb⟩
theorem BAt.inV {w w' : World} {V : Nat → Prop} {B : Nat} {rm : Int} {f : Nat → List Int} (h : BAt w V B rm f) (hc : Ch V w w') : BAt w' V B rm f := by
  obtain ⟨sp, cp, hx⟩ := h; exact ⟨sp, cp, hx.inV hc⟩
theorem BAt.more {w : World} {V V' : Nat → Prop} {B : Nat} {rm : Int} {f : Nat → List Int} (h : BAt w V B rm f) (hV : ∀ j, j < w.heap.size → V' j → V j) : BAt w V' B rm f := by
  obtain ⟨sp, cp, hx⟩ := h; exact ⟨sp, cp, hx.more hV⟩
/-- What a call's end asks, of a world where no block of V has turned. -/
structure Vs (w : World) (V : Nat → Prop) : Prop where
  v : V = fun j => j < w.heap.size
  tab : Tab w
theorem Vs.at_ {w wx : World} {V : Nat → Prop} (h : Vs w V) (hc : Ch (fun j => ¬ V j) w wx) : Tab wx ∧ Below w.heap.size w wx ∧ ∀ j, V j → j < wx.heap.size := by
  have hv := h.v
  subst hv
  have hb : Below w.heap.size w wx := hc.below (fun k hk hn => hn hk) (Nat.le_refl _)
  exact ⟨h.tab.below h.tab.pos hb, hb, fun j hj => Nat.lt_of_lt_of_le hj hb.size⟩
theorem Vs.below {w wx : World} {V : Nat → Prop} (h : Vs w V) (hb : Below w.heap.size w wx) : Ch (fun j => ¬ V j) w wx := by
  have hv := h.v
  subst hv
  exact Ch.new hb
set_option maxHeartbeats 8000000 in
set_option maxRecDepth 100000 in
theorem law_order (sp : Option Addr) (b off cap : Nat) (D : List Int) (w : World) (ht : Tab w) (_hlen : D.length ≤ 9223372036854775807) (hD : Lies w sp b off D) :
    Calls Tryd.prog 4 #[.slice sp D.length cap] w fun e w' => e = .returned (.bool true) ∧ Below w.heap.size w w' := by
  by_cases hn : D.length ≤ 200
  case neg =>
    have d2 : (200 : Int) < (D.length : Int) := by omega
    clear hD hn
    go_enter Tryd.func4, Tryd.ntmps4
    go_wp2
    go_ret
    exact ⟨rfl, Below.refl _ _⟩
  have d1 : ¬ (200 : Int) < (D.length : Int) := by omega
  obtain ⟨B, hB⟩ : ∃ B, B = w.heap.size := ⟨_, rfl⟩
  obtain ⟨V, hV⟩ : ∃ V : Nat → Prop, V = fun j => j < w.heap.size := ⟨_, rfl⟩
  have HV := Lib.hid (Vs.mk hV ht)
  have HNw := Lib.hid (mnew_some V 200 (by decide) (by decide) w (fun j hj => by rw [hV] at hj; exact hj))
  rw [← hB] at HNw
  have HB := Lib.hid hB
  obtain ⟨NN, hN⟩ : ∃ N, N = D.length := ⟨_, rfl⟩
  have HD := Lib.hid (And.intro hN hD)
  rw [← hN] at hn d1 ⊢
  clear hD hN ht hV hB
  go_enter Tryd.func4, Tryd.ntmps4
  go_upto_region 4 with (go_at_call 5; refine HNw.out.mono ?_; rintro e w1 ⟨rfl, h1, b1⟩; have H1 := Lib.hid (And.intro h1 (Vs.below HV.out (by rw [HB.out] at b1; exact b1))); clear h1 b1)
  go_wp2
  go_loopg [5, 6] NN (fun g s5 s6 wr => ∃ (i : Nat) (f : Nat → List Int), i + g = NN ∧ s5 = .int .i64 (many f 32 : Nat) ∧ s6 = .int .i64 (i : Nat) ∧ Aside (BAt wr V B 200 f ∧ Ch (fun j => ¬ V j) w wr ∧ SendP D i f))
  case atStart => exact ⟨0, f0, by omega, by rw [many_f0]; rfl, rfl, H1.out.1, H1.out.2, SendP.start D⟩
  case round =>
    obtain ⟨i, f, hig, rfl, rfl, HR⟩ := hrel
    clear H1
    have HVr := Lib.hid (HV.out.at_ HR.out.2.1)
    cases gk with
    | succ g1 =>
      have hi : i < NN := by omega
      obtain ⟨hsp, hbw⟩ := HD.out.2.1 (by have := HD.out.1; omega)
      subst hsp
      have hc := HD.out.2.2 i (by have := HD.out.1; omega)
      have c0 : wr.cell? ⟨b, off + i, none⟩ = some (.int .i64 (nth D i)) := (HVr.out.2.1.cell (p := ⟨b, off + i, none⟩) hbw).trans hc
      obtain ⟨t, htt⟩ : ∃ t, nth D i = t := ⟨_, rfl⟩
      rw [htt] at c0
      have HTt := Lib.hid htt
      have HII := Lib.hid (And.intro hi hig)
      have hm := HR.out.2.2.mn
      have hmi : (i : Int) + 1 ≤ 200 := by omega
      clear hc hbw htt hig
      by_cases hr : 0 ≤ t ∧ t < 32
      · obtain ⟨d, rfl⟩ := Int.eq_ofNat_of_zero_le hr.1
        have hd : d < 32 := by omega
        have HS := Lib.hid (send_room HR.out.1 HVr.out.2.2 d (i : Int) hd (by omega) (by omega))
        have HP := Lib.hid (HR.out.2.2.send d hd (by have := HD.out.1; omega) HTt.out)
        obtain ⟨m, hmm⟩ : ∃ m, many f 32 = m := ⟨_, rfl⟩
        rw [hmm] at hm HP ⊢
        have e1 : IntKind.i64.wrap (((m : Nat) : Int) + 1) = ((m + 1 : Nat) : Int) := by rw [IntKind.wrap_i64]; omega
        have e2 : ((m : Nat) : Int) + 1 ≤ 200 := by omega
        clear hr hd hmm
        go_wp2_with (go_at_call 8; refine HS.out.mono ?_; rintro e w3 ⟨rfl, h3, c3⟩; have H3 := Lib.hid (And.intro h3 (HR.out.2.1.trans c3)); clear h3 c3)
        go_roundg g1
        case measure => omega
        case rel => exact ⟨i + 1, _, by have := HII.out.2; omega, by rw [HP.out.2]; go_num, by go_num, H3.out.1, H3.out.2, HP.out.1⟩
      · have HS := Lib.hid (send_bad (w := wr) (B := B) t (i : Int) hr)
        obtain ⟨m, hmm⟩ : ∃ m, many f 32 = m := ⟨_, rfl⟩
        rw [hmm] at hm ⊢
        have HM := Lib.hid hmm
        clear hr hmm
        go_wp2_with (go_at_call 8; refine HS.out.mono ?_; rintro e w3 ⟨rfl, b3⟩; have H3 := Lib.hid b3; clear b3)
        go_roundg g1
        case measure => omega
        case rel => exact ⟨i + 1, f, by have := HII.out.2; omega, by rw [HM.out], by go_num, HR.out.1.new H3.out, HR.out.2.1.trans (Ch.new H3.out), HR.out.2.2.skip⟩
    | zero =>
      obtain rfl : i = NN := by omega
      have hM200 : many f 32 ≤ 200 := by have := HR.out.2.2.mn; omega
      obtain ⟨M, hM⟩ : ∃ M, many f 32 = M := ⟨_, rfl⟩
      have HM := Lib.hid hM
      rw [hM] at hM200 ⊢
      clear hM
      obtain ⟨Wb, hWb⟩ : ∃ Wb, Wb = wr.heap.size := ⟨_, rfl⟩
      go_upto_region 14 with fail
      rw [← hWb]
      generalize hw2 : World.alloc _ _ = w2
      obtain ⟨V1, hV1⟩ : ∃ V1 : Nat → Prop, V1 = fun j => V j ∨ j = Wb := ⟨_, rfl⟩
      have b2 : Below wr.heap.size wr w2 := by rw [← hw2]; exact (Below.refl _ _).alloc (Nat.le_refl _) _
      have H2 := Lib.hid (show BAt w2 V1 B 200 f ∧ Ch (fun j => ¬ V j) w w2 ∧ RowAt w2 Wb 30 #[.int .i64 (-1), .int .i64 0] from
        ⟨(HR.out.1.more (V' := V1) (fun j hj hv => by rw [hV1] at hv; rcases hv with hv | hv; exact hv; omega)).new b2, HR.out.2.1.trans (Ch.new b2), by rw [← hw2, hWb]; exact RowAt.mk _ _ _⟩)
      have HV1 := Lib.hid hV1
      have HWn := Lib.hid (show ¬ V Wb from fun hv => by have := HVr.out.2.2 Wb hv; omega)
      have HP := Lib.hid HR.out.2.2.taken
      clear hw2 b2 hV1 hWb HR HVr
      go_wp2
      go_loopg [10] M (fun g s10 wr => ∃ (i : Nat) (f : Nat → List Int) (wd ww : Int), i + g = M ∧ s10 = .int .i64 (i : Nat) ∧ Aside (BAt wr V1 B 200 f ∧ Ch (fun j => ¬ V j) w wr ∧ RowAt wr Wb 30 #[.int .i64 wd, .int .i64 ww] ∧ TakeP D f wd ww ∧ many f 32 + i = M))
      case atStart => exact ⟨0, f, -1, 0, by omega, rfl, H2.out.1, H2.out.2.1, H2.out.2.2, HP.out, HM.out⟩
      case round =>
        obtain ⟨i2, f2, wd, ww, hig, rfl, HQ⟩ := hrel
        have HVr := Lib.hid (HV.out.at_ HQ.out.2.1)
        have HV1r := Lib.hid (show ∀ j, V1 j → j < wr.heap.size from fun j hj => by
          rw [HV1.out] at hj
          rcases hj with hj | hj
          · exact HVr.out.2.2 j hj
          · have := HQ.out.2.2.1.lt; omega)
        cases gk with
        | succ g1 =>
          have hne : lst (dgK f2 32) 32 ≠ [] := fun e => by
            have := many_zero (lst_empty e) 32 (Nat.le_refl _)
            have := HQ.out.2.2.2.2
            omega
          obtain ⟨d, l, hl⟩ : ∃ d l, lst (dgK f2 32) 32 = d :: l := List.exists_cons_of_ne_nil hne
          have hdd := (dg_cons hl).1
          have hfl : (f2 d).length ≤ 65536 := by
            have h1 := many_mono f2 (d + 1) 32 (by omega)
            have h2 : many f2 (d + 1) = many f2 d + (f2 d).length := rfl
            have := HQ.out.2.2.2.2
            omega
          have HK := Lib.hid (take_some HQ.out.1 HV1r.out HVr.out.1 d l hl hfl)
          obtain ⟨p1, p2, p3, p4, p5⟩ := HQ.out.2.2.2.1.take hl
          obtain ⟨k, pk, pkl, pkd⟩ := p4
          obtain ⟨f3, hf3⟩ : ∃ f3, updF f2 d ((f2 d).drop 1) = f3 := ⟨_, rfl⟩
          rw [pk] at HK p1 p3
          rw [hf3] at HK p1 p5
          have HMM2 := Lib.hid HQ.out.2.2.2.2
          have HP1 := Lib.hid (And.intro p1 (And.intro p5 hig))
          have hkN : k < i := by have := HD.out.1; omega
          obtain ⟨hsp, hbw⟩ := HD.out.2.1 (by omega)
          subst hsp
          have hcD := HD.out.2.2 k pkl
          rw [pkd] at hcD
          have HcD := Lib.hid (And.intro hbw hcD)
          have hi2 : (i2 : Int) + 1 ≤ 200 := by have := HQ.out.2.2.2.2; omega
          have hi3 : i2 < M := by omega
          have q2 : ¬ ((d : Int) < wd) := by omega
          have q5 : (k : Int) < (i : Int) := by omega
          have q6 : ¬ ((i : Int) ≤ (k : Int)) := by omega
          have q7 : (0 : Int) ≤ (k : Int) := by omega
          clear hne hl hdd hfl p1 p2 p5 pk pkl pkd hf3 hbw hcD hig
          obtain ⟨nb, hnb⟩ : ∃ nb : World → Nat, nb = fun w => w.heap.size := ⟨_, rfl⟩
          go_upto_region 18 with (go_at_call 7; refine HK.out.mono ?_; rintro e w3 ⟨rfl, h3, c3⟩; have H3 := Lib.hid (And.intro h3 (And.intro c3 (Nat.le_refl w3.heap.size))); clear h3 c3)
          obtain ⟨Nb, hNb⟩ : ∃ Nb, Nb = w3.heap.size := ⟨_, rfl⟩
          rw [← hNb]
          generalize hw4 : World.alloc _ _ = w4
          have b4 : Below w3.heap.size w3 w4 := by rw [← hw4]; exact (Below.refl _ _).alloc (Nat.le_refl _) _
          have c13 : Ch (fun j => ¬ V j) wr w3 := H3.out.2.1.mono (fun j _ hn hv => hn (by rw [HV1.out]; exact .inl hv))
          have H4 := Lib.hid (show BAt w4 V1 B 200 f3 ∧ Ch (fun j => ¬ V j) w w4 ∧ RowAt w4 Wb 30 #[.int .i64 wd, .int .i64 ww] ∧ RowAt w4 Nb 30 #[.int .i64 (d : Nat), .int .i64 (k : Nat)] from
            ⟨H3.out.1.new b4, (HQ.out.2.1.trans c13).trans (Ch.new b4), (HQ.out.2.2.1.keep H3.out.2.1 (fun hn => hn (by rw [HV1.out]; exact .inr rfl))).new b4, by rw [← hw4, hNb]; exact RowAt.mk _ _ _⟩)
          have n0 : w4.cell? ⟨Nb, 0, none⟩ = some (.int .i64 (d : Nat)) := H4.out.2.2.2.cell 0
          have n1 : w4.cell? ⟨Nb, 1, none⟩ = some (.int .i64 (k : Nat)) := H4.out.2.2.2.cell 1
          have u0 : w4.cell? ⟨Wb, 0, none⟩ = some (.int .i64 wd) := H4.out.2.2.1.cell 0
          have u1 : w4.cell? ⟨Wb, 1, none⟩ = some (.int .i64 ww) := H4.out.2.2.1.cell 1
          have v0 : w4.frozen? ⟨Wb, 0, none⟩ = false := H4.out.2.2.1.fr 0
          have v1 : w4.frozen? ⟨Wb, 1, none⟩ = false := H4.out.2.2.1.fr 1
          have cD : w4.cell? ⟨b, off + k, none⟩ = some (.int .i64 (d : Nat)) := ((HV.out.at_ H4.out.2.1).2.1.cell (p := ⟨b, off + k, none⟩) HcD.out.1).trans HcD.out.2
          have HI2 := Lib.hid hi3
          have HWV := Lib.hid (show ∀ j, j = Wb → ¬ V j from fun j e hv => HWn.out (e ▸ hv))
          clear hw4 b4 c13 hNb hnb HK H3 HQ HVr HV1r hi3
          by_cases hdw : (d : Int) = wd
          · have q3 := p3 hdw
            subst hdw
            have q4 : ¬ ((k : Int) ≤ ww) := by omega
            clear p3
            go_quiet (fail)
            generalize hwq : World.drewN _ _ = wq
            have H5 := Lib.hid (show BAt wq V1 B 200 f3 ∧ Ch (fun j => ¬ V j) w wq ∧ RowAt wq Wb 30 #[.int .i64 (d : Int), .int .i64 ww] ∧ RowAt wq Nb 30 #[.int .i64 (d : Nat), .int .i64 (k : Nat)] by
              rw [← hwq]; exact ⟨H4.out.1.new (below_dn (Below.refl _ _) _), H4.out.2.1.drewN _, H4.out.2.2.1, H4.out.2.2.2⟩)
            clear hwq H4 n0 n1 u0 u1 v0 v1 cD
            go_wp2_with (first
              | (refine wpList_load_row rfl 30 (.tmp 11) rfl Nb rfl 30 #[.int .i64 (d : Nat), .int .i64 (k : Nat)] (0, 0) _ H5.out.2.2.2 Tryd.underlying30 rfl (by kernel_rfl) ?_)
              | (refine wpList_store_row rfl 30 (.tmp 9) (.tmp 100) rfl Wb #[.int .i64 (d : Nat), .int .i64 (k : Nat)] rfl rfl 30 _ H5.out.2.2.1 (by kernel_rfl) rfl (note_one _ _) ?_)
              | fail)
            have hcs := ch_setRow wq Wb #[.int .i64 (d : Nat), .int .i64 (k : Nat)]
            have HE := Lib.hid (show BAt (wq.setRow Wb #[.int .i64 (d : Nat), .int .i64 (k : Nat)]) V1 B 200 f3 ∧ Ch (fun j => ¬ V j) w (wq.setRow Wb #[.int .i64 (d : Nat), .int .i64 (k : Nat)]) ∧ RowAt (wq.setRow Wb #[.int .i64 (d : Nat), .int .i64 (k : Nat)]) Wb 30 #[.int .i64 (d : Nat), .int .i64 (k : Nat)] from
              ⟨H5.out.1.inV (hcs.mono (fun j _ e => by rw [HV1.out]; exact .inr e)), H5.out.2.1.trans (hcs.mono (fun j _ e hv => HWV.out j e hv)), H5.out.2.2.1.put⟩)
            clear hcs H5
            go_roundg g1
            case measure => omega
            case rel => exact ⟨i2 + 1, f3, (d : Int), (k : Int), by have := HP1.out.2.2; omega, by go_num, HE.out.1, HE.out.2.1, HE.out.2.2, HP1.out.1, by have := HP1.out.2.1; have := HI2.out; have := HMM2.out; omega⟩
          · have q3 : ((d : Int) == wd) = false := by simpa using hdw
            clear p3
            go_quiet (fail)
            generalize hwq : World.drewN _ _ = wq
            have H5 := Lib.hid (show BAt wq V1 B 200 f3 ∧ Ch (fun j => ¬ V j) w wq ∧ RowAt wq Wb 30 #[.int .i64 wd, .int .i64 ww] ∧ RowAt wq Nb 30 #[.int .i64 (d : Nat), .int .i64 (k : Nat)] by
              rw [← hwq]; exact ⟨H4.out.1.new (below_dn (Below.refl _ _) _), H4.out.2.1.drewN _, H4.out.2.2.1, H4.out.2.2.2⟩)
            clear hwq H4 n0 n1 u0 u1 v0 v1 cD
            go_wp2_with (first
              | (refine wpList_load_row rfl 30 (.tmp 11) rfl Nb rfl 30 #[.int .i64 (d : Nat), .int .i64 (k : Nat)] (0, 0) _ H5.out.2.2.2 Tryd.underlying30 rfl (by kernel_rfl) ?_)
              | (refine wpList_store_row rfl 30 (.tmp 9) (.tmp 100) rfl Wb #[.int .i64 (d : Nat), .int .i64 (k : Nat)] rfl rfl 30 _ H5.out.2.2.1 (by kernel_rfl) rfl (note_one _ _) ?_)
              | fail)
            have hcs := ch_setRow wq Wb #[.int .i64 (d : Nat), .int .i64 (k : Nat)]
            have HE := Lib.hid (show BAt (wq.setRow Wb #[.int .i64 (d : Nat), .int .i64 (k : Nat)]) V1 B 200 f3 ∧ Ch (fun j => ¬ V j) w (wq.setRow Wb #[.int .i64 (d : Nat), .int .i64 (k : Nat)]) ∧ RowAt (wq.setRow Wb #[.int .i64 (d : Nat), .int .i64 (k : Nat)]) Wb 30 #[.int .i64 (d : Nat), .int .i64 (k : Nat)] from
              ⟨H5.out.1.inV (hcs.mono (fun j _ e => by rw [HV1.out]; exact .inr e)), H5.out.2.1.trans (hcs.mono (fun j _ e hv => HWV.out j e hv)), H5.out.2.2.1.put⟩)
            clear hcs H5
            go_roundg g1
            case measure => omega
            case rel => exact ⟨i2 + 1, f3, (d : Int), (k : Int), by have := HP1.out.2.2; omega, by go_num, HE.out.1, HE.out.2.1, HE.out.2.2, HP1.out.1, by have := HP1.out.2.1; have := HI2.out; have := HMM2.out; omega⟩
        | zero =>
          obtain rfl : i2 = M := by omega
          have HK := Lib.hid (take_no HQ.out.1 HVr.out.1 (empty_lst (by have := HQ.out.2.2.2.2; omega)))
          go_upto_region 22 with (go_at_call 7; refine HK.out.mono ?_; rintro e w3 ⟨rfl, -, b3⟩; have H3 := Lib.hid (HQ.out.2.1.trans (Ch.new b3)); clear b3)
          generalize hw4 : World.alloc _ _ = w4
          have H4 := Lib.hid (show Ch (fun j => ¬ V j) w w4 by rw [← hw4]; exact H3.out.alloc _)
          have HAl := Lib.hid (malive_any w4 (HV.out.at_ H4.out).1)
          clear hw4
          go_wp2_with (go_at_call 6; refine HAl.out.mono ?_; rintro e w5 ⟨rfl, b5⟩; have H5 := Lib.hid b5; clear b5)
          go_ret
          exact ⟨rfl, (HV.out.at_ H4.out).2.1.trans (H5.out.mono (HV.out.at_ H4.out).2.1.size)⟩
end Go.Proofs.YthnbckcilcfhnaaDoor
