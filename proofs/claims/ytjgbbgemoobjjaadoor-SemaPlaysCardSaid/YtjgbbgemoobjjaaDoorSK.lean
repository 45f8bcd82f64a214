/- The walk of SemaPlays. -/
import Derived.Test.YtjgbbgemoobjjaaDoorSKa
namespace Go.Proofs.YtjgbbgemoobjjaaDoor
open Go.RowKit

theorem md_new (mo : Int) : (md mo z0 none 0 0).toArray = #[.int .i64 mo, .int .i64 0, .int .i64 0, .int .i64 0, .int .i64 0, .int .i64 0, .int .i64 0, .int .i64 0, .int .i64 0, .int .i64 0, .int .i64 0, .int .i64 0, .int .i64 0, .int .i64 0, .int .i64 0, .int .i64 0, .int .i64 0, .slice none 0 0] := by rfl
theorem PX.start {w0 w1 : World} {mo : Int} {o : Array Value} (hs : SAt w1 w0.heap.size mo ⟨mo, z0, 0#32⟩) (hb : Below w0.heap.size w0 w1) : PX w0 ((w1.alloc (.cells o 48)).setRow w1.heap.size (md mo z0 none 0 0).toArray) w0.heap.size w1.heap.size mo ⟨mo, z0, 0#32⟩ ⟨mo, z0, 0#32⟩ none 0 := by
  have ha : Below w1.heap.size w1 (w1.alloc (.cells o 48)) := (Below.refl _ _).alloc (Nat.le_refl _) _
  have hb2 : Below w1.heap.size w1 ((w1.alloc (.cells o 48)).setRow w1.heap.size (md mo z0 none 0 0).toArray) := ha.trans ((ch_setRow _ w1.heap.size _).below (fun k hk e => by omega) ha.size)
  have e : ws 0#32 = [] := by unfold ws; rw [lst_zero]; rfl
  refine ⟨hs.new hb2, ?_, ?_, hb.trans (hb2.mono hb.size), Nat.le_refl _, hs.lt⟩
  · show RowAt _ _ _ (md mo z0 none (ws 0#32).length 0).toArray
    rw [e]; exact (RowAt.mk _ _ _).put
  · show SI _ _ none 0 (ws 0#32)
    rw [e]; exact SI.none _ _
set_option maxHeartbeats 16000000 in
set_option maxRecDepth 100000 in
theorem law_sema (mo : Int) (sp : Option Addr) (b off cap : Nat) (O : List (Int × Int)) (w : World) (ht : Tab w) (hlen : O.length ≤ 9223372036854775807) (hO : OpsS w sp b off O) :
    Calls Tryd.prog 5 #[.int .i64 mo, .slice sp O.length cap] w fun e w' => e = .returned (.bool true) ∧ Below w.heap.size w w' := by
  by_cases hn : O.length ≤ 200
  case neg => exact law_many mo sp cap _ hn w
  by_cases hm : mo < 1 ∨ 65536 < mo
  case pos => exact law_none mo sp cap _ hn w ht hm
  have d1 : ¬ (200 : Int) < (O.length : Int) := by omega
  have HO := Lib.hid hO
  have HT := Lib.hid ht
  obtain ⟨NN, hN⟩ : ∃ N, N = O.length := ⟨_, rfl⟩
  have HN := Lib.hid hN
  rw [← hN] at hn d1 hlen ⊢
  clear hO hN ht
  have hm1 : 1 ≤ mo := by omega
  have hm2 : mo ≤ 65536 := by omega
  have HMM := Lib.hid (Inv.start mo hm1 hm2)
  have HNw := Lib.hid (snew_some mo hm1 hm2 w)
  obtain ⟨B, hB⟩ : ∃ B, B = w.heap.size := ⟨_, rfl⟩
  have HBB := Lib.hid hB
  have HB0 := Lib.hid (show B ≠ 0 by rw [hB]; have := HT.out.pos; omega)
  have hm3 : ¬ mo < 1 := by omega
  have hm4 : ¬ 65536 < mo := by omega
  clear hm hm1 hm2
  go_enter Tryd.func5, Tryd.ntmps5
  go_upto_region 6 with (go_at_call 15; refine HNw.out.mono ?_; rintro e w1 ⟨rfl, p1, b1⟩; have H1 := Lib.hid (PX.start (o := #[.int .i64 0, .int .i64 0, .int .i64 0, .int .i64 0, .int .i64 0, .int .i64 0, .int .i64 0, .int .i64 0, .int .i64 0, .int .i64 0, .int .i64 0, .int .i64 0, .int .i64 0, .int .i64 0, .int .i64 0, .int .i64 0, .int .i64 0, .slice none 0 0]) p1 b1); clear p1 b1)
  rw [← hB]
  obtain ⟨M, hM⟩ : ∃ M, M = w1.heap.size := ⟨_, rfl⟩
  rw [← hB, ← hM] at H1
  clear hB
  have HZ := Lib.hid (show RowAt (w1.alloc (.cells #[.int .i64 0, .int .i64 0, .int .i64 0, .int .i64 0, .int .i64 0, .int .i64 0, .int .i64 0, .int .i64 0, .int .i64 0, .int .i64 0, .int .i64 0, .int .i64 0, .int .i64 0, .int .i64 0, .int .i64 0, .int .i64 0, .int .i64 0, .slice none 0 0] 48)) M 48 #[.int .i64 0, .int .i64 0, .int .i64 0, .int .i64 0, .int .i64 0, .int .i64 0, .int .i64 0, .int .i64 0, .int .i64 0, .int .i64 0, .int .i64 0, .int .i64 0, .int .i64 0, .int .i64 0, .int .i64 0, .int .i64 0, .int .i64 0, .slice none 0 0] from by rw [hM]; exact RowAt.mk _ _ _)
  go_upto_region 9 with (first
    | (refine wpList_store_row rfl 48 (.tmp 7) (.tmp 50) rfl M (md mo z0 none 0 0).toArray (by rw [hM]; rfl) rfl 48 _ HZ.out (by kernel_rfl) rfl (md_one _ _ _ _ _) ?_)
    | fail)
  rw [← hM]
  clear hM
  generalize World.setRow _ _ _ = w2 at H1 ⊢
  generalize hC : Value.agg #[Value.int IntKind.i64 mo, .int .i64 0, .int .i64 0, .int .i64 0, .int .i64 0, .int .i64 0, .int .i64 0, .int .i64 0, .int .i64 0, .int .i64 0, .int .i64 0, .int .i64 0, .int .i64 0, .int .i64 0, .int .i64 0, .int .i64 0, .int .i64 0, .slice none 0 0] = vC
  clear hC HZ
  go_wp2
  go_loopg [8] NN (fun gh s8 wr => ∃ (k : Nat) (s : St) (sp : Option Addr) (cap : Nat), k + gh = NN ∧ s8 = .int .i64 k ∧ Aside (PX w wr B M mo s s sp cap ∧ Inv mo s))
  case atStart => exact ⟨0, ⟨mo, z0, 0#32⟩, none, 0, by omega, rfl, H1.out, HMM.out⟩
  case round =>
    obtain ⟨k, s, sq, cq, hkg, rfl, HR⟩ := hrel
    clear H1
    have HTr := Lib.hid (show Tab wr from HT.out.below HT.out.pos HR.out.1.b)
    cases gk with
    | zero =>
      obtain rfl : k = NN := by omega
      have HAl := Lib.hid (alive_any wr HTr.out)
      go_wp2_with (first
        | (go_at_call 30; refine (shas_out _ (by decide)).mono ?_; rintro e w3 ⟨rfl, rfl⟩)
        | (go_at_call 16; refine HAl.out.mono ?_; rintro e w4 ⟨rfl, b4⟩; have H4 := Lib.hid b4; clear b4)
        | fail)
      go_ret
      exact ⟨rfl, HR.out.1.b.trans (H4.out.mono HR.out.1.b.size)⟩
    | succ m1 =>
      have hk : k < NN := by omega
      obtain ⟨hsp, hbw⟩ := HO.out.1 (by have := HN.out; omega)
      subst hsp
      have hc := HO.out.2 k (by have := HN.out; omega)
      obtain ⟨K, hK⟩ : ∃ K, (opS O k).1 = K := ⟨_, rfl⟩
      obtain ⟨t, ht⟩ : ∃ t, (opS O k).2 = t := ⟨_, rfl⟩
      rw [hK, ht] at hc
      have c0 : wr.cell? ⟨b, off + k * 2, none⟩ = some (.int .i64 K) := (HR.out.1.b.cell (p := ⟨b, off + k * 2, none⟩) hbw).trans hc.1
      have c1 : wr.cell? ⟨b, off + k * 2 + 1, none⟩ = some (.int .i64 t) := (HR.out.1.b.cell (p := ⟨b, off + k * 2 + 1, none⟩) hbw).trans hc.2
      obtain ⟨kk, hkk⟩ : ∃ kk, kd7 K = kk := ⟨_, rfl⟩
      obtain ⟨x, hx, x0, x1, hy⟩ := kd7_parts K kk hkk
      have HKK := Lib.hid hkk
      obtain ⟨⟨s', a, p, f, L⟩, hst⟩ : ∃ r, stepS s K t = r := ⟨_, rfl⟩
      have HI := Lib.hid (show Inv mo s' ∧ L.length ≤ 65536 from by
        have h1 := HR.out.2.step K t
        have h2 := step_len HR.out.2 K t
        rw [hst] at h1 h2
        exact ⟨h1, h2⟩)
      have HST := Lib.hid hst
      have hlen2 : (k : Int) + 1 ≤ NN := by omega
      have HKG := Lib.hid hkg
      clear hst hkk hK ht hc hbw hkg hlen
      go_upto_block 2 with fail
      clear c0 c1 hx x0 x1
      clear hlen2
      go_cut [10, 11, 12, 13, 14, 15, 16, 17] from 51 to 192 (fun s10 s11 s12 s13 s14 s15 s16 s17 wx => s10 = .int .i64 a ∧ s11 = .int .i64 a ∧ s12 = .bool p ∧ s13 = .bool p ∧ s14 = .int .i64 f ∧ s15 = .int .i64 f ∧ Aside (∃ sp' cap', PX w wx B M mo s' s' sp' cap' ∧ R2 wx s16 s17 L))
      case first => as_aux_lemma =>
        by_cases k3 : kk = 3 ∨ kk = 4
        · have e : ((putS s t).1, (putS s t).2.1, (putS s t).2.2.1, (putS s t).2.2.2, ([] : List Int)) = (s', a, p, f, L) := by
            rw [← HST.out]; unfold stepS; rw [HKK.out, if_pos k3]
          simp only [Prod.mk.injEq] at e
          obtain ⟨e1, e2, e3, e4, rfl⟩ := e
          have HP := Lib.hid (sput_any HR.out.1.s HR.out.2 HTr.out HB0.out t)
          have HL := Lib.hid (fun (w3 : World) (hw3 : PX w w3 B M mo s' s sq cq) => lput_any hw3.q hw3.hT HR.out.2 t)
          rw [e1, e2, e3, e4] at HP HL
          clear e1 e2 e3 e4
          rcases k3 with rfl | rfl
          · go_wp2_with (first
              | (go_at_call 17; refine HP.out.mono ?_; rintro e w3 ⟨rfl, s3, c3⟩; have H3 := Lib.hid (HR.out.1.code s3 c3); have H3L := Lib.hid (HL.out _ H3.out); clear s3 c3)
              | (refine wpList_load_row rfl 48 (.tmp 7) rfl M rfl 48 (md s.f s.g sq (ws s.x).length cq).toArray (0, 0) _ H3.out.m Tryd.underlying48 rfl (by kernel_rfl) ?_)
              | (go_at_call 18; refine H3L.out.mono ?_; rintro e w4 ⟨sp4, cap4, rfl, q4, b4⟩; have H4 := Lib.hid (And.intro (H3.out.new b4) (H3.out.law q4 b4)); clear q4 b4; try dsimp only)
              | (refine wpList_store_row rfl 48 (.tmp 7) (.tmp 97) rfl M (md s'.f s'.g sp4 (ws s'.x).length cap4).toArray rfl rfl 48 _ H4.out.1.m (by kernel_rfl) rfl (md_one _ _ _ _ _) ?_)
              | fail)
            go_meet
            case rel => exact ⟨rfl, rfl, rfl, rfl, rfl, rfl, sp4, cap4, H4.out.2, R2.nil _⟩
          · go_wp2_with (first
              | (go_at_call 17; refine HP.out.mono ?_; rintro e w3 ⟨rfl, s3, c3⟩; have H3 := Lib.hid (HR.out.1.code s3 c3); have H3L := Lib.hid (HL.out _ H3.out); clear s3 c3)
              | (refine wpList_load_row rfl 48 (.tmp 7) rfl M rfl 48 (md s.f s.g sq (ws s.x).length cq).toArray (0, 0) _ H3.out.m Tryd.underlying48 rfl (by kernel_rfl) ?_)
              | (go_at_call 18; refine H3L.out.mono ?_; rintro e w4 ⟨sp4, cap4, rfl, q4, b4⟩; have H4 := Lib.hid (And.intro (H3.out.new b4) (H3.out.law q4 b4)); clear q4 b4; try dsimp only)
              | (refine wpList_store_row rfl 48 (.tmp 7) (.tmp 97) rfl M (md s'.f s'.g sp4 (ws s'.x).length cap4).toArray rfl rfl 48 _ H4.out.1.m (by kernel_rfl) rfl (md_one _ _ _ _ _) ?_)
              | fail)
            go_meet
            case rel => exact ⟨rfl, rfl, rfl, rfl, rfl, rfl, sp4, cap4, H4.out.2, R2.nil _⟩
        by_cases k5 : kk = 5
        · subst k5
          have e : (quitS s t, (0 : Int), decide (t ∈ ws s.x), (0 : Int), ([] : List Int)) = (s', a, p, f, L) := by
            rw [← HST.out]; unfold stepS; rw [HKK.out, if_neg (by decide), if_pos rfl]
          simp only [Prod.mk.injEq] at e
          obtain ⟨rfl, rfl, rfl, rfl, rfl⟩ := e
          clear k3
          go_upto_region 25 with fail
          refine wp_region_held_drew (S := fun w' => w'.cell? ⟨M, 17, none⟩ = some (.slice sq (ws s.x).length cq)) (by kernel_rfl) (HR.out.1.dn 1).cw (fun hS => ?_)
          refine wpAnyH_take (i := 0) (oi := { dst := some 103, op := .move (.tmp 5), type := 42, pos := "law.go:127", after := #[], guard := none }) (v := ?_) rfl (by kernel_rfl) (by kernel_rfl) (by kernel_rfl) (fun _ _ _ h => h) (Or.inl ⟨by rfl, ?_⟩) hS ?_
          rotate_left 1
          · intro w hw; obtain s0 := hw; go_simp; try (with_reducible rfl)
          simp only [Act.put, List.setIfInBounds_toArray, List.set_cons_zero, List.set_cons_succ]
          refine wpAnyH_take (i := 1) (oi := { dst := some 104, op := .move (.tmp 9), type := 3, pos := "law.go:127", after := #[], guard := none }) (v := ?_) rfl (by kernel_rfl) (by kernel_rfl) (by kernel_rfl) (fun _ _ _ h => h) (Or.inl ⟨by rfl, ?_⟩) hS ?_
          rotate_left 1
          · intro w hw; obtain s0 := hw; go_simp; try (with_reducible rfl)
          simp only [Act.put, List.setIfInBounds_toArray, List.set_cons_zero, List.set_cons_succ]
          refine wpAnyH_take (i := 3) (oi := { dst := some 106, op := .fieldAddr 48 (.tmp 7) 2, type := 0, pos := "law.go:127", after := #[], guard := none }) (v := ?_) rfl (by kernel_rfl) (by kernel_rfl) (by kernel_rfl) (fun _ _ _ h => h) (Or.inl ⟨by rfl, ?_⟩) hS ?_
          rotate_left 1
          · intro w hw; obtain s0 := hw; go_simp; try (with_reducible rfl)
          simp only [Act.put, List.setIfInBounds_toArray, List.set_cons_zero, List.set_cons_succ]
          refine wpAnyH_take (i := 4) (oi := { dst := some 107, op := .load 22 (.tmp 106), type := 22, pos := "law.go:127", after := #[{ on := 3, ground := .data }], guard := none }) (v := ?_) rfl (by kernel_rfl) (by kernel_rfl) (by kernel_rfl) (fun _ _ _ h => h) (Or.inl ⟨by rfl, ?_⟩) hS ?_
          rotate_left 1
          · intro w hw; obtain s0 := hw; go_simp; try (with_reducible rfl)
          simp only [Act.put, List.setIfInBounds_toArray, List.set_cons_zero, List.set_cons_succ]
          refine wpAnyH_take (i := 5) (oi := { dst := some 108, op := .move (.tmp 9), type := 3, pos := "law.go:127", after := #[], guard := none }) (v := ?_) rfl (by kernel_rfl) (by kernel_rfl) (by kernel_rfl) (fun _ _ _ h => h) (Or.inl ⟨by rfl, ?_⟩) hS ?_
          rotate_left 1
          · intro w hw; obtain s0 := hw; go_simp; try (with_reducible rfl)
          simp only [Act.put, List.setIfInBounds_toArray, List.set_cons_zero, List.set_cons_succ]
          refine wpAnyH_ready (rs := [2]) (by kernel_rfl) (by simp) (AllReadyH.cons (o := { dst := some 105, op := .call { callee := .value (.func 19), args := #[.tmp 103, .tmp 104], argTypes := #[42, 3] }, type := 4, pos := "law.go:127", after := #[{ on := 0, ground := .data }, { on := 1, ground := .data }], guard := none }) rfl (fun K hK => ?_) AllReadyH.nil)
          go_simp
          go_at_call 19
          refine (squit_any (HR.out.1.dn 1).s t).mono ?_
          rintro e w3 ⟨rfl, s3, c3⟩
          have H3 := Lib.hid ((HR.out.1.dn 1).code s3 c3)
          clear s3 c3
          try dsimp only
          refine hK.out _ _ H3.out.cw (fun hHeld => ?_)
          clear hK K
          try simp only [Act.put, List.setIfInBounds_toArray, List.set_cons_zero, List.set_cons_succ]
          refine wpAnyH_ready (rs := [6]) (by kernel_rfl) (by simp) (AllReadyH.cons (o := { dst := some 109, op := .call { callee := .value (.func 20), args := #[.tmp 107, .tmp 108], argTypes := #[22, 3] }, type := 4, pos := "law.go:127", after := #[{ on := 4, ground := .data }, { on := 5, ground := .data }, { on := 2, ground := .chain }], guard := none }) rfl (fun K hK => ?_) AllReadyH.nil)
          go_simp
          go_at_call 20
          refine (MI.in_ H3.out.q (by have := ws_len s.x; omega) t).mono ?_
          rintro e w4 ⟨rfl, rfl⟩
          try dsimp only
          refine hK.out _ _ H3.out.cw (fun hHeld => ?_)
          clear hK K
          try simp only [Act.put, List.setIfInBounds_toArray, List.set_cons_zero, List.set_cons_succ]
          refine wpAnyH_ready (rs := [7]) (by kernel_rfl) (by simp) (AllReadyH.cons (o := { dst := some 12, op := .assign (.tmp 105), type := 4, pos := "law.go:127", after := #[{ on := 2, ground := .data }, { on := 6, ground := .chain }, { on := 0, ground := .phase }, { on := 1, ground := .phase }, { on := 2, ground := .phase }, { on := 3, ground := .textOnly Go.Departure.lateStores }, { on := 4, ground := .textOnly Go.Departure.lateStores }, { on := 5, ground := .textOnly Go.Departure.lateStores }, { on := 6, ground := .textOnly Go.Departure.lateStoresUnsure }], guard := none }) rfl (fun K hK => ?_) AllReadyH.nil)
          go_simp
          refine hK.out _ _ H3.out.cw (fun hHeld => ?_)
          clear hK K
          try simp only [Act.put, List.setIfInBounds_toArray, List.set_cons_zero, List.set_cons_succ]
          refine wpAnyH_ready (rs := [8]) (by kernel_rfl) (by simp) (AllReadyH.cons (o := { dst := some 13, op := .assign (.tmp 109), type := 4, pos := "law.go:127", after := #[{ on := 6, ground := .data }, { on := 7, ground := .chain }, { on := 0, ground := .phase }, { on := 1, ground := .phase }, { on := 2, ground := .phase }, { on := 3, ground := .phase }, { on := 4, ground := .phase }, { on := 5, ground := .phase }, { on := 6, ground := .phase }, { on := 7, ground := .phase }], guard := none }) rfl (fun K hK => ?_) AllReadyH.nil)
          go_simp
          refine hK.out _ _ H3.out.cw (fun hHeld => ?_)
          clear hK K
          try simp only [Act.put, List.setIfInBounds_toArray, List.set_cons_zero, List.set_cons_succ]
          refine wpAnyH_done (by kernel_rfl) ?_ _

          have cw := H3.out.cw
          have HW := Lib.hid (lwo_ws s.x H3.out.q H3.out.hT t)
          go_wp2_with (first
            | (go_at_call 21; refine HW.out.mono ?_; rintro e w4 ⟨sp4, cap4, rfl, q4, b4⟩; have H4 := Lib.hid (And.intro (H3.out.new b4) q4); have cw4 := H4.out.1.cw; have fw4 := H4.out.1.fr 17; clear q4 b4)
            | fail)
          go_meet
          case rel => exact ⟨rfl, rfl, rfl, rfl, rfl, rfl, sp4, cap4, H4.out.1.setW H4.out.2, R2.nil _⟩
        by_cases k6 : kk = 6
        · subst k6
          have e : ((endS s t).1, (0 : Int), false, (0 : Int), (endS s t).2) = (s', a, p, f, L) := by
            rw [← HST.out]; unfold stepS; rw [HKK.out, if_neg (by decide), if_neg (by decide), if_pos rfl]
          simp only [Prod.mk.injEq] at e
          obtain ⟨e1, rfl, rfl, rfl, e5⟩ := e
          clear k3 k5
          have HP := Lib.hid (send_any HR.out.1.s HR.out.2 HTr.out HB0.out t)
          have HL := Lib.hid (fun (w3 : World) (hw3 : PX w w3 B M mo s' s sq cq) => lend_any hw3.q hw3.hT HR.out.2 t)
          have HM := Lib.hid HR.out.1.ltM
          obtain ⟨r, hr⟩ : ∃ r, endS s t = r := ⟨_, rfl⟩
          rw [hr] at e1 e5 HP HL
          obtain ⟨r1, r2⟩ := r
          dsimp only at e1 e5
          subst e1 e5
          clear hr
          go_wp2_with (first
            | (go_at_call 22; refine HP.out.mono ?_; rintro e w3 ⟨v3, rfl, e3⟩; have H3 := Lib.hid (And.intro (HR.out.1.code e3.s e3.ch) e3.own); have H3L := Lib.hid (HL.out _ H3.out.1); clear e3)
            | (refine wpList_load_row rfl 48 (.tmp 7) rfl M rfl 48 (md s.f s.g sq (ws s.x).length cq).toArray (0, 0) _ H3.out.1.m Tryd.underlying48 rfl (by kernel_rfl) ?_)
            | (go_at_call 23; refine H3L.out.mono ?_; rintro e w4 ⟨sp4, cap4, v4, rfl, q4, o4, b4⟩; have H4 := Lib.hid (And.intro (H3.out.1.new b4) (And.intro (H3.out.1.law q4 b4) (R2.mk (M := M) (cs := (md r1.f r1.g sp4 (ws r1.x).length cap4).toArray) H3.out.2 o4 b4 HM.out H3.out.1.ltM))); clear q4 o4 b4; try dsimp only)
            | (refine wpList_store_row rfl 48 (.tmp 7) (.tmp 124) rfl M (md r1.f r1.g sp4 (ws r1.x).length cap4).toArray rfl rfl 48 _ H4.out.1.m (by kernel_rfl) rfl (md_one _ _ _ _ _) ?_)
            | fail)
          go_meet
          case rel => exact ⟨rfl, rfl, rfl, rfl, rfl, rfl, sp4, cap4, H4.out.2.1, H4.out.2.2⟩
        · have e : ((getS s t).1, (0 : Int), (getS s t).2.1, (getS s t).2.2, ([] : List Int)) = (s', a, p, f, L) := by
            rw [← HST.out]; unfold stepS; rw [HKK.out, if_neg k3, if_neg k5, if_neg k6]
          simp only [Prod.mk.injEq] at e
          obtain ⟨e1, rfl, e3, e4, rfl⟩ := e
          have k3' : ¬ kk = 3 := fun e => k3 (.inl e)
          have k4' : ¬ kk = 4 := fun e => k3 (.inr e)
          have HP := Lib.hid (sget_any HR.out.1.s HR.out.2 t)
          have HL := Lib.hid (fun (w3 : World) (hw3 : PX w w3 B M mo s' s sq cq) => lget_any hw3.q hw3.hT HR.out.2 t)
          rw [e1, e3, e4] at HP HL
          clear e1 e3 e4 k3
          go_wp2_with (first
            | (go_at_call 24; refine HP.out.mono ?_; rintro e w3 ⟨rfl, s3, c3⟩; have H3 := Lib.hid (HR.out.1.code s3 c3); have H3L := Lib.hid (HL.out _ H3.out); clear s3 c3)
            | (refine wpList_load_row rfl 48 (.tmp 7) rfl M rfl 48 (md s.f s.g sq (ws s.x).length cq).toArray (0, 0) _ H3.out.m Tryd.underlying48 rfl (by kernel_rfl) ?_)
            | (go_at_call 25; refine H3L.out.mono ?_; rintro e w4 ⟨sp4, cap4, rfl, q4, b4⟩; have H4 := Lib.hid (And.intro (H3.out.new b4) (H3.out.law q4 b4)); clear q4 b4; try dsimp only)
            | (refine wpList_store_row rfl 48 (.tmp 7) (.tmp 80) rfl M (md s'.f s'.g sp4 (ws s'.x).length cap4).toArray rfl rfl 48 _ H4.out.1.m (by kernel_rfl) rfl (md_one _ _ _ _ _) ?_)
            | fail)
          go_meet
          case rel => exact ⟨rfl, rfl, rfl, rfl, rfl, rfl, sp4, cap4, H4.out.2, R2.nil _⟩
      case rest =>
        obtain ⟨rfl, rfl, rfl, rfl, rfl, rfl, HX0⟩ := hcut
        obtain ⟨sp5, cap5, hx5, hr5⟩ := HX0.out
        obtain ⟨sg, cg, rfl⟩ := own_val hr5.1
        obtain ⟨sw, cw, rfl⟩ := own_val hr5.2
        have HX := Lib.hid (And.intro hx5 hr5)
        have d0 := hx5.c0
        have d1 := hx5.cw
        have HF := fun n => Lib.hid (quietly (sfree_any (HX.out.1.dn n).s))
        have HWt := fun n => Lib.hid (quietly (swaits_any (HX.out.1.dn n).s))
        have HOf := fun n => Lib.hid (quietly ((HX.out.1.dn n).of_))
        have HSd := fun n => Lib.hid (quietly (sound_any (HX.out.1.dn n).s HI.out.1))
        obtain ⟨fv, hfv⟩ : ∃ fv, s'.f = fv := ⟨_, rfl⟩
        obtain ⟨xv, hxv⟩ : ∃ xv, w32 s'.x = xv := ⟨_, rfl⟩
        rw [hfv] at d0 HF
        rw [hxv] at HWt HOf
        obtain ⟨ln, hln⟩ : ∃ ln, L.length = ln := ⟨_, rfl⟩
        have HLn := Lib.hid hln
        rw [hln] at HX ⊢
        have hlb : ln ≤ 65536 := by rw [← hln]; exact HI.out.2
        clear HX0 hx5 hr5 HR HTr hfv hxv hln hlb
        go_upto_region 30 with fail
        go_quiet (first
          | (go_at_call 26; exact (HF _).out)
          | (go_at_call 27; exact (HWt _).out)
          | (go_at_call 28; exact (HOf _).out)
          | (go_at_call 29; exact (HSd _).out))
        generalize hwq : World.drewN _ _ = wq
        have HQ := Lib.hid (show PX w wq B M mo s' s' sp5 cap5 ∧ R2 wq (.slice sg ln cg) (.slice sw ln cw) L by rw [← hwq]; exact ⟨HX.out.1.dn _, HX.out.2.dn _⟩)
        clear hwq HF HWt HOf HSd HX d0 d1
        go_wp2
        go_loopg [18] ln (fun gh s18 wr => ∃ j : Nat, j + gh = ln ∧ s18 = .int .i64 (j : Nat) ∧ Aside (PX w wr B M mo s' s' sp5 cap5 ∧ R2 wr (.slice sg ln cg) (.slice sw ln cw) L))
        case atStart => exact ⟨0, by omega, rfl, HQ.out⟩
        case round =>
          obtain ⟨j, hjl, rfl, HJ⟩ := hrel
          clear HQ
          cases gk with
          | succ g1 =>
            obtain ⟨b1, b2, rfl, rfl, e1, e2⟩ := R2.at_ HJ.out.2 HLn.out j (by omega)
            obtain ⟨y, hy⟩ : ∃ y, nth L j = y := ⟨_, rfl⟩
            rw [hy] at e1 e2
            have hj1 : j < ln := by omega
            have hj2 : (j : Int) + 1 ≤ 65536 := by have := HI.out.2; rw [HLn.out] at this; omega
            clear hy
            go_upto_region 35 with fail
            go_quiet (fail)
            go_wp2
            go_roundg g1
            case measure => omega
            case rel => exact ⟨j + 1, by omega, by go_num, HJ.out.1.dn _, HJ.out.2.dn _⟩
          | zero =>
            obtain rfl : j = ln := by omega
            go_wp2
            go_loopg [19] 16 (fun gh s19 wr => ∃ j : Nat, j + gh = 16 ∧ s19 = .int .i64 (j : Nat) ∧ Aside (PX w wr B M mo s' s' sp5 cap5))
            case atStart => exact ⟨0, by omega, rfl, HJ.out.1⟩
            case round =>
              obtain ⟨i, hi, rfl, HZ⟩ := hrel
              clear HJ
              cases gk with
              | succ g1 =>
                have hi1 : i < 16 := by omega
                have i0 : (0 : Int) ≤ (i : Int) := by omega
                have i1 : (i : Int) < 16 := by omega
                have e1 := HZ.out.cg i hi1
                have HH := fun n => Lib.hid (quietly (shas_in (HZ.out.dn n).s i hi1))
                obtain ⟨y, hy⟩ : ∃ y, s'.g i = y := ⟨_, rfl⟩
                rw [hy] at e1 HH
                clear hy
                go_upto_region 40 with fail
                go_quiet ((go_at_call 30; exact (HH _).out))
                go_wp2
                go_roundg g1
                case measure => omega
                case rel => exact ⟨i + 1, by omega, by go_num, HZ.out.dn _⟩
              | zero =>
                obtain rfl : i = 16 := by omega
                go_wp2
                go_roundg m1
                case measure => omega
                case rel => exact ⟨k + 1, s', sp5, cap5, by have := HKG.out; omega, by go_num, HZ.out, HI.out.1⟩
end Go.Proofs.YtjgbbgemoobjjaaDoor
