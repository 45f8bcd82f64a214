/- Several texts in one: CG. -/
import Derived.Test.YthpagbfabpfngaaPk23
/- The contract of law08's put. -/
namespace Go.Proofs.Ythpagbfabpfngaa
open Go.RowKit

theorem own_ws {w : World} {base : Nat} {v : Value} {n : Nat} {Y : List (BitVec 32)} (h : w.ownsRow base 26 1 v n (rowB Y)) (hn : n = Y.length) :
    ∃ sp b cap, v = .slice sp Y.length cap ∧ Ws w sp b 0 Y.length (nthW Y) ∧ (0 < Y.length → base ≤ b) := by
  subst hn
  by_cases h0 : 0 < Y.length
  · obtain ⟨b, cap, rfl, h1, h2⟩ := own_some h h0
    refine ⟨_, b, cap, rfl, ⟨fun _ => ⟨rfl, h2⟩, fun k hk => ?_⟩, fun _ => h1⟩
    have := h.cellAt k (by omega)
    rw [Nat.zero_add, this]
    unfold rowB nthW
    simp [hk]
  · obtain ⟨sp, cap, rfl⟩ := own_valB h
    exact ⟨sp, 0, cap, rfl, ⟨fun h => absurd h h0, fun k hk => absurd hk (by omega)⟩, fun h => absurd h h0⟩
theorem ws_news {w : World} {sp : Option Addr} {b off : Nat} {Y : List (BitVec 32)} (h : Ws w sp b off Y.length (nthW Y)) : ∀ ad, sp = some ad → ∀ (j : Nat) (u : Value), (rowB Y)[j]? = some u → w.cell? (ad.add j) = some u := by
  intro ad ha j u hu
  have hj : j < Y.length := by have := (List.getElem?_eq_some_iff.1 hu).1; unfold rowB at this; rwa [List.length_map] at this
  have h1 := (h.sp (by omega)).1
  rw [ha] at h1
  injection h1 with h1
  rw [h1, Addr.add_mid, h.cell j hj, ← hu]
  unfold rowB nthW
  simp [hj]
theorem ws_no {w : World} {sp : Option Addr} {b off : Nat} {Y : List (BitVec 32)} (h : Ws w sp b off Y.length (nthW Y)) (hs : sp = none) : Y.length = 0 := by
  rcases Nat.eq_zero_or_pos Y.length with h0 | h0
  · exact h0
  · have := (h.sp h0).1
    rw [hs] at this
    cases this
/-- What put makes of a bench. -/
def lputR (d : Dev) (op : Bool) (L M : List (BitVec 32)) : Int × Dev × Bool × List (BitVec 32) :=
  if op then (if (26 : Int) - L.length < M.length then (81, d, true, L) else ((putK d 0 L M).2, (putK d 0 L M).1, decide ((putK d 0 L M).2 = 0), L ++ M)) else (80, d, false, L)
set_option maxHeartbeats 8000000 in
set_option maxRecDepth 100000 in
theorem lput_any {w : World} {q B bL bW : Nat} {d : Dev} (h : RefIn w bL bW d) (ho : d.okE) (cL cW : Nat) (hcL : d.ns * d.nw ≤ cL) (op : Bool) {sp : Option Addr} {bp cap : Nat} (L M : List (BitVec 32)) (hn : d.ops + 40 ≤ 1000000) (h4 : d.ns = 4 ∧ d.nw = 13) (hW : Ws w sp bp 0 L.length (nthW L))
    {sm : Option Addr} {bm om cm : Nat} (hM : Ws w sm bm om M.length (nthW M)) (hL : L.length ≤ 26) (hM40 : M.length ≤ 40) :
    Calls Try.prog 62 #[.agg (benchC q B bL cL bW cW d op sp L.length cap), .slice sm M.length cm] w fun e w' => BenchOut w w' q B bL bW bp (lputR d op L M).2.1 (lputR d op L M).2.2.1 (lputR d op L M).2.2.2 (fun v => .tuple #[v, .int .i64 (lputR d op L M).1]) e := by
  obtain ⟨X, hX⟩ : ∃ X, X = w.heap.size := ⟨_, rfl⟩
  obtain ⟨w1, hw1⟩ : ∃ w1, (w.alloc (.cells (benchC q B bL cL bW cW d op sp L.length cap) 53)).alloc (.cells #[.pointer none, .pointer none, .int .i64 0, .int .i64 0, .int .i64 0, .slice none 0 0, .slice none 0 0, .bool false, .bool false, .int .i64 0, .int .u32 0, .int .i64 0, .bool false, .slice none 0 0] 53) = w1 := ⟨_, rfl⟩
  have H1 := Lib.hid (show BI w w1 X q B bL bW bL cL bW cW d op sp L.length cap by rw [← hw1, hX]; exact BI.start h hcL)
  have HW := Lib.hid (show ∀ wx, Below X w wx → Ws wx sp bp 0 L.length (nthW L) from fun wx hb => hW.new (by rw [← hX]; exact hb))
  have HM := Lib.hid (show ∀ wx, Below X w wx → Ws wx sm bm om M.length (nthW M) from fun wx hb => hM.new (by rw [← hX]; exact hb))
  have HP := Lib.hid (show ∀ h0 : 0 < L.length, bp < X from fun h0 => by rw [hX]; exact (hW.sp h0).2)
  have HO := Lib.hid (And.intro ho (And.intro hn h4))
  have HLn := Lib.hid (And.intro hL hM40)
  obtain ⟨c0, hc0⟩ : ∃ c0, benchC q B bL cL bW cW d op sp L.length cap = c0 := ⟨_, rfl⟩
  rw [hc0] at hw1 ⊢
  clear hc0 h ho hcL hn hW hM
  have c12 : w1.cell? ⟨X, 12, none⟩ = some (.bool op) := H1.out.x.cell 12
  have c13 : w1.cell? ⟨X, 13, none⟩ = some (.slice sp L.length cap) := H1.out.x.cell 13
  have c2 : w1.cell? ⟨X, 2, none⟩ = some (.int .i64 d.ns) := H1.out.x.cell 2
  have c3 : w1.cell? ⟨X, 3, none⟩ = some (.int .i64 d.nw) := H1.out.x.cell 3
  rw [h4.1] at c2
  rw [h4.2] at c3
  obtain ⟨n, hLn⟩ : ∃ n, L.length = n := ⟨_, rfl⟩
  obtain ⟨m, hMm⟩ : ∃ m, M.length = m := ⟨_, rfl⟩
  have HNM := Lib.hid (And.intro hLn hMm)
  rw [hLn] at hL c13 H1
  rw [hMm] at hM40 ⊢
  clear hLn hMm h4
  cases op with
  | false =>
    have HRR := Lib.hid (show lputR d false L M = (80, d, false, L) from rfl)
    clear c13 c2 c3
    go_enter Try.func62, Try.ntmps62
    go_upto_region 1 with fail
    rw [← hX]
    clear hw1 hX
    go_wp2_with (first
      | (refine wpList_load_row rfl 53 (.tmp 2) rfl X rfl 53 (benchC q B bL cL bW cW d false sp n cap) (0, 0) _ H1.out.x Try.underlying53 rfl (by kernel_rfl) ?_)
      | (refine wpList_store_row rfl 53 (.tmp 4) (.tmp 10) rfl (X + 1) (benchC q B bL cL bW cW d false sp n cap) rfl rfl 53 _ H1.out.y (by kernel_rfl) rfl (benchC_one _ _ _ _ _ _ _ _ _ _ _) ?_)
      | fail)
    refine bodyPost_ret (results_row rfl _ _ (X + 1) 53 (benchC q B bL cL bW cW d false sp n cap) _ rfl (RowAt.put H1.out.y) Try.underlying53 rfl (by kernel_rfl)) rfl ?_
    rw [HRR.out]
    have hH := H1.out
    rw [← HNM.out.1] at hH ⊢
    exact hH.fin (r := fun v => .tuple #[v, .int .i64 80]) (HW.out _ hH.b) (fun h0 => .inl ⟨rfl, HP.out h0⟩)
  | true =>
    have f1 : IntKind.i64.wrap ((26 : Int) - (n : Int)) = (26 : Int) - (n : Int) := by rw [IntKind.wrap_i64]; omega
    by_cases hfull : (26 : Int) - (n : Int) < (m : Int)
    · have HRR := Lib.hid (show lputR d true L M = (81, d, true, L) by unfold lputR; rw [HNM.out.1, HNM.out.2, if_pos rfl, if_pos hfull])
      go_enter Try.func62, Try.ntmps62
      go_upto_region 1 with fail
      rw [← hX]
      clear hw1 hX
      go_wp2_with (first
        | (refine wpList_load_row rfl 53 (.tmp 2) rfl X rfl 53 (benchC q B bL cL bW cW d true sp n cap) (0, 0) _ H1.out.x Try.underlying53 rfl (by kernel_rfl) ?_)
        | (refine wpList_store_row rfl 53 (.tmp 4) (.tmp 26) rfl (X + 1) (benchC q B bL cL bW cW d true sp n cap) rfl rfl 53 _ H1.out.y (by kernel_rfl) rfl (benchC_one _ _ _ _ _ _ _ _ _ _ _) ?_)
        | fail)
      refine bodyPost_ret (results_row rfl _ _ (X + 1) 53 (benchC q B bL cL bW cW d true sp n cap) _ rfl (RowAt.put H1.out.y) Try.underlying53 rfl (by kernel_rfl)) rfl ?_
      rw [HRR.out]
      have hH := H1.out
      rw [← HNM.out.1] at hH ⊢
      exact hH.fin (r := fun v => .tuple #[v, .int .i64 81]) (HW.out _ hH.b) (fun h0 => .inl ⟨rfl, HP.out h0⟩)
    · have hRR : lputR d true L M = ((putK d 0 L M).2, (putK d 0 L M).1, decide ((putK d 0 L M).2 = 0), L ++ M) := by unfold lputR; rw [HNM.out.1, HNM.out.2, if_pos rfl, if_neg hfull]
      obtain ⟨i0, hi, hz0, hz1, hz2⟩ := info_parts infoB
      have HI := Lib.hid (And.intro hi (And.intro hz0 (And.intro hz1 hz2)))
      have HPr := Lib.hid (show ∀ wx, BI w wx X q B bL bW bL cL bW cW d true sp n cap → Calls Try.prog 95 #[.agg (cellsD bL cL bW cW d), .int .i64 2, .int .i64 n, .slice sm m cm] wx fun e w' => RefOut wx w' bL bW (putK d 0 L M).1 (fun v => .tuple #[v, .int .i64 (putK d 0 L M).2]) e from fun wx hx => by
        have := lprogram_any (cap := cm) hx.ref HO.out.1 cL cW 2 n hx.cp (by omega) (by omega) (nthW M) (n := m) (by have := HO.out.2.1; omega) (by omega) (by rw [← HNM.out.2]; exact HM.out _ hx.b)
        rw [← HNM.out.2] at this ⊢
        rw [← HNM.out.1] at this ⊢
        exact this)
      obtain ⟨⟨d2, e2⟩, hp⟩ : ∃ p, putK d 0 L M = p := ⟨_, rfl⟩
      rw [hp] at HPr hRR
      simp only at HPr hRR
      have HRR := Lib.hid hRR
      clear hRR hp hi hz0 hz1 hz2
      go_enter Try.func62, Try.ntmps62
      go_upto_region 1 with fail
      rw [← hX]
      clear hw1 hX
      go_upto_region 7 with (first
        | (refine wpList_load_mid rfl 28 (.tmp 28) rfl X 2 rfl (cellsD bL cL bW cW d).toList _ (bench_range H1.out.x) Try.underlying28 rfl (by kernel_rfl) ?_)
        | (go_at_call 95; refine (HPr.out _ H1.out).mono ?_; rintro e w4 hro; obtain ⟨bL1, cL1, bW1, cW1, rfl, hr4, hb4⟩ := H1.out.next hro; have H4 := Lib.hid (And.intro hr4 hb4); clear hr4 hb4 hro; try dsimp only)
        | (refine wpList_store_mid rfl 28 (.tmp 37) (.tmp 35) rfl X 2 (cellsD bL1 cL1 bW1 cW1 d2) rfl rfl (bench_there H4.out.1) (by kernel_rfl) (cellsD_one _ _ _ _ _) ?_
           generalize hw5 : World.setCells _ _ _ _ = w5
           have H5 := Lib.hid (show BI w w5 X q B bL bW bL1 cL1 bW1 cW1 d2 true sp n cap by rw [← hw5]; exact H4.out.2)
           clear hw5)
        | fail)
      clear H4 HPr H1 c2 c3 c13 c12 f1
      have HS := Lib.hid (show X + 1 < w5.heap.size from H5.out.lt)
      have HF := Lib.hid (own_fresh w5 w5.heap.size 26 1 (Nat.le_refl _))
      have HB5 := Lib.hid (show Below w5.heap.size w5 (w5.alloc (.cells #[] 26)) from (Below.refl _ _).alloc (Nat.le_refl _) _)
      have c13 : (w5.alloc (.cells #[] 26)).cell? ⟨X, 13, none⟩ = some (.slice sp n cap) := (H5.out.x.new HB5.out).cell 13
      have HN1 := Lib.hid (show ∀ ad, sp = some ad → ∀ (j : Nat) (u : Value), (rowB L)[j]? = some u → (w5.alloc (.cells #[] 26)).cell? (ad.add j) = some u from ws_news (HW.out _ (H5.out.b.trans (HB5.out.mono (by have := HS.out; omega)))))
      go_upto_region 8 with (first
        | (at_builtin; refine wpList_append_vary rfl (.tmp 38) (.tmp 40) 24 rfl w5.heap.size 26 i0 (.int .u32 0) 1 4 Try.underlying24 HI.out.1 HI.out.2.1 HI.out.2.2.1 HI.out.2.2.2 rfl (by decide) _ 0 [] rfl HF.out sp n cap (rowB L) rfl (by have := HNM.out.1; simp [rowB]; omega) (fun e => by have := ws_no (HW.out _ H5.out.b) e; have := HNM.out.1; omega) HN1.out (rowB_one _) (by unfold maxLen; omega) (by omega) (by rw [World.size_alloc]; omega) ?_
           intro v1 w6 hown1 hg1 _
           rw [Nat.zero_add, List.nil_append] at hown1
           obtain ⟨s1, k1, rfl⟩ := own_valB hown1
           have hb6 : Below w5.heap.size w5 w6 := Below.grown HB5.out hg1 (by rw [World.size_alloc]; omega) (fun j e => (HF.out.lt j e).1)
           have H6 := Lib.hid (And.intro hown1 hb6)
           clear hown1 hg1 hb6)
        | (at_builtin; refine wpList_append_vary rfl (.tmp 41) (.tmp 42) 24 rfl w5.heap.size 26 i0 (.int .u32 0) 1 4 Try.underlying24 HI.out.1 HI.out.2.1 HI.out.2.2.1 HI.out.2.2.2 rfl (by decide) _ n (rowB L) rfl H6.out.1 sm m cm (rowB M) rfl (by have := HNM.out.2; simp [rowB]; omega) (fun e => by have := ws_no (HM.out _ H5.out.b) e; have := HNM.out.2; omega) (ws_news (HM.out _ (H5.out.b.trans (H6.out.2.mono (by have := HS.out; omega))))) (rowB_one _) (by unfold maxLen; omega) (by omega) H6.out.2.size ?_
           intro v2 w7 hown2 hg2 _
           have hb7 : Below w5.heap.size w5 w7 := Below.grown H6.out.2 hg2 H6.out.2.size (fun j e => (H6.out.1.lt j e).1)
           obtain ⟨s2, b2, k2, rfl, hw2, hbb⟩ := own_ws (Y := L ++ M) (by rw [show rowB (L ++ M) = rowB L ++ rowB M from List.map_append]; exact hown2) (by rw [List.length_append, HNM.out.1, HNM.out.2])
           rw [List.length_append, HNM.out.1, HNM.out.2]
           have H7 := Lib.hid (And.intro hw2 (And.intro hbb (H5.out.new hb7)))
           have c13b : w7.cell? ⟨X, 13, none⟩ = some (.slice sp n cap) := H7.out.2.2.x.cell 13
           have f13b : w7.frozen? ⟨X, 13, none⟩ = false := H7.out.2.2.x.fr 13
           clear hown2 hg2 hb7 hw2 hbb c13)
        | fail)
      generalize hw8 : World.setCell _ _ _ = w8
      have H8 := Lib.hid (show BI w w8 X q B bL bW bL1 cL1 bW1 cW1 d2 true s2 (n + m) k2 by rw [← hw8]; exact H7.out.2.2.setPut _ _ _)
      have HW8 := Lib.hid (show Ws w8 s2 b2 0 (L ++ M).length (nthW (L ++ M)) by
        rw [← hw8]
        have hlt := H5.out.lt
        refine ⟨fun h0 => ⟨(H7.out.1.sp h0).1, ?_⟩, fun k hk => ?_⟩
        · rw [World.size_setCell]; exact (H7.out.1.sp h0).2
        · have hbk := H7.out.2.1 (by omega)
          exact ((Ch.refl (fun j => j = X) w7).setCell ⟨X, 13, none⟩ _ (.inl rfl)).cell (H7.out.1.cell k hk) (by show ¬ b2 = X; omega))
      have HP8 := Lib.hid (show 0 < (L ++ M).length → X + 1 < b2 from fun h0 => by have := H7.out.2.1 h0; have := H5.out.lt; omega)
      clear hw8 c13b f13b H7 H5 H6 HN1 HB5 HF HS
      have c12 : w8.cell? ⟨X, 12, none⟩ = some (.bool true) := H8.out.x.cell 12
      have f12 : w8.frozen? ⟨X, 12, none⟩ = false := H8.out.x.fr 12
      obtain ⟨eb, heb⟩ : ∃ eb, (e2 == 0) = eb := ⟨_, rfl⟩
      go_upto_region 9 with fail
      generalize hw9 : World.setCell _ _ _ = w9
      have H9 := Lib.hid (show BI w w9 X q B bL bW bL1 cL1 bW1 cW1 d2 eb s2 (L ++ M).length k2 by rw [← hw9, List.length_append, HNM.out.1, HNM.out.2]; exact H8.out.setOp _)
      have HW9 := Lib.hid (show Ws w9 s2 b2 0 (L ++ M).length (nthW (L ++ M)) by
        rw [← hw9]
        refine ⟨fun h0 => ⟨(HW8.out.sp h0).1, ?_⟩, fun k hk => ?_⟩
        · rw [World.size_setCell]; exact (HW8.out.sp h0).2
        · have hbk := HP8.out (by omega)
          exact ((Ch.refl (fun j => j = X) w8).setCell ⟨X, 12, none⟩ _ (.inl rfl)).cell (HW8.out.cell k hk) (by show ¬ b2 = X; omega))
      have HEB := Lib.hid heb
      obtain ⟨nm, hnm⟩ : ∃ nm, (L ++ M).length = nm := ⟨_, rfl⟩
      have HNm := Lib.hid hnm
      rw [hnm] at H9
      clear hnm
      clear hw9 c12 f12 H8 HW8 heb
      go_wp2_with (first
        | (refine wpList_load_row rfl 53 (.tmp 2) rfl X rfl 53 (benchC q B bL1 cL1 bW1 cW1 d2 eb s2 nm k2) (0, 0) _ H9.out.x Try.underlying53 rfl (by kernel_rfl) ?_)
        | (refine wpList_store_row rfl 53 (.tmp 4) (.tmp 48) rfl (X + 1) (benchC q B bL1 cL1 bW1 cW1 d2 eb s2 nm k2) rfl rfl 53 _ H9.out.y (by kernel_rfl) rfl (benchC_one _ _ _ _ _ _ _ _ _ _ _) ?_)
        | fail)
      refine bodyPost_ret (results_row rfl _ _ (X + 1) 53 (benchC q B bL1 cL1 bW1 cW1 d2 eb s2 nm k2) _ rfl (RowAt.put H9.out.y) Try.underlying53 rfl (by kernel_rfl)) rfl ?_
      rw [HRR.out, show decide (e2 = 0) = eb from HEB.out]
      have hH := H9.out
      rw [← HNm.out] at hH ⊢
      exact hH.fin (r := fun v => .tuple #[v, .int .i64 e2]) HW9.out (fun h0 => .inr (HP8.out h0))
end Go.Proofs.Ythpagbfabpfngaa
