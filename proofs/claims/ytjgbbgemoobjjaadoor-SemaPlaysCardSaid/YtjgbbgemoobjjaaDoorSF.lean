/- The contract of law52's put. -/
import Derived.Test.YtjgbbgemoobjjaaDoorSE
namespace Go.Proofs.YtjgbbgemoobjjaaDoor
open Go.RowKit

theorem ws_cons {x : BitVec 32} {n : Nat} {l : List Nat} (h : lst x 32 = n :: l) : 0 < (ws x).length ∧ nth (ws x) 0 = (n : Int) := by
  unfold ws ints; rw [h]; exact ⟨by simp, rfl⟩
theorem lwo_ws {T : Nat → Prop} {w : World} {sp : Option Addr} {cap : Nat} (x : BitVec 32) (h : SI T w sp cap (ws x)) (hT : ∀ j, T j → j < w.heap.size) (t : Int) :
    Calls Tryd.prog 21 #[.slice sp (ws x).length cap, .int .i64 t] w fun e w' => ∃ sp' cap', e = .returned (.slice sp' (ws (x &&& ~~~onl t)).length cap') ∧ SI T w' sp' cap' (ws (x &&& ~~~onl t)) ∧ Below w.heap.size w w' := by
  have := lwithout_any (ws x) h hT (by have := ws_len x; omega) t
  rw [← ws_without] at this
  exact this
set_option maxHeartbeats 4000000 in
set_option maxRecDepth 100000 in
theorem lput_any {T : Nat → Prop} {w : World} {mo : Int} {s : St} {sp : Option Addr} {cap : Nat} (h : SI T w sp cap (ws s.x)) (hT : ∀ j, T j → j < w.heap.size) (hi : Inv mo s) (t : Int) :
    Calls Tryd.prog 18 #[.agg (md s.f s.g sp (ws s.x).length cap).toArray, .int .i64 t] w fun e w' => MOut T w w' (putS s t).1 (fun v => .tuple #[v, .int .i64 (putS s t).2.1, .bool (putS s t).2.2.1, .int .i64 (putS s t).2.2.2]) e := by
  obtain ⟨X, hX⟩ : ∃ X, X = w.heap.size := ⟨_, rfl⟩
  obtain ⟨w1, hw1⟩ : ∃ w1, (w.alloc (.cells (md s.f s.g sp (ws s.x).length cap).toArray 48)).alloc (.cells #[.int .i64 0, .int .i64 0, .int .i64 0, .int .i64 0, .int .i64 0, .int .i64 0, .int .i64 0, .int .i64 0, .int .i64 0, .int .i64 0, .int .i64 0, .int .i64 0, .int .i64 0, .int .i64 0, .int .i64 0, .int .i64 0, .int .i64 0, .slice none 0 0] 48) = w1 := ⟨_, rfl⟩
  have H1 := Lib.hid (show MI T w w1 X s sp cap by rw [← hw1, hX, ← md_zero]; exact MI.start h)
  have HT := Lib.hid (show ∀ w' : World, X + 1 < w'.heap.size → ∀ j : Nat, (T j ∨ j = X ∨ j = X + 1) → j < w'.heap.size from fun w' hz j hj => by
    rcases hj with hj | hj | hj
    · have := hT j hj; omega
    · omega
    · omega)
  obtain ⟨c0, hc0⟩ : ∃ c0, (md s.f s.g sp (ws s.x).length cap).toArray = c0 := ⟨_, rfl⟩
  rw [hc0] at hw1 ⊢
  clear hc0 h hT
  by_cases ht : 0 ≤ t ∧ t < 16
  case neg =>
    have hg : putS s t = (s, 0, false, 100) := by unfold putS; rw [if_pos ht]
    have HG := Lib.hid hg
    clear hg
    go_enter Tryd.func18, Tryd.ntmps18
    go_upto_region 1 with fail
    try rw [← hX]
    clear hw1 hX
    by_cases h0 : t < 0
    · clear ht
      go_wp2_with (first
        | (refine wpList_load_row rfl 48 (.tmp 2) rfl X rfl 48 (md s.f s.g sp (ws s.x).length cap).toArray (0, 0) _ H1.out.x Tryd.underlying48 rfl (by kernel_rfl) ?_)
        | (refine wpList_store_row rfl 48 (.tmp 4) (.tmp 15) rfl (X + 1) (md s.f s.g sp (ws s.x).length cap).toArray rfl rfl 48 _ H1.out.y (by kernel_rfl) rfl (md_one _ _ _ _ _) ?_)
        | fail)
      refine bodyPost_ret (results_rest (us := [5, 6, 7]) rfl _ _ (X + 1) 48 (md s.f s.g sp (ws s.x).length cap).toArray _ rfl (RowAt.put H1.out.y) Tryd.underlying48 rfl (by kernel_rfl) (by decide)) rfl ?_
      rw [HG.out]
      exact H1.out.fin (fun v => .tuple #[v, .int .i64 0, .bool false, .int .i64 100])
    · have h1 : 15 < t := by omega
      clear ht
      go_wp2_with (first
        | (refine wpList_load_row rfl 48 (.tmp 2) rfl X rfl 48 (md s.f s.g sp (ws s.x).length cap).toArray (0, 0) _ H1.out.x Tryd.underlying48 rfl (by kernel_rfl) ?_)
        | (refine wpList_store_row rfl 48 (.tmp 4) (.tmp 15) rfl (X + 1) (md s.f s.g sp (ws s.x).length cap).toArray rfl rfl 48 _ H1.out.y (by kernel_rfl) rfl (md_one _ _ _ _ _) ?_)
        | fail)
      refine bodyPost_ret (results_rest (us := [5, 6, 7]) rfl _ _ (X + 1) 48 (md s.f s.g sp (ws s.x).length cap).toArray _ rfl (RowAt.put H1.out.y) Tryd.underlying48 rfl (by kernel_rfl) (by decide)) rfl ?_
      rw [HG.out]
      exact H1.out.fin (fun v => .tuple #[v, .int .i64 0, .bool false, .int .i64 100])
  obtain ⟨k, rfl⟩ := Int.eq_ofNat_of_zero_le ht.1
  have hk : k < 16 := by omega
  have k0 : (0 : Int) ≤ (k : Int) := by omega
  have k1 : (k : Int) ≤ 15 := by omega
  have k2 : (k : Int) < 16 := by omega
  have ck := H1.out.cg k hk
  have fk := H1.out.fr (1 + k)
  by_cases hq : s.g k = 0
  · have hg : putS s (k : Nat) = (s, 0, false, 80) := by unfold putS; rw [if_neg (fun hn => hn ht), if_pos (by rw [Int.toNat_natCast]; exact hq)]
    have HG := Lib.hid hg
    rw [hq] at ck
    clear hg hq ht hk
    go_enter Tryd.func18, Tryd.ntmps18
    go_upto_region 1 with fail
    try rw [← hX]
    clear hw1 hX
    go_wp2_with (first
      | (refine wpList_load_row rfl 48 (.tmp 2) rfl X rfl 48 (md s.f s.g sp (ws s.x).length cap).toArray (0, 0) _ H1.out.x Tryd.underlying48 rfl (by kernel_rfl) ?_)
      | (refine wpList_store_row rfl 48 (.tmp 4) (.tmp 21) rfl (X + 1) (md s.f s.g sp (ws s.x).length cap).toArray rfl rfl 48 _ H1.out.y (by kernel_rfl) rfl (md_one _ _ _ _ _) ?_)
      | fail)
    refine bodyPost_ret (results_rest (us := [5, 6, 7]) rfl _ _ (X + 1) 48 (md s.f s.g sp (ws s.x).length cap).toArray _ rfl (RowAt.put H1.out.y) Tryd.underlying48 rfl (by kernel_rfl) (by decide)) rfl ?_
    rw [HG.out]
    exact H1.out.fin (fun v => .tuple #[v, .int .i64 0, .bool false, .int .i64 80])
  have hqb := ne_beq hq
  have hq1 := hi.g1 k hk
  have hq0 := hi.g0 k
  have e1 : IntKind.i64.wrap (s.g k - 1) = s.g k - 1 := by rw [IntKind.wrap_i64]; omega
  obtain ⟨q, hqq⟩ : ∃ q, s.g k = q := ⟨_, rfl⟩
  have HQ := Lib.hid hqq
  cases hl : lst s.x 32 with
  | nil =>
    have hg : putS s (k : Nat) = (⟨s.f + 1, upd s.g k (s.g k - 1), s.x⟩, 0, false, 0) := by
      unfold putS
      rw [if_neg (fun hn => hn ht), if_neg (by rw [Int.toNat_natCast]; exact hq), Int.toNat_natCast, hl]
    have hl0 : (ws s.x).length = 0 := by rw [ws_len', hl]; rfl
    have hfg := hi.fg k hk
    have hf0 := hi.f0
    have e2 : IntKind.i64.wrap (s.f + 1) = s.f + 1 := by rw [IntKind.wrap_i64]; omega
    rw [hqq] at hg ck hqb e1 hq1 hq0 hfg
    have HG := Lib.hid hg
    have HL := Lib.hid (And.intro hl0 hk)
    obtain ⟨f, hff⟩ : ∃ f, s.f = f := ⟨_, rfl⟩
    have HF := Lib.hid hff
    rw [hff] at e2 hfg hf0
    clear hg hq ht hk hl hl0 hqq hff hi
    go_enter Tryd.func18, Tryd.ntmps18
    go_upto_region 1 with fail
    rw [← hX]
    clear hw1 hX
    go_upto_region 6 with fail
    generalize hw2 : World.setCell _ _ _ = w2
    have H2 := Lib.hid (show MI T w w2 X ⟨s.f, upd s.g k (q - 1), s.x⟩ sp cap by rw [← hw2]; exact H1.out.setG k (q - 1) HL.out.2)
    clear hw2 ck fk
    have cw : w2.cell? ⟨X, 17, none⟩ = some (.slice sp 0 cap) := by have := H2.out.cw; rw [HL.out.1] at this; exact this
    have cf : w2.cell? ⟨X, 0, none⟩ = some (.int .i64 f) := by rw [← HF.out]; exact H2.out.c0
    have f0 := H2.out.fr 0
    go_upto_region 8 with fail
    generalize hw3 : World.setCell _ _ _ = w3
    have H3 := Lib.hid (show MI T w w3 X ⟨f + 1, upd s.g k (q - 1), s.x⟩ sp cap by rw [← hw3]; exact H2.out.setF (f + 1))
    clear hw3 cw cf f0
    go_wp2_with (first
      | (refine wpList_load_row rfl 48 (.tmp 2) rfl X rfl 48 (md (f + 1) (upd s.g k (q - 1)) sp (ws s.x).length cap).toArray (0, 0) _ H3.out.x Tryd.underlying48 rfl (by kernel_rfl) ?_)
      | (refine wpList_store_row rfl 48 (.tmp 4) (.tmp 37) rfl (X + 1) (md (f + 1) (upd s.g k (q - 1)) sp (ws s.x).length cap).toArray rfl rfl 48 _ H3.out.y (by kernel_rfl) rfl (md_one _ _ _ _ _) ?_)
      | fail)
    refine bodyPost_ret (results_rest (us := [5, 6, 7]) rfl _ _ (X + 1) 48 (md (f + 1) (upd s.g k (q - 1)) sp (ws s.x).length cap).toArray _ rfl (RowAt.put H3.out.y) Tryd.underlying48 rfl (by kernel_rfl) (by decide)) rfl ?_
    rw [HG.out, HF.out]
    exact H3.out.fin (fun v => .tuple #[v, .int .i64 0, .bool false, .int .i64 0])
  | cons n l =>
    have hn : n < 16 := hi.few n (by rw [hl]; exact List.mem_cons_self)
    have hg : putS s (k : Nat) = (⟨s.f, upd (upd s.g k (s.g k - 1)) n (upd s.g k (s.g k - 1) n + 1), s.x &&& ~~~onl (n : Int)⟩, (n : Int), true, 0) := by
      unfold putS
      rw [if_neg (fun hn => hn ht), if_neg (by rw [Int.toNat_natCast]; exact hq), Int.toNat_natCast, hl]
    obtain ⟨hwl, hw0⟩ := ws_cons hl
    have hu0 : 0 ≤ upd s.g k (s.g k - 1) n ∧ upd s.g k (s.g k - 1) n ≤ 65536 := by
      unfold upd
      split
      · omega
      · exact ⟨hi.g0 n, hi.g1 n hn⟩
    have e2 : IntKind.i64.wrap (upd s.g k (s.g k - 1) n + 1) = upd s.g k (s.g k - 1) n + 1 := by rw [IntKind.wrap_i64]; omega
    rw [hqq] at hg ck hqb e1 hq1 hq0 hu0 e2
    obtain ⟨u, huu⟩ : ∃ u, upd s.g k (q - 1) n = u := ⟨_, rfl⟩
    rw [huu] at hg hu0 e2
    have HG := Lib.hid hg
    have HU := Lib.hid huu
    have n0 : (0 : Int) ≤ (n : Int) := by omega
    have n1 : (n : Int) < 16 := by omega
    obtain ⟨b, o, rfl, hTb, hbl, hcs⟩ := H1.out.q.addr hwl
    have cn : w1.cell? ⟨b, o, none⟩ = some (.int .i64 (n : Nat)) := by have := hcs 0 hwl; rw [Nat.add_zero, hw0] at this; exact this
    have HB := Lib.hid (And.intro cn (And.intro (show b ≠ X from fun e => hTb (.inr (.inl e))) hbl))
    obtain ⟨m, hm⟩ : ∃ m, (ws s.x).length = m := ⟨_, rfl⟩
    have HM := Lib.hid hm
    have hm0 : 0 < m := by omega
    have hmi : (0 : Int) < (m : Int) := by omega
    have hmb : ((m : Int) == 0) = false := ne_beq (by omega)
    have HK := Lib.hid (And.intro hk hn)
    clear hg hq ht hk hl hqq hi hwl hw0 huu hn cn hTb hbl hcs hm
    go_enter Tryd.func18, Tryd.ntmps18
    go_upto_region 1 with fail
    rw [← hX]
    clear hw1 hX
    go_upto_region 6 with fail
    generalize hw2 : World.setCell _ _ _ = w2
    have H2 := Lib.hid (show MI T w w2 X ⟨s.f, upd s.g k (q - 1), s.x⟩ (some ⟨b, o, none⟩) cap by rw [← hw2]; exact H1.out.setG k (q - 1) HK.out.1)
    have cn : w2.cell? ⟨b, o, none⟩ = some (.int .i64 (n : Nat)) := by
      rw [← hw2, World.cell?_setCell_other _ _ _ _ (fun e => by injection e with e1; exact HB.out.2.1 e1.symm)]; exact HB.out.1
    clear hw2 ck fk
    have cw : w2.cell? ⟨X, 17, none⟩ = some (.slice (some ⟨b, o, none⟩) m cap) := by have := H2.out.cw; rw [show (ws (⟨s.f, upd s.g k (q - 1), s.x⟩ : St).x).length = m from HM.out] at this; exact this
    have HW := Lib.hid (lwo_ws s.x H2.out.q (HT.out w2 H2.out.lt) (n : Int))
    rw [HM.out] at HW
    go_upto_region 11 with (first
      | (go_at_call 21; refine HW.out.mono ?_; rintro e w3 ⟨sp3, cap3, rfl, hs3, hb3⟩; have H3 := Lib.hid (And.intro (H2.out.new hb3) hs3); have f17' := H3.out.1.fr 17; have cw' := H3.out.1.cw; clear hs3 hb3)
      | fail)
    generalize hw4 : World.setCell _ _ _ = w4
    have H4 := Lib.hid (show MI T w w4 X ⟨s.f, upd s.g k (q - 1), s.x &&& ~~~onl (n : Int)⟩ sp3 cap3 by rw [← hw4]; exact H3.out.1.setW H3.out.2)
    clear hw4 cw cn
    have ck : w4.cell? ⟨X, 1 + n, none⟩ = some (.int .i64 u) := by rw [← HU.out]; exact H4.out.cg n HK.out.2
    have fk := H4.out.fr (1 + n)
    go_upto_region 12 with fail
    generalize hw5 : World.setCell _ _ _ = w5
    have H5 := Lib.hid (show MI T w w5 X ⟨s.f, upd (upd s.g k (q - 1)) n (u + 1), s.x &&& ~~~onl (n : Int)⟩ sp3 cap3 by rw [← hw5]; exact H4.out.setG n (u + 1) HK.out.2)
    clear hw5 ck fk
    go_wp2_with (first
      | (refine wpList_load_row rfl 48 (.tmp 2) rfl X rfl 48 (md s.f (upd (upd s.g k (q - 1)) n (u + 1)) sp3 (ws (s.x &&& ~~~onl (n : Int))).length cap3).toArray (0, 0) _ H5.out.x Tryd.underlying48 rfl (by kernel_rfl) ?_)
      | (refine wpList_store_row rfl 48 (.tmp 4) (.tmp 54) rfl (X + 1) (md s.f (upd (upd s.g k (q - 1)) n (u + 1)) sp3 (ws (s.x &&& ~~~onl (n : Int))).length cap3).toArray rfl rfl 48 _ H5.out.y (by kernel_rfl) rfl (md_one _ _ _ _ _) ?_)
      | fail)
    refine bodyPost_ret (results_rest (us := [5, 6, 7]) rfl _ _ (X + 1) 48 (md s.f (upd (upd s.g k (q - 1)) n (u + 1)) sp3 (ws (s.x &&& ~~~onl (n : Int))).length cap3).toArray _ rfl (RowAt.put H5.out.y) Tryd.underlying48 rfl (by kernel_rfl) (by decide)) rfl ?_
    rw [HG.out]
    exact H5.out.fin (fun v => .tuple #[v, .int .i64 (n : Nat), .bool true, .int .i64 0])
end Go.Proofs.YtjgbbgemoobjjaaDoor
