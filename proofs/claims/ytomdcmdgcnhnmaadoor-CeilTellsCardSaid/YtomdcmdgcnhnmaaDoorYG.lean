/- The walk of CeilTells. -/
import Derived.Test.YtomdcmdgcnhnmaaDoorYF
namespace Go.Proofs.YtomdcmdgcnhnmaaDoor
open Go.RowKit

set_option maxHeartbeats 8000000 in
set_option maxRecDepth 100000 in
theorem law_ceil {w : World} {V : Nat → Prop} {x : Img} {S : ImgS} (h : ImgAt w V x S) (ht : Tab w) (s : BitVec 32) (t r : Int) :
    Calls Tryd.prog 3 #[.agg #[.int .i64 x.res, .slice S.t.sp x.tasks.length S.t.c, .slice S.m.sp x.modes.length S.m.c, .slice S.e.sp x.edges.length S.e.c], .int .u32 (w32 s), .agg #[.int .i64 t, .int .i64 r]] w fun e w' => e = .returned (.bool true) ∧ Below w.heap.size w w' := by
  have hp := ht.pos
  have HTb := Lib.hid (show ∀ w', Below w.heap.size w w' → Tab w' from fun w' hb => ht.below hp hb)
  have HGr := Lib.hid (show ∀ wx, Below w.heap.size w wx → _ from fun wx hb => great10_any (h.new hb))
  have HOf := Lib.hid (show ∀ wx, Below w.heap.size w wx → _ from fun wx hb => cOf_any (h.new hb) (HTb.out wx hb) s)
  have HCe := Lib.hid (show ∀ wx, Below w.heap.size w wx → ∀ k : Nat, k < 8 → _ from fun wx hb k hk => Ceiling_any (h.new hb) s k hk)
  obtain ⟨F, hF⟩ : ∃ F, ceilF x s = F := ⟨_, rfl⟩
  rw [hF] at HOf HCe
  obtain ⟨nT, hnT⟩ : ∃ n, x.tasks.length = n := ⟨_, rfl⟩
  obtain ⟨nM, hnM⟩ : ∃ n, x.modes.length = n := ⟨_, rfl⟩
  obtain ⟨nE, hnE⟩ : ∃ n, x.edges.length = n := ⟨_, rfl⟩
  rw [hnT, hnM, hnE] at HGr HOf HCe ⊢
  have HAt := Lib.hid (show ∀ (wx : World) (q : Int), _ from fun wx q => cAt_any F q wx)
  have HLv := Lib.hid (show ∀ (wx : World), _ from fun wx => cLevel_any F t r wx)
  have HOv := Lib.hid (show ∀ (wx : World), _ from fun wx => cOver_any F t wx)
  have HEm := Lib.hid (fun wx => cEmpty_any wx)
  have HAl := Lib.hid (show ∀ wx, Below w.heap.size w wx → _ from fun wx hb => l15alive_any wx (HTb.out wx hb))
  have HTi := Lib.hid (And.intro (tb_info F) (tb_one F))
  have HGa := Lib.hid (fun (k : Nat) (hk : k < 8) => tb_at F k hk)
  have HEx := Lib.hid (fun (k : Nat) (hk : k < 8) (wx : World) => run_index_tb (fun _ => 16) wx k hk)
  obtain ⟨G, hG⟩ : ∃ G, tb F = G := ⟨_, rfl⟩
  obtain ⟨E, hE⟩ : ∃ E, tb (fun _ => 16) = E := ⟨_, rfl⟩
  have HGs := Lib.hid (show G.size = 8 by rw [← hG]; rfl)
  rw [hG] at HOf HAt HLv HOv HTi HGa
  rw [hE] at HEm HEx
  obtain ⟨Z, hZ⟩ : ∃ Z, Z = w.heap.size := ⟨_, rfl⟩
  clear h ht hp hF hnT hnM hnE hG hE
  go_enter Tryd.func3, Tryd.ntmps3
  go_upto_region 1 with fail
  rw [← hZ]
  generalize hw2 : World.alloc _ _ = w2
  have H2 := Lib.hid (show Below w.heap.size w w2 ∧ RowAt w2 Z 26 #[.int .i64 x.res, .slice S.t.sp nT S.t.c, .slice S.m.sp nM S.m.c, .slice S.e.sp nE S.e.c] ∧ RowAt w2 (Z + 1) 30 #[.int .i64 t, .int .i64 r] by
    rw [← hw2, hZ]
    exact two_alloc (Below.refl _ _))
  clear hw2 hZ
  have c0 : w2.cell? ⟨Z, 0, none⟩ = some (.int .i64 x.res) := H2.out.2.1.cell 0
  have c1 : w2.cell? ⟨Z, 1, none⟩ = some (.slice S.t.sp nT S.t.c) := H2.out.2.1.cell 1
  have c2 : w2.cell? ⟨Z, 2, none⟩ = some (.slice S.m.sp nM S.m.c) := H2.out.2.1.cell 2
  have c3 : w2.cell? ⟨Z, 3, none⟩ = some (.slice S.e.sp nE S.e.c) := H2.out.2.1.cell 3
  cases hg : greatI x
  case true =>
    rw [hg] at HGr
    clear hg
    go_wp2_with (go_at_call 5; refine (HGr.out _ H2.out.1).mono ?_; rintro e w3 ⟨rfl, b3⟩; have H3 := Lib.hid (H2.out.1.trans (b3.mono H2.out.1.size)); clear b3)
    go_ret
    exact ⟨rfl, H3.out⟩
  rw [hg] at HGr
  clear hg
  go_upto_region 4 with (first
    | (go_at_call 5; refine (HGr.out _ H2.out.1).mono ?_; rintro e w3 ⟨rfl, b3⟩; have H3 := Lib.hid (And.intro (H2.out.1.trans (b3.mono H2.out.1.size)) (And.intro (H2.out.2.1.new b3) (H2.out.2.2.new b3))); clear b3 c0 c1 c2 c3; have c0 : w3.cell? ⟨Z, 0, none⟩ = some (.int .i64 x.res) := H3.out.2.1.cell 0; have c1 : w3.cell? ⟨Z, 1, none⟩ = some (.slice S.t.sp nT S.t.c) := H3.out.2.1.cell 1; have c2 : w3.cell? ⟨Z, 2, none⟩ = some (.slice S.m.sp nM S.m.c) := H3.out.2.1.cell 2; have c3 : w3.cell? ⟨Z, 3, none⟩ = some (.slice S.e.sp nE S.e.c) := H3.out.2.1.cell 3)
    | (go_at_call 6; refine (HOf.out _ H3.out.1).mono ?_; rintro e w4 ⟨rfl, b4⟩; have H4 := Lib.hid (And.intro (H3.out.1.trans (b4.mono H3.out.1.size)) (And.intro (H3.out.2.1.new b4) (H3.out.2.2.new b4))); clear b4 c0 c1 c2 c3)
    | (refine wpList_store_row rfl 33 (.tmp 7) (.tmp 17) rfl w4.heap.size G (by rfl) (by rfl) 33 _ (heap_alloc_new w4 _) HTi.out.1 (by rw [HGs.out]; rfl) HTi.out.2 ?_; generalize hw5 : World.setRow _ _ _ = w5)
    | fail)
  obtain ⟨C, hC⟩ : ∃ C, C = w4.heap.size := ⟨_, rfl⟩
  have HQ0 := Lib.hid (show Below w.heap.size w w5 ∧ RowAt w5 Z 26 #[.int .i64 x.res, .slice S.t.sp nT S.t.c, .slice S.m.sp nM S.m.c, .slice S.e.sp nE S.e.c] ∧ RowAt w5 (Z + 1) 30 #[.int .i64 t, .int .i64 r] ∧ RowAt w5 C 33 G by
    rw [← hw5, hC]
    obtain ⟨hb, hr⟩ := alloc_row w4 (tb (fun _ => 0)) G 33
    exact ⟨H4.out.1.trans (hb.mono H4.out.1.size), H4.out.2.1.new hb, H4.out.2.2.new hb, hr⟩)
  rw [← hC]
  clear hw5 hC H2 H3 H4 HGr HOf
  go_wp2
  go_loopg [8, 9] 8 (fun g so v wr => ∃ k : Nat, k + g = 8 ∧ v = .int .i64 (k : Nat) ∧ so = .int .u32 (w32 (tbOv F t k)) ∧ Aside (Below w.heap.size w wr ∧ RowAt wr Z 26 #[.int .i64 x.res, .slice S.t.sp nT S.t.c, .slice S.m.sp nM S.m.c, .slice S.e.sp nE S.e.c] ∧ RowAt wr (Z + 1) 30 #[.int .i64 t, .int .i64 r] ∧ RowAt wr C 33 G))
  case atStart => exact ⟨0, by omega, rfl, rfl, HQ0.out⟩
  case round =>
    obtain ⟨k, hkg, rfl, rfl, HQ⟩ := hrel
    clear HQ0
    have c0 : wr.cell? ⟨Z, 0, none⟩ = some (.int .i64 x.res) := HQ.out.2.1.cell 0
    have c1 : wr.cell? ⟨Z, 1, none⟩ = some (.slice S.t.sp nT S.t.c) := HQ.out.2.1.cell 1
    have c2 : wr.cell? ⟨Z, 2, none⟩ = some (.slice S.m.sp nM S.m.c) := HQ.out.2.1.cell 2
    have c3 : wr.cell? ⟨Z, 3, none⟩ = some (.slice S.e.sp nE S.e.c) := HQ.out.2.1.cell 3
    have k0 : wr.cell? ⟨Z + 1, 0, none⟩ = some (.int .i64 t) := HQ.out.2.2.1.cell 0
    have k1 : wr.cell? ⟨Z + 1, 1, none⟩ = some (.int .i64 r) := HQ.out.2.2.1.cell 1
    cases gk with
    | zero =>
      obtain rfl : k = 8 := by omega
      clear c0 c1 c2 c3
      go_upto_region 13 with fail
      go_quiet (fail)
      clear k0 k1
      generalize hwd : World.drewN _ _ = wd
      have WD := Lib.hid (show Below w.heap.size w wd ∧ RowAt wd Z 26 #[.int .i64 x.res, .slice S.t.sp nT S.t.c, .slice S.m.sp nM S.m.c, .slice S.e.sp nE S.e.c] ∧ RowAt wd (Z + 1) 30 #[.int .i64 t, .int .i64 r] ∧ RowAt wd C 33 G by rw [← hwd]; exact ⟨below_dn HQ.out.1 _, HQ.out.2.1, HQ.out.2.2.1, HQ.out.2.2.2⟩)
      clear hwd HQ
      have c0 : wd.cell? ⟨Z, 0, none⟩ = some (.int .i64 x.res) := WD.out.2.1.cell 0
      have c1 : wd.cell? ⟨Z, 1, none⟩ = some (.slice S.t.sp nT S.t.c) := WD.out.2.1.cell 1
      have c2 : wd.cell? ⟨Z, 2, none⟩ = some (.slice S.m.sp nM S.m.c) := WD.out.2.1.cell 2
      have c3 : wd.cell? ⟨Z, 3, none⟩ = some (.slice S.e.sp nE S.e.c) := WD.out.2.1.cell 3
      have k0 : wd.cell? ⟨Z + 1, 0, none⟩ = some (.int .i64 t) := WD.out.2.2.1.cell 0
      have k1 : wd.cell? ⟨Z + 1, 1, none⟩ = some (.int .i64 r) := WD.out.2.2.1.cell 1
      obtain ⟨o, ho⟩ : ∃ o, tbOv F t 8 = o := ⟨_, rfl⟩
      rw [ho] at HOv ⊢
      clear ho
      by_cases hr0 : r < 0
      · have HAr := Lib.hid (show ∀ wx, _ from fun wx => HAt.out wx r)
        rw [show tbAt F r = 16 by unfold tbAt; rw [if_neg (by omega)]] at HAr
        rw [show tbLv F t r = t by unfold tbLv; rw [if_pos hr0]] at HLv
        go_wp2_with (first
          | (refine wpList_load_want (by rfl) 33 (.tmp 7) rfl C rfl 33 G (0, 0) _ W22.out.2.2.2 Tryd.underlying33 rfl HTi.out.1 ?_)
          | (refine wpList_load_want (by rfl) 33 (.tmp 7) rfl C rfl 33 G (0, 0) _ W21.out.2.2.2 Tryd.underlying33 rfl HTi.out.1 ?_)
          | (refine wpList_load_want (by rfl) 33 (.tmp 7) rfl C rfl 33 G (0, 0) _ WD.out.2.2.2 Tryd.underlying33 rfl HTi.out.1 ?_)
          | (go_at_call 8; refine (HAr.out _).mono ?_; rintro e w21 ⟨rfl, b⟩; have W21 := Lib.hid (show Below w.heap.size w w21 ∧ RowAt w21 Z 26 #[.int .i64 x.res, .slice S.t.sp nT S.t.c, .slice S.m.sp nM S.m.c, .slice S.e.sp nE S.e.c] ∧ RowAt w21 (Z + 1) 30 #[.int .i64 t, .int .i64 r] ∧ RowAt w21 C 33 G from ⟨WD.out.1.trans (b.mono WD.out.1.size), WD.out.2.1.new b, WD.out.2.2.1.new b, WD.out.2.2.2.new b⟩); clear b; clear c0 c1 c2 c3 k0 k1; have c0 : w21.cell? ⟨Z, 0, none⟩ = some (.int .i64 x.res) := W21.out.2.1.cell 0; have c1 : w21.cell? ⟨Z, 1, none⟩ = some (.slice S.t.sp nT S.t.c) := W21.out.2.1.cell 1; have c2 : w21.cell? ⟨Z, 2, none⟩ = some (.slice S.m.sp nM S.m.c) := W21.out.2.1.cell 2; have c3 : w21.cell? ⟨Z, 3, none⟩ = some (.slice S.e.sp nE S.e.c) := W21.out.2.1.cell 3; have k0 : w21.cell? ⟨Z + 1, 0, none⟩ = some (.int .i64 t) := W21.out.2.2.1.cell 0; have k1 : w21.cell? ⟨Z + 1, 1, none⟩ = some (.int .i64 r) := W21.out.2.2.1.cell 1; clear HAr)
          | (go_at_call 11; refine (HOv.out _).mono ?_; rintro e w22 ⟨rfl, b⟩; have W22 := Lib.hid (show Below w.heap.size w w22 ∧ RowAt w22 Z 26 #[.int .i64 x.res, .slice S.t.sp nT S.t.c, .slice S.m.sp nM S.m.c, .slice S.e.sp nE S.e.c] ∧ RowAt w22 (Z + 1) 30 #[.int .i64 t, .int .i64 r] ∧ RowAt w22 C 33 G from ⟨W21.out.1.trans (b.mono W21.out.1.size), W21.out.2.1.new b, W21.out.2.2.1.new b, W21.out.2.2.2.new b⟩); clear b; clear c0 c1 c2 c3 k0 k1; have c0 : w22.cell? ⟨Z, 0, none⟩ = some (.int .i64 x.res) := W22.out.2.1.cell 0; have c1 : w22.cell? ⟨Z, 1, none⟩ = some (.slice S.t.sp nT S.t.c) := W22.out.2.1.cell 1; have c2 : w22.cell? ⟨Z, 2, none⟩ = some (.slice S.m.sp nM S.m.c) := W22.out.2.1.cell 2; have c3 : w22.cell? ⟨Z, 3, none⟩ = some (.slice S.e.sp nE S.e.c) := W22.out.2.1.cell 3; have k0 : w22.cell? ⟨Z + 1, 0, none⟩ = some (.int .i64 t) := W22.out.2.2.1.cell 0; have k1 : w22.cell? ⟨Z + 1, 1, none⟩ = some (.int .i64 r) := W22.out.2.2.1.cell 1)
          | (go_at_call 12; refine (HLv.out _).mono ?_; rintro e w23 ⟨rfl, b⟩; have W23 := Lib.hid (show Below w.heap.size w w23 ∧ RowAt w23 Z 26 #[.int .i64 x.res, .slice S.t.sp nT S.t.c, .slice S.m.sp nM S.m.c, .slice S.e.sp nE S.e.c] ∧ RowAt w23 (Z + 1) 30 #[.int .i64 t, .int .i64 r] ∧ RowAt w23 C 33 G from ⟨W22.out.1.trans (b.mono W22.out.1.size), W22.out.2.1.new b, W22.out.2.2.1.new b, W22.out.2.2.2.new b⟩); clear b; clear c0 c1 c2 c3 k0 k1; have c0 : w23.cell? ⟨Z, 0, none⟩ = some (.int .i64 x.res) := W23.out.2.1.cell 0; have c1 : w23.cell? ⟨Z, 1, none⟩ = some (.slice S.t.sp nT S.t.c) := W23.out.2.1.cell 1; have c2 : w23.cell? ⟨Z, 2, none⟩ = some (.slice S.m.sp nM S.m.c) := W23.out.2.1.cell 2; have c3 : w23.cell? ⟨Z, 3, none⟩ = some (.slice S.e.sp nE S.e.c) := W23.out.2.1.cell 3; have k0 : w23.cell? ⟨Z + 1, 0, none⟩ = some (.int .i64 t) := W23.out.2.2.1.cell 0; have k1 : w23.cell? ⟨Z + 1, 1, none⟩ = some (.int .i64 r) := W23.out.2.2.1.cell 1)
          | (go_at_call 13; refine (HAl.out _ W23.out.1).mono ?_; rintro e w24 ⟨rfl, b⟩; have W24 := Lib.hid (W23.out.1.trans (b.mono W23.out.1.size)); clear b)
          | fail)
        go_ret
        exact ⟨rfl, W24.out⟩
      · by_cases hr8 : r < 8
        · obtain ⟨k, hkr⟩ := Int.eq_ofNat_of_zero_le (show 0 ≤ r by omega)
          have hk : k < 8 := by omega
          have HCk := Lib.hid (show ∀ wx, Below w.heap.size w wx → _ from fun wx hb => HCe.out wx hb k hk)
          rw [← hkr] at HCk
          have HAr := Lib.hid (show ∀ wx, _ from fun wx => HAt.out wx r)
          have hta : tbAt F r = F k := by unfold tbAt; rw [if_pos (by omega), hkr, Int.toNat_natCast]
          have hlv : tbLv F t r = min t (F k) := by unfold tbLv; rw [if_neg hr0, hta]
          rw [hta] at HAr
          rw [hlv] at HLv
          clear hkr
          obtain ⟨y, hy⟩ : ∃ y, F k = y := ⟨_, rfl⟩
          rw [hy] at HCk HAr HLv
          clear hta hlv hy
          by_cases hyt : y < t
          · rw [show min t y = y by omega] at HLv
            go_wp2_with (first
              | (go_at_call 7; refine (HCk.out _ WD.out.1).mono ?_; rintro e w20 ⟨rfl, b⟩; have W20 := Lib.hid (show Below w.heap.size w w20 ∧ RowAt w20 Z 26 #[.int .i64 x.res, .slice S.t.sp nT S.t.c, .slice S.m.sp nM S.m.c, .slice S.e.sp nE S.e.c] ∧ RowAt w20 (Z + 1) 30 #[.int .i64 t, .int .i64 r] ∧ RowAt w20 C 33 G from ⟨WD.out.1.trans (b.mono WD.out.1.size), WD.out.2.1.new b, WD.out.2.2.1.new b, WD.out.2.2.2.new b⟩); clear b; clear c0 c1 c2 c3 k0 k1; have c0 : w20.cell? ⟨Z, 0, none⟩ = some (.int .i64 x.res) := W20.out.2.1.cell 0; have c1 : w20.cell? ⟨Z, 1, none⟩ = some (.slice S.t.sp nT S.t.c) := W20.out.2.1.cell 1; have c2 : w20.cell? ⟨Z, 2, none⟩ = some (.slice S.m.sp nM S.m.c) := W20.out.2.1.cell 2; have c3 : w20.cell? ⟨Z, 3, none⟩ = some (.slice S.e.sp nE S.e.c) := W20.out.2.1.cell 3; have k0 : w20.cell? ⟨Z + 1, 0, none⟩ = some (.int .i64 t) := W20.out.2.2.1.cell 0; have k1 : w20.cell? ⟨Z + 1, 1, none⟩ = some (.int .i64 r) := W20.out.2.2.1.cell 1)
              | (refine wpList_load_want (by rfl) 33 (.tmp 7) rfl C rfl 33 G (0, 0) _ W22.out.2.2.2 Tryd.underlying33 rfl HTi.out.1 ?_)
              | (refine wpList_load_want (by rfl) 33 (.tmp 7) rfl C rfl 33 G (0, 0) _ W21.out.2.2.2 Tryd.underlying33 rfl HTi.out.1 ?_)
              | (refine wpList_load_want (by rfl) 33 (.tmp 7) rfl C rfl 33 G (0, 0) _ W20.out.2.2.2 Tryd.underlying33 rfl HTi.out.1 ?_)
              | (go_at_call 8; refine (HAr.out _).mono ?_; rintro e w21 ⟨rfl, b⟩; have W21 := Lib.hid (show Below w.heap.size w w21 ∧ RowAt w21 Z 26 #[.int .i64 x.res, .slice S.t.sp nT S.t.c, .slice S.m.sp nM S.m.c, .slice S.e.sp nE S.e.c] ∧ RowAt w21 (Z + 1) 30 #[.int .i64 t, .int .i64 r] ∧ RowAt w21 C 33 G from ⟨W20.out.1.trans (b.mono W20.out.1.size), W20.out.2.1.new b, W20.out.2.2.1.new b, W20.out.2.2.2.new b⟩); clear b; clear c0 c1 c2 c3 k0 k1; have c0 : w21.cell? ⟨Z, 0, none⟩ = some (.int .i64 x.res) := W21.out.2.1.cell 0; have c1 : w21.cell? ⟨Z, 1, none⟩ = some (.slice S.t.sp nT S.t.c) := W21.out.2.1.cell 1; have c2 : w21.cell? ⟨Z, 2, none⟩ = some (.slice S.m.sp nM S.m.c) := W21.out.2.1.cell 2; have c3 : w21.cell? ⟨Z, 3, none⟩ = some (.slice S.e.sp nE S.e.c) := W21.out.2.1.cell 3; have k0 : w21.cell? ⟨Z + 1, 0, none⟩ = some (.int .i64 t) := W21.out.2.2.1.cell 0; have k1 : w21.cell? ⟨Z + 1, 1, none⟩ = some (.int .i64 r) := W21.out.2.2.1.cell 1; clear HAr)
              | (go_at_call 11; refine (HOv.out _).mono ?_; rintro e w22 ⟨rfl, b⟩; have W22 := Lib.hid (show Below w.heap.size w w22 ∧ RowAt w22 Z 26 #[.int .i64 x.res, .slice S.t.sp nT S.t.c, .slice S.m.sp nM S.m.c, .slice S.e.sp nE S.e.c] ∧ RowAt w22 (Z + 1) 30 #[.int .i64 t, .int .i64 r] ∧ RowAt w22 C 33 G from ⟨W21.out.1.trans (b.mono W21.out.1.size), W21.out.2.1.new b, W21.out.2.2.1.new b, W21.out.2.2.2.new b⟩); clear b; clear c0 c1 c2 c3 k0 k1; have c0 : w22.cell? ⟨Z, 0, none⟩ = some (.int .i64 x.res) := W22.out.2.1.cell 0; have c1 : w22.cell? ⟨Z, 1, none⟩ = some (.slice S.t.sp nT S.t.c) := W22.out.2.1.cell 1; have c2 : w22.cell? ⟨Z, 2, none⟩ = some (.slice S.m.sp nM S.m.c) := W22.out.2.1.cell 2; have c3 : w22.cell? ⟨Z, 3, none⟩ = some (.slice S.e.sp nE S.e.c) := W22.out.2.1.cell 3; have k0 : w22.cell? ⟨Z + 1, 0, none⟩ = some (.int .i64 t) := W22.out.2.2.1.cell 0; have k1 : w22.cell? ⟨Z + 1, 1, none⟩ = some (.int .i64 r) := W22.out.2.2.1.cell 1)
              | (go_at_call 12; refine (HLv.out _).mono ?_; rintro e w23 ⟨rfl, b⟩; have W23 := Lib.hid (show Below w.heap.size w w23 ∧ RowAt w23 Z 26 #[.int .i64 x.res, .slice S.t.sp nT S.t.c, .slice S.m.sp nM S.m.c, .slice S.e.sp nE S.e.c] ∧ RowAt w23 (Z + 1) 30 #[.int .i64 t, .int .i64 r] ∧ RowAt w23 C 33 G from ⟨W22.out.1.trans (b.mono W22.out.1.size), W22.out.2.1.new b, W22.out.2.2.1.new b, W22.out.2.2.2.new b⟩); clear b; clear c0 c1 c2 c3 k0 k1; have c0 : w23.cell? ⟨Z, 0, none⟩ = some (.int .i64 x.res) := W23.out.2.1.cell 0; have c1 : w23.cell? ⟨Z, 1, none⟩ = some (.slice S.t.sp nT S.t.c) := W23.out.2.1.cell 1; have c2 : w23.cell? ⟨Z, 2, none⟩ = some (.slice S.m.sp nM S.m.c) := W23.out.2.1.cell 2; have c3 : w23.cell? ⟨Z, 3, none⟩ = some (.slice S.e.sp nE S.e.c) := W23.out.2.1.cell 3; have k0 : w23.cell? ⟨Z + 1, 0, none⟩ = some (.int .i64 t) := W23.out.2.2.1.cell 0; have k1 : w23.cell? ⟨Z + 1, 1, none⟩ = some (.int .i64 r) := W23.out.2.2.1.cell 1)
              | (go_at_call 13; refine (HAl.out _ W23.out.1).mono ?_; rintro e w24 ⟨rfl, b⟩; have W24 := Lib.hid (W23.out.1.trans (b.mono W23.out.1.size)); clear b)
              | fail)
            go_ret
            exact ⟨rfl, W24.out⟩
          · rw [show min t y = t by omega] at HLv
            go_wp2_with (first
              | (go_at_call 7; refine (HCk.out _ WD.out.1).mono ?_; rintro e w20 ⟨rfl, b⟩; have W20 := Lib.hid (show Below w.heap.size w w20 ∧ RowAt w20 Z 26 #[.int .i64 x.res, .slice S.t.sp nT S.t.c, .slice S.m.sp nM S.m.c, .slice S.e.sp nE S.e.c] ∧ RowAt w20 (Z + 1) 30 #[.int .i64 t, .int .i64 r] ∧ RowAt w20 C 33 G from ⟨WD.out.1.trans (b.mono WD.out.1.size), WD.out.2.1.new b, WD.out.2.2.1.new b, WD.out.2.2.2.new b⟩); clear b; clear c0 c1 c2 c3 k0 k1; have c0 : w20.cell? ⟨Z, 0, none⟩ = some (.int .i64 x.res) := W20.out.2.1.cell 0; have c1 : w20.cell? ⟨Z, 1, none⟩ = some (.slice S.t.sp nT S.t.c) := W20.out.2.1.cell 1; have c2 : w20.cell? ⟨Z, 2, none⟩ = some (.slice S.m.sp nM S.m.c) := W20.out.2.1.cell 2; have c3 : w20.cell? ⟨Z, 3, none⟩ = some (.slice S.e.sp nE S.e.c) := W20.out.2.1.cell 3; have k0 : w20.cell? ⟨Z + 1, 0, none⟩ = some (.int .i64 t) := W20.out.2.2.1.cell 0; have k1 : w20.cell? ⟨Z + 1, 1, none⟩ = some (.int .i64 r) := W20.out.2.2.1.cell 1)
              | (refine wpList_load_want (by rfl) 33 (.tmp 7) rfl C rfl 33 G (0, 0) _ W22.out.2.2.2 Tryd.underlying33 rfl HTi.out.1 ?_)
              | (refine wpList_load_want (by rfl) 33 (.tmp 7) rfl C rfl 33 G (0, 0) _ W21.out.2.2.2 Tryd.underlying33 rfl HTi.out.1 ?_)
              | (refine wpList_load_want (by rfl) 33 (.tmp 7) rfl C rfl 33 G (0, 0) _ W20.out.2.2.2 Tryd.underlying33 rfl HTi.out.1 ?_)
              | (go_at_call 8; refine (HAr.out _).mono ?_; rintro e w21 ⟨rfl, b⟩; have W21 := Lib.hid (show Below w.heap.size w w21 ∧ RowAt w21 Z 26 #[.int .i64 x.res, .slice S.t.sp nT S.t.c, .slice S.m.sp nM S.m.c, .slice S.e.sp nE S.e.c] ∧ RowAt w21 (Z + 1) 30 #[.int .i64 t, .int .i64 r] ∧ RowAt w21 C 33 G from ⟨W20.out.1.trans (b.mono W20.out.1.size), W20.out.2.1.new b, W20.out.2.2.1.new b, W20.out.2.2.2.new b⟩); clear b; clear c0 c1 c2 c3 k0 k1; have c0 : w21.cell? ⟨Z, 0, none⟩ = some (.int .i64 x.res) := W21.out.2.1.cell 0; have c1 : w21.cell? ⟨Z, 1, none⟩ = some (.slice S.t.sp nT S.t.c) := W21.out.2.1.cell 1; have c2 : w21.cell? ⟨Z, 2, none⟩ = some (.slice S.m.sp nM S.m.c) := W21.out.2.1.cell 2; have c3 : w21.cell? ⟨Z, 3, none⟩ = some (.slice S.e.sp nE S.e.c) := W21.out.2.1.cell 3; have k0 : w21.cell? ⟨Z + 1, 0, none⟩ = some (.int .i64 t) := W21.out.2.2.1.cell 0; have k1 : w21.cell? ⟨Z + 1, 1, none⟩ = some (.int .i64 r) := W21.out.2.2.1.cell 1; clear HAr)
              | (go_at_call 11; refine (HOv.out _).mono ?_; rintro e w22 ⟨rfl, b⟩; have W22 := Lib.hid (show Below w.heap.size w w22 ∧ RowAt w22 Z 26 #[.int .i64 x.res, .slice S.t.sp nT S.t.c, .slice S.m.sp nM S.m.c, .slice S.e.sp nE S.e.c] ∧ RowAt w22 (Z + 1) 30 #[.int .i64 t, .int .i64 r] ∧ RowAt w22 C 33 G from ⟨W21.out.1.trans (b.mono W21.out.1.size), W21.out.2.1.new b, W21.out.2.2.1.new b, W21.out.2.2.2.new b⟩); clear b; clear c0 c1 c2 c3 k0 k1; have c0 : w22.cell? ⟨Z, 0, none⟩ = some (.int .i64 x.res) := W22.out.2.1.cell 0; have c1 : w22.cell? ⟨Z, 1, none⟩ = some (.slice S.t.sp nT S.t.c) := W22.out.2.1.cell 1; have c2 : w22.cell? ⟨Z, 2, none⟩ = some (.slice S.m.sp nM S.m.c) := W22.out.2.1.cell 2; have c3 : w22.cell? ⟨Z, 3, none⟩ = some (.slice S.e.sp nE S.e.c) := W22.out.2.1.cell 3; have k0 : w22.cell? ⟨Z + 1, 0, none⟩ = some (.int .i64 t) := W22.out.2.2.1.cell 0; have k1 : w22.cell? ⟨Z + 1, 1, none⟩ = some (.int .i64 r) := W22.out.2.2.1.cell 1)
              | (go_at_call 12; refine (HLv.out _).mono ?_; rintro e w23 ⟨rfl, b⟩; have W23 := Lib.hid (show Below w.heap.size w w23 ∧ RowAt w23 Z 26 #[.int .i64 x.res, .slice S.t.sp nT S.t.c, .slice S.m.sp nM S.m.c, .slice S.e.sp nE S.e.c] ∧ RowAt w23 (Z + 1) 30 #[.int .i64 t, .int .i64 r] ∧ RowAt w23 C 33 G from ⟨W22.out.1.trans (b.mono W22.out.1.size), W22.out.2.1.new b, W22.out.2.2.1.new b, W22.out.2.2.2.new b⟩); clear b; clear c0 c1 c2 c3 k0 k1; have c0 : w23.cell? ⟨Z, 0, none⟩ = some (.int .i64 x.res) := W23.out.2.1.cell 0; have c1 : w23.cell? ⟨Z, 1, none⟩ = some (.slice S.t.sp nT S.t.c) := W23.out.2.1.cell 1; have c2 : w23.cell? ⟨Z, 2, none⟩ = some (.slice S.m.sp nM S.m.c) := W23.out.2.1.cell 2; have c3 : w23.cell? ⟨Z, 3, none⟩ = some (.slice S.e.sp nE S.e.c) := W23.out.2.1.cell 3; have k0 : w23.cell? ⟨Z + 1, 0, none⟩ = some (.int .i64 t) := W23.out.2.2.1.cell 0; have k1 : w23.cell? ⟨Z + 1, 1, none⟩ = some (.int .i64 r) := W23.out.2.2.1.cell 1)
              | (go_at_call 13; refine (HAl.out _ W23.out.1).mono ?_; rintro e w24 ⟨rfl, b⟩; have W24 := Lib.hid (W23.out.1.trans (b.mono W23.out.1.size)); clear b)
              | fail)
            go_ret
            exact ⟨rfl, W24.out⟩
        · have HAr := Lib.hid (show ∀ wx, _ from fun wx => HAt.out wx r)
          have hta : tbAt F r = 16 := by unfold tbAt; rw [if_neg (by omega)]
          have hlv : tbLv F t r = min t 16 := by unfold tbLv; rw [if_neg hr0, hta]
          rw [hta] at HAr
          rw [hlv] at HLv
          clear hta hlv
          by_cases hyt : 16 < t
          · rw [show min t 16 = 16 by omega] at HLv
            go_wp2_with (first
              | (refine wpList_load_want (by rfl) 33 (.tmp 7) rfl C rfl 33 G (0, 0) _ W22.out.2.2.2 Tryd.underlying33 rfl HTi.out.1 ?_)
              | (refine wpList_load_want (by rfl) 33 (.tmp 7) rfl C rfl 33 G (0, 0) _ W21.out.2.2.2 Tryd.underlying33 rfl HTi.out.1 ?_)
              | (refine wpList_load_want (by rfl) 33 (.tmp 7) rfl C rfl 33 G (0, 0) _ WD.out.2.2.2 Tryd.underlying33 rfl HTi.out.1 ?_)
              | (go_at_call 8; refine (HAr.out _).mono ?_; rintro e w21 ⟨rfl, b⟩; have W21 := Lib.hid (show Below w.heap.size w w21 ∧ RowAt w21 Z 26 #[.int .i64 x.res, .slice S.t.sp nT S.t.c, .slice S.m.sp nM S.m.c, .slice S.e.sp nE S.e.c] ∧ RowAt w21 (Z + 1) 30 #[.int .i64 t, .int .i64 r] ∧ RowAt w21 C 33 G from ⟨WD.out.1.trans (b.mono WD.out.1.size), WD.out.2.1.new b, WD.out.2.2.1.new b, WD.out.2.2.2.new b⟩); clear b; clear c0 c1 c2 c3 k0 k1; have c0 : w21.cell? ⟨Z, 0, none⟩ = some (.int .i64 x.res) := W21.out.2.1.cell 0; have c1 : w21.cell? ⟨Z, 1, none⟩ = some (.slice S.t.sp nT S.t.c) := W21.out.2.1.cell 1; have c2 : w21.cell? ⟨Z, 2, none⟩ = some (.slice S.m.sp nM S.m.c) := W21.out.2.1.cell 2; have c3 : w21.cell? ⟨Z, 3, none⟩ = some (.slice S.e.sp nE S.e.c) := W21.out.2.1.cell 3; have k0 : w21.cell? ⟨Z + 1, 0, none⟩ = some (.int .i64 t) := W21.out.2.2.1.cell 0; have k1 : w21.cell? ⟨Z + 1, 1, none⟩ = some (.int .i64 r) := W21.out.2.2.1.cell 1; clear HAr)
              | (go_at_call 11; refine (HOv.out _).mono ?_; rintro e w22 ⟨rfl, b⟩; have W22 := Lib.hid (show Below w.heap.size w w22 ∧ RowAt w22 Z 26 #[.int .i64 x.res, .slice S.t.sp nT S.t.c, .slice S.m.sp nM S.m.c, .slice S.e.sp nE S.e.c] ∧ RowAt w22 (Z + 1) 30 #[.int .i64 t, .int .i64 r] ∧ RowAt w22 C 33 G from ⟨W21.out.1.trans (b.mono W21.out.1.size), W21.out.2.1.new b, W21.out.2.2.1.new b, W21.out.2.2.2.new b⟩); clear b; clear c0 c1 c2 c3 k0 k1; have c0 : w22.cell? ⟨Z, 0, none⟩ = some (.int .i64 x.res) := W22.out.2.1.cell 0; have c1 : w22.cell? ⟨Z, 1, none⟩ = some (.slice S.t.sp nT S.t.c) := W22.out.2.1.cell 1; have c2 : w22.cell? ⟨Z, 2, none⟩ = some (.slice S.m.sp nM S.m.c) := W22.out.2.1.cell 2; have c3 : w22.cell? ⟨Z, 3, none⟩ = some (.slice S.e.sp nE S.e.c) := W22.out.2.1.cell 3; have k0 : w22.cell? ⟨Z + 1, 0, none⟩ = some (.int .i64 t) := W22.out.2.2.1.cell 0; have k1 : w22.cell? ⟨Z + 1, 1, none⟩ = some (.int .i64 r) := W22.out.2.2.1.cell 1)
              | (go_at_call 12; refine (HLv.out _).mono ?_; rintro e w23 ⟨rfl, b⟩; have W23 := Lib.hid (show Below w.heap.size w w23 ∧ RowAt w23 Z 26 #[.int .i64 x.res, .slice S.t.sp nT S.t.c, .slice S.m.sp nM S.m.c, .slice S.e.sp nE S.e.c] ∧ RowAt w23 (Z + 1) 30 #[.int .i64 t, .int .i64 r] ∧ RowAt w23 C 33 G from ⟨W22.out.1.trans (b.mono W22.out.1.size), W22.out.2.1.new b, W22.out.2.2.1.new b, W22.out.2.2.2.new b⟩); clear b; clear c0 c1 c2 c3 k0 k1; have c0 : w23.cell? ⟨Z, 0, none⟩ = some (.int .i64 x.res) := W23.out.2.1.cell 0; have c1 : w23.cell? ⟨Z, 1, none⟩ = some (.slice S.t.sp nT S.t.c) := W23.out.2.1.cell 1; have c2 : w23.cell? ⟨Z, 2, none⟩ = some (.slice S.m.sp nM S.m.c) := W23.out.2.1.cell 2; have c3 : w23.cell? ⟨Z, 3, none⟩ = some (.slice S.e.sp nE S.e.c) := W23.out.2.1.cell 3; have k0 : w23.cell? ⟨Z + 1, 0, none⟩ = some (.int .i64 t) := W23.out.2.2.1.cell 0; have k1 : w23.cell? ⟨Z + 1, 1, none⟩ = some (.int .i64 r) := W23.out.2.2.1.cell 1)
              | (go_at_call 13; refine (HAl.out _ W23.out.1).mono ?_; rintro e w24 ⟨rfl, b⟩; have W24 := Lib.hid (W23.out.1.trans (b.mono W23.out.1.size)); clear b)
              | fail)
            go_ret
            exact ⟨rfl, W24.out⟩
          · rw [show min t 16 = t by omega] at HLv
            go_wp2_with (first
              | (refine wpList_load_want (by rfl) 33 (.tmp 7) rfl C rfl 33 G (0, 0) _ W22.out.2.2.2 Tryd.underlying33 rfl HTi.out.1 ?_)
              | (refine wpList_load_want (by rfl) 33 (.tmp 7) rfl C rfl 33 G (0, 0) _ W21.out.2.2.2 Tryd.underlying33 rfl HTi.out.1 ?_)
              | (refine wpList_load_want (by rfl) 33 (.tmp 7) rfl C rfl 33 G (0, 0) _ WD.out.2.2.2 Tryd.underlying33 rfl HTi.out.1 ?_)
              | (go_at_call 8; refine (HAr.out _).mono ?_; rintro e w21 ⟨rfl, b⟩; have W21 := Lib.hid (show Below w.heap.size w w21 ∧ RowAt w21 Z 26 #[.int .i64 x.res, .slice S.t.sp nT S.t.c, .slice S.m.sp nM S.m.c, .slice S.e.sp nE S.e.c] ∧ RowAt w21 (Z + 1) 30 #[.int .i64 t, .int .i64 r] ∧ RowAt w21 C 33 G from ⟨WD.out.1.trans (b.mono WD.out.1.size), WD.out.2.1.new b, WD.out.2.2.1.new b, WD.out.2.2.2.new b⟩); clear b; clear c0 c1 c2 c3 k0 k1; have c0 : w21.cell? ⟨Z, 0, none⟩ = some (.int .i64 x.res) := W21.out.2.1.cell 0; have c1 : w21.cell? ⟨Z, 1, none⟩ = some (.slice S.t.sp nT S.t.c) := W21.out.2.1.cell 1; have c2 : w21.cell? ⟨Z, 2, none⟩ = some (.slice S.m.sp nM S.m.c) := W21.out.2.1.cell 2; have c3 : w21.cell? ⟨Z, 3, none⟩ = some (.slice S.e.sp nE S.e.c) := W21.out.2.1.cell 3; have k0 : w21.cell? ⟨Z + 1, 0, none⟩ = some (.int .i64 t) := W21.out.2.2.1.cell 0; have k1 : w21.cell? ⟨Z + 1, 1, none⟩ = some (.int .i64 r) := W21.out.2.2.1.cell 1; clear HAr)
              | (go_at_call 11; refine (HOv.out _).mono ?_; rintro e w22 ⟨rfl, b⟩; have W22 := Lib.hid (show Below w.heap.size w w22 ∧ RowAt w22 Z 26 #[.int .i64 x.res, .slice S.t.sp nT S.t.c, .slice S.m.sp nM S.m.c, .slice S.e.sp nE S.e.c] ∧ RowAt w22 (Z + 1) 30 #[.int .i64 t, .int .i64 r] ∧ RowAt w22 C 33 G from ⟨W21.out.1.trans (b.mono W21.out.1.size), W21.out.2.1.new b, W21.out.2.2.1.new b, W21.out.2.2.2.new b⟩); clear b; clear c0 c1 c2 c3 k0 k1; have c0 : w22.cell? ⟨Z, 0, none⟩ = some (.int .i64 x.res) := W22.out.2.1.cell 0; have c1 : w22.cell? ⟨Z, 1, none⟩ = some (.slice S.t.sp nT S.t.c) := W22.out.2.1.cell 1; have c2 : w22.cell? ⟨Z, 2, none⟩ = some (.slice S.m.sp nM S.m.c) := W22.out.2.1.cell 2; have c3 : w22.cell? ⟨Z, 3, none⟩ = some (.slice S.e.sp nE S.e.c) := W22.out.2.1.cell 3; have k0 : w22.cell? ⟨Z + 1, 0, none⟩ = some (.int .i64 t) := W22.out.2.2.1.cell 0; have k1 : w22.cell? ⟨Z + 1, 1, none⟩ = some (.int .i64 r) := W22.out.2.2.1.cell 1)
              | (go_at_call 12; refine (HLv.out _).mono ?_; rintro e w23 ⟨rfl, b⟩; have W23 := Lib.hid (show Below w.heap.size w w23 ∧ RowAt w23 Z 26 #[.int .i64 x.res, .slice S.t.sp nT S.t.c, .slice S.m.sp nM S.m.c, .slice S.e.sp nE S.e.c] ∧ RowAt w23 (Z + 1) 30 #[.int .i64 t, .int .i64 r] ∧ RowAt w23 C 33 G from ⟨W22.out.1.trans (b.mono W22.out.1.size), W22.out.2.1.new b, W22.out.2.2.1.new b, W22.out.2.2.2.new b⟩); clear b; clear c0 c1 c2 c3 k0 k1; have c0 : w23.cell? ⟨Z, 0, none⟩ = some (.int .i64 x.res) := W23.out.2.1.cell 0; have c1 : w23.cell? ⟨Z, 1, none⟩ = some (.slice S.t.sp nT S.t.c) := W23.out.2.1.cell 1; have c2 : w23.cell? ⟨Z, 2, none⟩ = some (.slice S.m.sp nM S.m.c) := W23.out.2.1.cell 2; have c3 : w23.cell? ⟨Z, 3, none⟩ = some (.slice S.e.sp nE S.e.c) := W23.out.2.1.cell 3; have k0 : w23.cell? ⟨Z + 1, 0, none⟩ = some (.int .i64 t) := W23.out.2.2.1.cell 0; have k1 : w23.cell? ⟨Z + 1, 1, none⟩ = some (.int .i64 r) := W23.out.2.2.1.cell 1)
              | (go_at_call 13; refine (HAl.out _ W23.out.1).mono ?_; rintro e w24 ⟨rfl, b⟩; have W24 := Lib.hid (W23.out.1.trans (b.mono W23.out.1.size)); clear b)
              | fail)
            go_ret
            exact ⟨rfl, W24.out⟩
    | succ g1 =>
      have hk : k < 8 := by omega
      have hk2 : (k : Int) < 8 := by omega
      have HS := Lib.hid (show tbOv F t (k + 1) = if (decide (F k ≤ t ∧ F k < 16)) = true then tbOv F t k ||| 1#32 <<< k else tbOv F t k from rfl)
      have HWi := Lib.hid (show ∀ wx, _ from fun wx => with_any (tbOv F t k) k wx)
      rw [onl_nat k (by omega)] at HWi
      have HCk := Lib.hid (show ∀ wx, Below w.heap.size w wx → _ from fun wx hb => HCe.out wx hb k hk)
      have HAk := Lib.hid (show ∀ wx, _ from fun wx => HAt.out wx (k : Int))
      have hta : tbAt F (k : Int) = F k := by unfold tbAt; rw [if_pos (by omega), Int.toNat_natCast]
      rw [hta] at HAk
      have hcell := HGa.out k hk
      have hx := HEx.out k hk
      obtain ⟨y, hy⟩ : ∃ y, F k = y := ⟨_, rfl⟩
      rw [hy] at HS HCk HAk hcell
      have HCl := Lib.hid hcell
      clear hy hta hcell
      have hzero : True := trivial
      by_cases h1 : y ≤ t
      · by_cases h2 : y < 16
        · have HD := Lib.hid (decide_eq_true (⟨h1, h2⟩ : y ≤ t ∧ y < 16))
          go_wp2_with (first
            | (go_at_call 7; refine (HCk.out _ HQ.out.1).mono ?_; rintro e w10 ⟨rfl, b⟩; have W10 := Lib.hid (show Below w.heap.size w w10 ∧ RowAt w10 Z 26 #[.int .i64 x.res, .slice S.t.sp nT S.t.c, .slice S.m.sp nM S.m.c, .slice S.e.sp nE S.e.c] ∧ RowAt w10 (Z + 1) 30 #[.int .i64 t, .int .i64 r] ∧ RowAt w10 C 33 G from ⟨HQ.out.1.trans (b.mono HQ.out.1.size), HQ.out.2.1.new b, HQ.out.2.2.1.new b, HQ.out.2.2.2.new b⟩); clear b; clear c0 c1 c2 c3 k0 k1; have c0 : w10.cell? ⟨Z, 0, none⟩ = some (.int .i64 x.res) := W10.out.2.1.cell 0; have c1 : w10.cell? ⟨Z, 1, none⟩ = some (.slice S.t.sp nT S.t.c) := W10.out.2.1.cell 1; have c2 : w10.cell? ⟨Z, 2, none⟩ = some (.slice S.m.sp nM S.m.c) := W10.out.2.1.cell 2; have c3 : w10.cell? ⟨Z, 3, none⟩ = some (.slice S.e.sp nE S.e.c) := W10.out.2.1.cell 3; have k0 : w10.cell? ⟨Z + 1, 0, none⟩ = some (.int .i64 t) := W10.out.2.2.1.cell 0; have k1 : w10.cell? ⟨Z + 1, 1, none⟩ = some (.int .i64 r) := W10.out.2.2.1.cell 1; have cy : w10.cell? ⟨C, k, none⟩ = some (.int .i64 y) := (W10.out.2.2.2.cell k).trans HCl.out)
            | (refine wpList_load_want (by rfl) 33 (.tmp 7) rfl C rfl 33 G (0, 0) _ W10.out.2.2.2 Tryd.underlying33 rfl HTi.out.1 ?_)
            | (go_at_call 8; refine (HAk.out _).mono ?_; rintro e w11 ⟨rfl, b⟩; have W11 := Lib.hid (show Below w.heap.size w w11 ∧ RowAt w11 Z 26 #[.int .i64 x.res, .slice S.t.sp nT S.t.c, .slice S.m.sp nM S.m.c, .slice S.e.sp nE S.e.c] ∧ RowAt w11 (Z + 1) 30 #[.int .i64 t, .int .i64 r] ∧ RowAt w11 C 33 G from ⟨W10.out.1.trans (b.mono W10.out.1.size), W10.out.2.1.new b, W10.out.2.2.1.new b, W10.out.2.2.2.new b⟩); clear b; clear c0 c1 c2 c3 k0 k1; have c0 : w11.cell? ⟨Z, 0, none⟩ = some (.int .i64 x.res) := W11.out.2.1.cell 0; have c1 : w11.cell? ⟨Z, 1, none⟩ = some (.slice S.t.sp nT S.t.c) := W11.out.2.1.cell 1; have c2 : w11.cell? ⟨Z, 2, none⟩ = some (.slice S.m.sp nM S.m.c) := W11.out.2.1.cell 2; have c3 : w11.cell? ⟨Z, 3, none⟩ = some (.slice S.e.sp nE S.e.c) := W11.out.2.1.cell 3; have k0 : w11.cell? ⟨Z + 1, 0, none⟩ = some (.int .i64 t) := W11.out.2.2.1.cell 0; have k1 : w11.cell? ⟨Z + 1, 1, none⟩ = some (.int .i64 r) := W11.out.2.2.1.cell 1; clear cy)
            | (go_at_call 9; refine (HEm.out _).mono ?_; rintro e w12 ⟨rfl, b⟩; have W12 := Lib.hid (show Below w.heap.size w w12 ∧ RowAt w12 Z 26 #[.int .i64 x.res, .slice S.t.sp nT S.t.c, .slice S.m.sp nM S.m.c, .slice S.e.sp nE S.e.c] ∧ RowAt w12 (Z + 1) 30 #[.int .i64 t, .int .i64 r] ∧ RowAt w12 C 33 G from ⟨W11.out.1.trans (b.mono W11.out.1.size), W11.out.2.1.new b, W11.out.2.2.1.new b, W11.out.2.2.2.new b⟩); clear b; clear c0 c1 c2 c3 k0 k1; have c0 : w12.cell? ⟨Z, 0, none⟩ = some (.int .i64 x.res) := W12.out.2.1.cell 0; have c1 : w12.cell? ⟨Z, 1, none⟩ = some (.slice S.t.sp nT S.t.c) := W12.out.2.1.cell 1; have c2 : w12.cell? ⟨Z, 2, none⟩ = some (.slice S.m.sp nM S.m.c) := W12.out.2.1.cell 2; have c3 : w12.cell? ⟨Z, 3, none⟩ = some (.slice S.e.sp nE S.e.c) := W12.out.2.1.cell 3; have k0 : w12.cell? ⟨Z + 1, 0, none⟩ = some (.int .i64 t) := W12.out.2.2.1.cell 0; have k1 : w12.cell? ⟨Z + 1, 1, none⟩ = some (.int .i64 r) := W12.out.2.2.1.cell 1)
            | (go_at_call 10; refine (HWi.out _).mono ?_; rintro e w' ⟨rfl, rfl⟩)
            | fail)
          go_roundg g1
          case measure => omega
          case rel => exact ⟨k + 1, by omega, by go_num, by rw [HS.out, if_pos HD.out], W12.out⟩
        · have HD := Lib.hid (decide_eq_false (fun h : y ≤ t ∧ y < 16 => h2 h.2))
          go_wp2_with (first
            | (go_at_call 7; refine (HCk.out _ HQ.out.1).mono ?_; rintro e w10 ⟨rfl, b⟩; have W10 := Lib.hid (show Below w.heap.size w w10 ∧ RowAt w10 Z 26 #[.int .i64 x.res, .slice S.t.sp nT S.t.c, .slice S.m.sp nM S.m.c, .slice S.e.sp nE S.e.c] ∧ RowAt w10 (Z + 1) 30 #[.int .i64 t, .int .i64 r] ∧ RowAt w10 C 33 G from ⟨HQ.out.1.trans (b.mono HQ.out.1.size), HQ.out.2.1.new b, HQ.out.2.2.1.new b, HQ.out.2.2.2.new b⟩); clear b; clear c0 c1 c2 c3 k0 k1; have c0 : w10.cell? ⟨Z, 0, none⟩ = some (.int .i64 x.res) := W10.out.2.1.cell 0; have c1 : w10.cell? ⟨Z, 1, none⟩ = some (.slice S.t.sp nT S.t.c) := W10.out.2.1.cell 1; have c2 : w10.cell? ⟨Z, 2, none⟩ = some (.slice S.m.sp nM S.m.c) := W10.out.2.1.cell 2; have c3 : w10.cell? ⟨Z, 3, none⟩ = some (.slice S.e.sp nE S.e.c) := W10.out.2.1.cell 3; have k0 : w10.cell? ⟨Z + 1, 0, none⟩ = some (.int .i64 t) := W10.out.2.2.1.cell 0; have k1 : w10.cell? ⟨Z + 1, 1, none⟩ = some (.int .i64 r) := W10.out.2.2.1.cell 1; have cy : w10.cell? ⟨C, k, none⟩ = some (.int .i64 y) := (W10.out.2.2.2.cell k).trans HCl.out)
            | (refine wpList_load_want (by rfl) 33 (.tmp 7) rfl C rfl 33 G (0, 0) _ W10.out.2.2.2 Tryd.underlying33 rfl HTi.out.1 ?_)
            | (go_at_call 8; refine (HAk.out _).mono ?_; rintro e w11 ⟨rfl, b⟩; have W11 := Lib.hid (show Below w.heap.size w w11 ∧ RowAt w11 Z 26 #[.int .i64 x.res, .slice S.t.sp nT S.t.c, .slice S.m.sp nM S.m.c, .slice S.e.sp nE S.e.c] ∧ RowAt w11 (Z + 1) 30 #[.int .i64 t, .int .i64 r] ∧ RowAt w11 C 33 G from ⟨W10.out.1.trans (b.mono W10.out.1.size), W10.out.2.1.new b, W10.out.2.2.1.new b, W10.out.2.2.2.new b⟩); clear b; clear c0 c1 c2 c3 k0 k1; have c0 : w11.cell? ⟨Z, 0, none⟩ = some (.int .i64 x.res) := W11.out.2.1.cell 0; have c1 : w11.cell? ⟨Z, 1, none⟩ = some (.slice S.t.sp nT S.t.c) := W11.out.2.1.cell 1; have c2 : w11.cell? ⟨Z, 2, none⟩ = some (.slice S.m.sp nM S.m.c) := W11.out.2.1.cell 2; have c3 : w11.cell? ⟨Z, 3, none⟩ = some (.slice S.e.sp nE S.e.c) := W11.out.2.1.cell 3; have k0 : w11.cell? ⟨Z + 1, 0, none⟩ = some (.int .i64 t) := W11.out.2.2.1.cell 0; have k1 : w11.cell? ⟨Z + 1, 1, none⟩ = some (.int .i64 r) := W11.out.2.2.1.cell 1; clear cy)
            | (go_at_call 9; refine (HEm.out _).mono ?_; rintro e w12 ⟨rfl, b⟩; have W12 := Lib.hid (show Below w.heap.size w w12 ∧ RowAt w12 Z 26 #[.int .i64 x.res, .slice S.t.sp nT S.t.c, .slice S.m.sp nM S.m.c, .slice S.e.sp nE S.e.c] ∧ RowAt w12 (Z + 1) 30 #[.int .i64 t, .int .i64 r] ∧ RowAt w12 C 33 G from ⟨W11.out.1.trans (b.mono W11.out.1.size), W11.out.2.1.new b, W11.out.2.2.1.new b, W11.out.2.2.2.new b⟩); clear b; clear c0 c1 c2 c3 k0 k1; have c0 : w12.cell? ⟨Z, 0, none⟩ = some (.int .i64 x.res) := W12.out.2.1.cell 0; have c1 : w12.cell? ⟨Z, 1, none⟩ = some (.slice S.t.sp nT S.t.c) := W12.out.2.1.cell 1; have c2 : w12.cell? ⟨Z, 2, none⟩ = some (.slice S.m.sp nM S.m.c) := W12.out.2.1.cell 2; have c3 : w12.cell? ⟨Z, 3, none⟩ = some (.slice S.e.sp nE S.e.c) := W12.out.2.1.cell 3; have k0 : w12.cell? ⟨Z + 1, 0, none⟩ = some (.int .i64 t) := W12.out.2.2.1.cell 0; have k1 : w12.cell? ⟨Z + 1, 1, none⟩ = some (.int .i64 r) := W12.out.2.2.1.cell 1)
            | (go_at_call 10; refine (HWi.out _).mono ?_; rintro e w' ⟨rfl, rfl⟩)
            | fail)
          go_roundg g1
          case measure => omega
          case rel => exact ⟨k + 1, by omega, by go_num, by rw [HS.out, if_neg (by rw [HD.out]; decide)], W12.out⟩
      · have HD := Lib.hid (decide_eq_false (fun h : y ≤ t ∧ y < 16 => h1 h.1))
        go_wp2_with (first
          | (go_at_call 7; refine (HCk.out _ HQ.out.1).mono ?_; rintro e w10 ⟨rfl, b⟩; have W10 := Lib.hid (show Below w.heap.size w w10 ∧ RowAt w10 Z 26 #[.int .i64 x.res, .slice S.t.sp nT S.t.c, .slice S.m.sp nM S.m.c, .slice S.e.sp nE S.e.c] ∧ RowAt w10 (Z + 1) 30 #[.int .i64 t, .int .i64 r] ∧ RowAt w10 C 33 G from ⟨HQ.out.1.trans (b.mono HQ.out.1.size), HQ.out.2.1.new b, HQ.out.2.2.1.new b, HQ.out.2.2.2.new b⟩); clear b; clear c0 c1 c2 c3 k0 k1; have c0 : w10.cell? ⟨Z, 0, none⟩ = some (.int .i64 x.res) := W10.out.2.1.cell 0; have c1 : w10.cell? ⟨Z, 1, none⟩ = some (.slice S.t.sp nT S.t.c) := W10.out.2.1.cell 1; have c2 : w10.cell? ⟨Z, 2, none⟩ = some (.slice S.m.sp nM S.m.c) := W10.out.2.1.cell 2; have c3 : w10.cell? ⟨Z, 3, none⟩ = some (.slice S.e.sp nE S.e.c) := W10.out.2.1.cell 3; have k0 : w10.cell? ⟨Z + 1, 0, none⟩ = some (.int .i64 t) := W10.out.2.2.1.cell 0; have k1 : w10.cell? ⟨Z + 1, 1, none⟩ = some (.int .i64 r) := W10.out.2.2.1.cell 1; have cy : w10.cell? ⟨C, k, none⟩ = some (.int .i64 y) := (W10.out.2.2.2.cell k).trans HCl.out)
          | (refine wpList_load_want (by rfl) 33 (.tmp 7) rfl C rfl 33 G (0, 0) _ W10.out.2.2.2 Tryd.underlying33 rfl HTi.out.1 ?_)
          | (go_at_call 8; refine (HAk.out _).mono ?_; rintro e w11 ⟨rfl, b⟩; have W11 := Lib.hid (show Below w.heap.size w w11 ∧ RowAt w11 Z 26 #[.int .i64 x.res, .slice S.t.sp nT S.t.c, .slice S.m.sp nM S.m.c, .slice S.e.sp nE S.e.c] ∧ RowAt w11 (Z + 1) 30 #[.int .i64 t, .int .i64 r] ∧ RowAt w11 C 33 G from ⟨W10.out.1.trans (b.mono W10.out.1.size), W10.out.2.1.new b, W10.out.2.2.1.new b, W10.out.2.2.2.new b⟩); clear b; clear c0 c1 c2 c3 k0 k1; have c0 : w11.cell? ⟨Z, 0, none⟩ = some (.int .i64 x.res) := W11.out.2.1.cell 0; have c1 : w11.cell? ⟨Z, 1, none⟩ = some (.slice S.t.sp nT S.t.c) := W11.out.2.1.cell 1; have c2 : w11.cell? ⟨Z, 2, none⟩ = some (.slice S.m.sp nM S.m.c) := W11.out.2.1.cell 2; have c3 : w11.cell? ⟨Z, 3, none⟩ = some (.slice S.e.sp nE S.e.c) := W11.out.2.1.cell 3; have k0 : w11.cell? ⟨Z + 1, 0, none⟩ = some (.int .i64 t) := W11.out.2.2.1.cell 0; have k1 : w11.cell? ⟨Z + 1, 1, none⟩ = some (.int .i64 r) := W11.out.2.2.1.cell 1; clear cy)
          | (go_at_call 9; refine (HEm.out _).mono ?_; rintro e w12 ⟨rfl, b⟩; have W12 := Lib.hid (show Below w.heap.size w w12 ∧ RowAt w12 Z 26 #[.int .i64 x.res, .slice S.t.sp nT S.t.c, .slice S.m.sp nM S.m.c, .slice S.e.sp nE S.e.c] ∧ RowAt w12 (Z + 1) 30 #[.int .i64 t, .int .i64 r] ∧ RowAt w12 C 33 G from ⟨W11.out.1.trans (b.mono W11.out.1.size), W11.out.2.1.new b, W11.out.2.2.1.new b, W11.out.2.2.2.new b⟩); clear b; clear c0 c1 c2 c3 k0 k1; have c0 : w12.cell? ⟨Z, 0, none⟩ = some (.int .i64 x.res) := W12.out.2.1.cell 0; have c1 : w12.cell? ⟨Z, 1, none⟩ = some (.slice S.t.sp nT S.t.c) := W12.out.2.1.cell 1; have c2 : w12.cell? ⟨Z, 2, none⟩ = some (.slice S.m.sp nM S.m.c) := W12.out.2.1.cell 2; have c3 : w12.cell? ⟨Z, 3, none⟩ = some (.slice S.e.sp nE S.e.c) := W12.out.2.1.cell 3; have k0 : w12.cell? ⟨Z + 1, 0, none⟩ = some (.int .i64 t) := W12.out.2.2.1.cell 0; have k1 : w12.cell? ⟨Z + 1, 1, none⟩ = some (.int .i64 r) := W12.out.2.2.1.cell 1)
          | (go_at_call 10; refine (HWi.out _).mono ?_; rintro e w' ⟨rfl, rfl⟩)
          | fail)
        go_roundg g1
        case measure => omega
        case rel => exact ⟨k + 1, by omega, by go_num, by rw [HS.out, if_neg (by rw [HD.out]; decide)], W12.out⟩
end Go.Proofs.YtomdcmdgcnhnmaaDoor
