/- Several texts in one: TP, Post, VO. -/
import Derived.Test.YtajknfoaiobleaaDoorPk14
import Derived.Test.YtajknfoaiobleaaDoorPk15
import Derived.Deep.QuietTactic
import Derived.DeepKeys
import Derived.ChangeKeysEq
import Derived.Carry
import Derived.OpenVars
import Derived.ProofKit
import Derived.OpenShut
import Derived.Test.YtajknfoaiobleaaDoorRows
import Derived.Test.YtajknfoaiobleaaDoorPk02
import Derived.WalkKit
import Derived.Lib.SmallJoins
import Derived.Deep.Slices
import Derived.Deep.Strs
/- The walk of SteadyGrows. -/
namespace Go.Proofs.YtajknfoaiobleaaDoor
open Go.RowKit

theorem app_firstG {w w1 : World} {n : Nat} {L : List Value} {v1 : Value} (hown : w1.ownsRow w.heap.size 50 11 v1 (0 + n) ([] ++ L)) (hg : (w.alloc (.cells #[] 50)).grownBy w1 (Value.slice (some ⟨w.heap.size, 0, none⟩) 0 0).ownBlock) :
    w1.ownsRow w.heap.size 50 11 v1 n L ∧ Below w.heap.size w w1 := by
  rw [Nat.zero_add, List.nil_append] at hown
  have hb : Below w.heap.size w (w.alloc (.cells #[] 50)) := (Below.refl _ _).alloc (Nat.le_refl _) _
  exact ⟨hown, hb.grown hg (by rw [size_add]; omega) (fun j e => by simp [Value.ownBlock] at e; omega)⟩
/-- Which task it is. -/
def whichK (a : Int) (n : Nat) : Nat := ((a.tmod (n : Int) + (n : Int)).tmod (n : Int)).toNat
theorem whichK_is {a : Int} {n : Nat} (hn : 1 ≤ n) : whichK a n < n ∧ (a.tmod (n : Int) + (n : Int)).tmod (n : Int) = (whichK a n : Int) ∧ -(n : Int) < a.tmod (n : Int) ∧ a.tmod (n : Int) < (n : Int) := by
  have h1 : a.tmod (n : Int) < (n : Int) := Int.tmod_lt_of_pos _ (by omega)
  have h2 : -(n : Int) < a.tmod (n : Int) := by
    have h3 := Int.tmod_lt_of_pos (-a) (show (0 : Int) < (n : Int) by omega)
    rw [Int.neg_tmod] at h3
    omega
  have h4 : 0 ≤ (a.tmod (n : Int) + (n : Int)).tmod (n : Int) := Int.tmod_nonneg _ (by omega)
  have h5 : (a.tmod (n : Int) + (n : Int)).tmod (n : Int) < (n : Int) := Int.tmod_lt_of_pos _ (by omega)
  unfold whichK
  exact ⟨by omega, by omega, h2, h1⟩
theorem longT_same {t : TaskM} (h : ¬ t.cost < t.dl) : longT t = t := by unfold longT; rw [if_neg h]
theorem long_set {x : Img} {w : World} {b o nT K : Nat} (hK : K < x.tasks.length) (h8 : ∀ k, k < nT → (x.t k).lon.length = 8) (hat : ∀ k, k < nT → At w b (o + k * 11) (taskC (x.t k))) (hKn : K < nT) (hc : (x.t K).cost < (x.t K).dl) :
    ∀ k, k < nT → At (w.setCell ⟨b, o + K * 11 + 2, none⟩ (.int .i64 ((x.t K).cost + 1))) b (o + k * 11) (taskC ((longI x K).t k)) := by
  intro k hk j u hu
  have ho : ∀ v, o + k * 11 + j ≠ o + K * 11 + 2 → w.cell? ⟨b, o + k * 11 + j, none⟩ = some v → (w.setCell ⟨b, o + K * 11 + 2, none⟩ (.int .i64 ((x.t K).cost + 1))).cell? ⟨b, o + k * 11 + j, none⟩ = some v := fun v hq hcell => by
    rw [World.cell?_setCell_other _ _ _ _ (fun e => by injection e with _ e _; exact hq e.symm)]; exact hcell
  rw [longI_t x K k hK] at hu
  by_cases e : k = K
  · subst e
    rw [if_pos rfl] at hu
    have hl : longT (x.t k) = { x.t k with cost := (x.t k).cost + 1 } := by unfold longT; rw [if_pos hc]
    rw [hl] at hu
    rcases j with _ | _ | _ | j
    · exact ho _ (by omega) (hat k hk 0 u hu)
    · exact ho _ (by omega) (hat k hk 1 u hu)
    · rw [show u = .int .i64 ((x.t k).cost + 1) from (Option.some.inj hu).symm]
      exact World.cell?_setCell_same _ _ _ (hat k hk 2 _ rfl)
    · exact ho _ (by omega) (hat k hk (j + 1 + 1 + 1) u hu)
  · rw [if_neg e] at hu
    have hj : j < 11 := by
      have := (List.getElem?_eq_some_iff.1 hu).1
      rwa [taskC_len (h8 k hk)] at this
    exact ho _ (by omega) (hat k hk j u hu)
set_option maxHeartbeats 8000000 in
set_option maxRecDepth 100000 in
theorem law_grows18 {w : World} {V : Nat → Prop} {x : Img} {S : ImgS} (h : ImgAt w V x S) (ht : Tab w) (s : BitVec 32) (a : Int) :
    Calls Tryd.prog 5 #[.agg #[.int .i64 x.res, .slice S.t.sp x.tasks.length S.t.c, .slice S.m.sp x.modes.length S.m.c, .slice S.e.sp x.edges.length S.e.c], .int .u32 (w32 s), .agg #[.int .i64 a]] w fun e w' => e = .returned (.bool true) ∧ Below w.heap.size w w' := by
  obtain ⟨i0, hi, hz0, hz1, hz2⟩ := info_parts (show (Tryd.prog.info? 50).map (fun i => (i.zero, i.size, i.bytes)) = some (some (.agg #[.int .i64 0, .int .i64 0, .int .i64 0, .int .i64 0, .int .i64 0, .int .i64 0, .int .i64 0, .int .i64 0, .int .i64 0, .int .i64 0, .int .i64 0]), 11, 88) from by kernel_rfl)
  have hp := ht.pos
  have HI := Lib.hid h
  have HTb := Lib.hid (show ∀ w', Below w.heap.size w w' → Tab w' from fun w' hb => ht.below hp hb)
  have HGr := Lib.hid (show ∀ wx, Below w.heap.size w wx → _ from fun wx hb => great10_any (h.new hb))
  have HRi := Lib.hid (show ∀ wx, Below w.heap.size w wx → _ from fun wx hb => rRight_any (h.new hb))
  have HWs := Lib.hid (show x.tasks.length ≤ 32 → ∀ wx, Below w.heap.size w wx → _ from fun hn wx _ => Within_any (w := wx) (x := x) (S := S) s hn)
  obtain ⟨y, hy⟩ : ∃ y, wthF x s = y := ⟨_, rfl⟩
  rw [hy] at HWs
  clear hy
  have HOf := Lib.hid (show ∀ wx, Below w.heap.size w wx → _ from fun wx hb => cOf_any (h.new hb) (ht.below hp hb) y)
  have HSx := Lib.hid (show GoodI x → ∀ i, i < x.tasks.length → ∀ wx, Below w.heap.size w wx → _ from fun hG i hi wx hb => stResp_any (h.new hb) (ht.below hp hb) hG y y (ceilF x y) i hi)
  have HAl := Lib.hid (show ∀ wx, Below w.heap.size w wx → _ from fun wx hb => l18alive_any wx (ht.below hp hb))
  have HGd := Lib.hid (show rightB x = true → GoodI x from rightB_good)
  have HSt := Lib.hid (show 0 < x.tasks.length → _ from h.st.at_)
  obtain ⟨nT, hnT⟩ : ∃ n, x.tasks.length = n := ⟨_, rfl⟩
  obtain ⟨nM, hnM⟩ : ∃ n, x.modes.length = n := ⟨_, rfl⟩
  obtain ⟨nE, hnE⟩ : ∃ n, x.edges.length = n := ⟨_, rfl⟩
  obtain ⟨sT, hsT⟩ : ∃ n, S.t.sp = n := ⟨_, rfl⟩
  rw [hnT, hnM, hnE, hsT] at HGr HRi HWs HOf HSx
  rw [hnT, hsT] at HSt
  rw [hnT, hnM, hnE, hsT]
  have HN := Lib.hid (And.intro hnT (And.intro hnM hnE))
  have HsT := Lib.hid hsT
  obtain ⟨Z, hZ⟩ : ∃ Z, Z = w.heap.size := ⟨_, rfl⟩
  have HZ := Lib.hid hZ
  clear h ht hp hnT hnM hnE hsT
  go_enter Tryd.func5, Tryd.ntmps5
  go_upto_region 1 with fail
  rw [← hZ]
  generalize hw2 : World.alloc (World.alloc w _) _ = w2
  have H2 := Lib.hid (show Below w.heap.size w w2 ∧ RowAt w2 Z 26 #[.int .i64 x.res, .slice sT nT S.t.c, .slice S.m.sp nM S.m.c, .slice S.e.sp nE S.e.c] ∧ RowAt w2 (Z + 1) 48 #[.int .i64 a] by
    rw [← hw2, hZ]
    exact ⟨((Below.refl _ _).alloc (Nat.le_refl _) _).alloc (by simp) _, row_keep (RowAt.mk _ _ _) _, row_next _ _ (by simp) _ _⟩)
  clear hw2 hZ
  obtain ⟨c0, c1, c2, c3⟩ := img_cells H2.out.2.1
  cases hg : greatI x
  case true =>
    rw [hg] at HGr
    clear hg
    go_wp2_with (first
      | (go_at_call 6; refine (HGr.out _ H2.out.1).mono ?_; rintro e w3 ⟨rfl, b3⟩; have H3 := Lib.hid (H2.out.1.trans (b3.mono H2.out.1.size)); clear b3)
      | fail)
    go_ret
    exact ⟨rfl, H3.out⟩
  case false =>
    rw [hg] at HGr
    clear hg
    cases hr : rightB x
    case false =>
      rw [hr] at HRi
      clear hr
      go_wp2_with (first
        | (go_at_call 6; refine (HGr.out _ H2.out.1).mono ?_; rintro e w3 ⟨rfl, b3⟩; have H3 := Lib.hid (show Below w.heap.size w w3 ∧ RowAt w3 Z 26 #[.int .i64 x.res, .slice sT nT S.t.c, .slice S.m.sp nM S.m.c, .slice S.e.sp nE S.e.c] ∧ RowAt w3 (Z + 1) 48 #[.int .i64 a] from ⟨H2.out.1.trans (b3.mono H2.out.1.size), H2.out.2.1.new b3, H2.out.2.2.new b3⟩); clear b3 c0 c1 c2 c3 HGr; obtain ⟨c0, c1, c2, c3⟩ := img_cells H3.out.2.1)
        | (go_at_call 7; refine (HRi.out _ H3.out.1).mono ?_; rintro e w4 ⟨rfl, b4⟩; have H4 := Lib.hid (H3.out.1.trans (b4.mono H3.out.1.size)); clear b4)
        | fail)
      go_ret
      exact ⟨rfl, H4.out⟩
    case true =>
      have HG := Lib.hid (HGd.out hr)
      rw [hr] at HRi
      have HWs2 := Lib.hid (HWs.out (by have := HG.out.n16; have := HN.out.1; omega))
      have HSx2 := Lib.hid (HSx.out HG.out)
      have H16 := HG.out.n16
      have H1 := HG.out.n1
      rw [HN.out.1] at H16 H1
      obtain ⟨rfl, hsb, -⟩ := HSt.out (by omega)
      have HSb := Lib.hid hsb
      clear hr HWs HSx HGd HSt hsb
      go_upto_region 5 with (first
        | (go_at_call 6; refine (HGr.out _ H2.out.1).mono ?_; rintro e w3 ⟨rfl, b3⟩; have H3 := Lib.hid (show Below w.heap.size w w3 ∧ RowAt w3 Z 26 #[.int .i64 x.res, .slice (some ⟨S.t.b, S.t.o, none⟩) nT S.t.c, .slice S.m.sp nM S.m.c, .slice S.e.sp nE S.e.c] ∧ RowAt w3 (Z + 1) 48 #[.int .i64 a] from ⟨H2.out.1.trans (b3.mono H2.out.1.size), H2.out.2.1.new b3, H2.out.2.2.new b3⟩); clear b3 c0 c1 c2 c3 HGr; obtain ⟨c0, c1, c2, c3⟩ := img_cells H3.out.2.1)
        | (go_at_call 7; refine (HRi.out _ H3.out.1).mono ?_; rintro e w4 ⟨rfl, b4⟩; have H4 := Lib.hid (show Below w.heap.size w w4 ∧ RowAt w4 Z 26 #[.int .i64 x.res, .slice (some ⟨S.t.b, S.t.o, none⟩) nT S.t.c, .slice S.m.sp nM S.m.c, .slice S.e.sp nE S.e.c] ∧ RowAt w4 (Z + 1) 48 #[.int .i64 a] from ⟨H3.out.1.trans (b4.mono H3.out.1.size), H3.out.2.1.new b4, H3.out.2.2.new b4⟩); clear b4 c0 c1 c2 c3 HRi; obtain ⟨c0, c1, c2, c3⟩ := img_cells H4.out.2.1)
        | (go_at_call 8; refine (HWs2.out _ H4.out.1).mono ?_; rintro e w5 ⟨rfl, b5⟩; have H5 := Lib.hid (show Below w.heap.size w w5 ∧ RowAt w5 Z 26 #[.int .i64 x.res, .slice (some ⟨S.t.b, S.t.o, none⟩) nT S.t.c, .slice S.m.sp nM S.m.c, .slice S.e.sp nE S.e.c] ∧ RowAt w5 (Z + 1) 48 #[.int .i64 a] from ⟨H4.out.1.trans (b5.mono H4.out.1.size), H4.out.2.1.new b5, H4.out.2.2.new b5⟩); clear b5 c0 c1 c2 c3 HWs2; obtain ⟨c0, c1, c2, c3⟩ := img_cells H5.out.2.1)
        | fail)
      obtain ⟨Y, hY⟩ : ∃ Y, Y = w5.heap.size := ⟨_, rfl⟩
      rw [← hY]
      generalize hw6 : World.alloc w5 _ = w6
      have H6 := Lib.hid (show Below w.heap.size w w6 ∧ RowAt w6 Z 26 #[.int .i64 x.res, .slice (some ⟨S.t.b, S.t.o, none⟩) nT S.t.c, .slice S.m.sp nM S.m.c, .slice S.e.sp nE S.e.c] ∧ RowAt w6 (Z + 1) 48 #[.int .i64 a] ∧ RowAt w6 Y 26 #[.int .i64 x.res, .slice (some ⟨S.t.b, S.t.o, none⟩) nT S.t.c, .slice S.m.sp nM S.m.c, .slice S.e.sp nE S.e.c] ∧ w6.heap.size = Y + 1 ∧ Z + 1 < Y by
        rw [← hw6, hY]
        exact ⟨below_alloc H5.out.1 (Nat.le_refl _) _, row_keep H5.out.2.1 _, row_keep H5.out.2.2 _, RowAt.mk _ _ _, by simp, H5.out.2.2.lt⟩)
      clear hw6 hY H2 H3 H4 H5 c0 c1 c2 c3
      obtain ⟨news, hnews⟩ : ∃ l, rowsOf (fun k => taskC (x.t k)) nT = l := ⟨_, rfl⟩
      have HTl := Lib.hid (show ∀ k, k < nT → (taskC (x.t k)).length = 11 from fun k hk => taskC_len (HI.out.tk k (by rw [HN.out.1]; exact hk)).2)
      have HNw := Lib.hid (show news.length = nT * 11 ∧ (∀ ad, some (⟨S.t.b, S.t.o, none⟩ : Addr) = some ad → ∀ j u, news[j]? = some u → (w6.alloc (.cells #[] 50)).cell? (ad.add j) = some u) ∧ ∀ u ∈ news, u.oneCell' = true by
        have hl : ∀ k, k < nT → (taskC (x.t k)).length = 11 := fun k hk => taskC_len (HI.out.tk k (by rw [HN.out.1]; exact hk)).2
        rw [← hnews]
        refine ⟨rowsOf_len _ hl, fun ad hd j u hu => ?_, rowsOf_all fun k _ => by have := taskC_one (x.t k); rw [List.all_eq_true] at this; exact this⟩
        rw [← Option.some.inj hd]
        refine rowsOf_src (by decide) hl (fun k hk => ?_) j u hu
        have h0 := (HI.out.tk k (by rw [HN.out.1]; exact hk)).1
        have hb : Below w.heap.size w (w6.alloc (.cells #[] 50)) := below_alloc H6.out.1 (Nat.le_refl _) _
        exact fun j u hu => (hb.cell HSb.out).trans (h0 j u hu))
      have HNe := Lib.hid hnews
      clear hnews
      have c1 : ∀ o, (w6.alloc o).cell? ⟨Z, 1, none⟩ = some (.slice (some ⟨S.t.b, S.t.o, none⟩) nT S.t.c) := fun o => (row_keep H6.out.2.1 o).cell 1
      go_upto_region 6 with (first
        | (at_builtin; refine wpList_append_vary rfl (.tmp 27) (.tmp 29) 22 rfl w6.heap.size 50 i0 (.agg #[.int .i64 0, .int .i64 0, .int .i64 0, .int .i64 0, .int .i64 0, .int .i64 0, .int .i64 0, .int .i64 0, .int .i64 0, .int .i64 0, .int .i64 0]) 11 88 Tryd.underlying22 hi hz0 hz1 hz2 rfl (by decide) _ 0 [] rfl (own_fresh w6 w6.heap.size 50 11 (Nat.le_refl _)) _ nT _ news rfl HNw.out.1 (fun h => by cases h) HNw.out.2.1 HNw.out.2.2 (by unfold maxLen; omega) (by omega) (by rw [size_add]; omega) ?_; intro v7 w7 hown7 hg7 hat7; obtain ⟨hown, hbel⟩ := app_firstG hown7 hg7; rw [← HNe.out] at hown; obtain ⟨S4, rfl, h4, at4⟩ := own_rows hown HTl.out (by omega); obtain ⟨sp4, b4, o4, c4⟩ := S4; obtain ⟨hsp4, hge4, hlt4, hfr4⟩ := h4 (by omega); dsimp only at hsp4 hge4 hlt4 hfr4 at4 ⊢; subst hsp4; have H7 := Lib.hid (And.intro hbel (And.intro at4 (And.intro hge4 (And.intro hlt4 hfr4)))); clear hown7 hg7 hat7 c1 hown h4; have gA : w7.cell? ⟨Y, 1, none⟩ = some (.slice (some ⟨S.t.b, S.t.o, none⟩) nT S.t.c) := (H6.out.2.2.2.1.new hbel).cell 1; have gB : w7.frozen? ⟨Y, 1, none⟩ = false := (H6.out.2.2.2.1.new hbel).fr 1; clear hbel at4 hge4 hlt4 hfr4)
        | fail)
      generalize hw8 : World.setCell w7 _ _ = w8
      have H8 := Lib.hid (show Below w.heap.size w w8 ∧ RowAt w8 Z 26 #[.int .i64 x.res, .slice (some ⟨S.t.b, S.t.o, none⟩) nT S.t.c, .slice S.m.sp nM S.m.c, .slice S.e.sp nE S.e.c] ∧ RowAt w8 (Z + 1) 48 #[.int .i64 a] ∧ RowAt w8 Y 26 #[.int .i64 x.res, .slice (some ⟨b4, o4, none⟩) nT c4, .slice S.m.sp nM S.m.c, .slice S.e.sp nE S.e.c] ∧ (∀ k, k < nT → At w8 b4 (o4 + k * 11) (taskC (x.t k))) ∧ b4 < w8.heap.size ∧ (∀ j, w8.frozen? ⟨b4, j, none⟩ = false) ∧ Y < b4 ∧ Z + 1 < Y by
        have hY := H6.out.2.2.2.2.1
        have hc : Ch (fun j => j = Y) w7 w8 := by rw [← hw8]; exact (Ch.refl _ _).setCell _ _ (.inl rfl)
        have hz := HZ.out
        have h7 := H7.out
        have h1 := H6.out.2.2.2.2.2
        refine ⟨?_, (H6.out.2.1.new h7.1).keep hc (fun e => by omega), (H6.out.2.2.1.new h7.1).keep hc (fun e => by omega), ?_, fun k hk => (h7.2.1 k hk).keep hc (fun e => by omega), by have := hc.size; omega, fun j => ?_, by omega, h1⟩
        · rw [← hw8]; exact (H6.out.1.trans (h7.1.mono H6.out.1.size)).setCell (by show _ ≤ Y; omega) _
        · rw [← hw8]; exact (H6.out.2.2.2.1.new h7.1).setC 1 _
        · rw [← hw8, World.frozen?_setCell]; exact h7.2.2.2.2 j)
      clear hw8 gA gB H6 H7 HNw HNe HTl
      obtain ⟨hKlt, hKeq, hq1, hq2⟩ := whichK_is (a := a) (n := nT) H1
      obtain ⟨K, hK⟩ : ∃ K, whichK a nT = K := ⟨_, rfl⟩
      rw [hK] at hKlt hKeq
      obtain ⟨q, hq⟩ : ∃ q, a.tmod (nT : Int) = q := ⟨_, rfl⟩
      rw [hq] at hKeq hq1 hq2
      have hwq : IntKind.i64.wrap (q + (nT : Int)) = q + (nT : Int) := by rw [IntKind.wrap_i64]; omega
      have hwq2 : IntKind.i64.wrap q = q := by rw [IntKind.wrap_i64]; omega
      have hwK : IntKind.i64.wrap (K : Int) = (K : Int) := by rw [IntKind.wrap_i64]; omega
      have hn0 : ¬ (nT : Int) = 0 := by omega
      have c1 : w8.cell? ⟨Z, 1, none⟩ = some (.slice (some ⟨S.t.b, S.t.o, none⟩) nT S.t.c) := H8.out.2.1.cell 1
      have d0 : w8.cell? ⟨Z + 1, 0, none⟩ = some (.int .i64 a) := H8.out.2.2.1.cell 0
      go_quiet (fail)
      generalize hw9 : World.drewN w8 _ = w9
      have H9 := Lib.hid (show Below w.heap.size w w9 ∧ RowAt w9 Z 26 #[.int .i64 x.res, .slice (some ⟨S.t.b, S.t.o, none⟩) nT S.t.c, .slice S.m.sp nM S.m.c, .slice S.e.sp nE S.e.c] ∧ RowAt w9 Y 26 #[.int .i64 x.res, .slice (some ⟨b4, o4, none⟩) nT c4, .slice S.m.sp nM S.m.c, .slice S.e.sp nE S.e.c] ∧ (∀ k, k < nT → At w9 b4 (o4 + k * 11) (taskC (x.t k))) ∧ b4 < w9.heap.size ∧ (∀ j, w9.frozen? ⟨b4, j, none⟩ = false) ∧ Y < b4 ∧ Z + 1 < Y by
        rw [← hw9]
        exact ⟨below_dn H8.out.1 _, H8.out.2.1, H8.out.2.2.2.1, H8.out.2.2.2.2.1, H8.out.2.2.2.2.2.1, H8.out.2.2.2.2.2.2.1, H8.out.2.2.2.2.2.2.2.1, H8.out.2.2.2.2.2.2.2.2⟩)
      clear hw9 H8 c1 d0 hwq hwq2 hwK hn0 hKeq hq hq1 hq2 hK
      have HKl := Lib.hid hKlt
      have hK2 : (K : Int) < (nT : Int) := by omega
      have HCR := Lib.hid (HG.out.cost K (by rw [HN.out.1]; exact hKlt))
      have HDR := Lib.hid (HG.out.dl K (by rw [HN.out.1]; exact hKlt))
      have d1 : w9.cell? ⟨Y, 1, none⟩ = some (.slice (some ⟨b4, o4, none⟩) nT c4) := H9.out.2.2.1.cell 1
      have t1 : w9.cell? ⟨b4, o4 + K * 11 + 1, none⟩ = some (.int .i64 (x.t K).dl) := H9.out.2.2.2.1 K hKlt 1 _ rfl
      have t2 : w9.cell? ⟨b4, o4 + K * 11 + 2, none⟩ = some (.int .i64 (x.t K).cost) := H9.out.2.2.2.1 K hKlt 2 _ rfl
      have HLs := Lib.hid (show ∀ wx : World, (∀ k, k < nT → At wx b4 (o4 + k * 11) (taskC (x.t k))) → (x.t K).cost < (x.t K).dl → ∀ k, k < nT → At (wx.setCell ⟨b4, o4 + K * 11 + 2, none⟩ (.int .i64 ((x.t K).cost + 1))) b4 (o4 + k * 11) (taskC ((longI x K).t k)) from fun wx h1 h2 => long_set (by rw [HN.out.1]; exact HKl.out) (fun k hk => (HI.out.tk k (by rw [HN.out.1]; exact hk)).2) (fun k hk => h1 k hk) HKl.out h2)
      have HLn := Lib.hid (show ∀ wx : World, (∀ k, k < nT → At wx b4 (o4 + k * 11) (taskC (x.t k))) → ¬ (x.t K).cost < (x.t K).dl → ∀ k, k < nT → At wx b4 (o4 + k * 11) (taskC ((longI x K).t k)) from fun wx h1 h2 k hk => by
        rw [longI_t x K k (by rw [HN.out.1]; exact HKl.out)]
        split
        · rename_i e; rw [longT_same h2, ← e]; exact h1 k hk
        · exact h1 k hk)
      obtain ⟨cK, hcK⟩ : ∃ c, (x.t K).cost = c := ⟨_, rfl⟩
      obtain ⟨dK, hdK⟩ : ∃ c, (x.t K).dl = c := ⟨_, rfl⟩
      rw [hcK] at t2 HLs HLn HCR
      rw [hdK] at t1 HLs HLn HDR
      clear hcK hdK hKlt
      go_upto_region 7 with fail
      go_quiet (fail)
      generalize hw10 : World.drewN w9 _ = w10
      have H10 := Lib.hid (show Below w.heap.size w w10 ∧ RowAt w10 Z 26 #[.int .i64 x.res, .slice (some ⟨S.t.b, S.t.o, none⟩) nT S.t.c, .slice S.m.sp nM S.m.c, .slice S.e.sp nE S.e.c] ∧ RowAt w10 Y 26 #[.int .i64 x.res, .slice (some ⟨b4, o4, none⟩) nT c4, .slice S.m.sp nM S.m.c, .slice S.e.sp nE S.e.c] ∧ (∀ k, k < nT → At w10 b4 (o4 + k * 11) (taskC (x.t k))) ∧ b4 < w10.heap.size ∧ (∀ j, w10.frozen? ⟨b4, j, none⟩ = false) ∧ Y < b4 ∧ Z + 1 < Y by
        rw [← hw10]
        exact ⟨below_dn H9.out.1 _, H9.out.2⟩)
      have t2 : w10.cell? ⟨b4, o4 + K * 11 + 2, none⟩ = some (.int .i64 cK) := by rw [← hw10]; exact t2
      have d1 : w10.cell? ⟨Y, 1, none⟩ = some (.slice (some ⟨b4, o4, none⟩) nT c4) := H10.out.2.2.1.cell 1
      have f2 : w10.frozen? ⟨b4, o4 + K * 11 + 2, none⟩ = false := H10.out.2.2.2.2.2.1 _
      have hcw : IntKind.i64.wrap (cK + 1) = cK + 1 := by rw [IntKind.wrap_i64]; have := HCR.out; omega
      clear hw10 t1 H9
      go_upto_if 58 with fail
      go_cut [58] from 59 to 67 (fun _ wx => Aside (Below w.heap.size w wx ∧ RowAt wx Z 26 #[.int .i64 x.res, .slice (some ⟨S.t.b, S.t.o, none⟩) nT S.t.c, .slice S.m.sp nM S.m.c, .slice S.e.sp nE S.e.c] ∧ RowAt wx Y 26 #[.int .i64 x.res, .slice (some ⟨b4, o4, none⟩) nT c4, .slice S.m.sp nM S.m.c, .slice S.e.sp nE S.e.c] ∧ (∀ k, k < nT → At wx b4 (o4 + k * 11) (taskC ((longI x K).t k))) ∧ b4 < wx.heap.size ∧ Y < b4 ∧ Z + 1 < Y))
      case first =>
        have HX := H10.out
        by_cases hcd : cK < dK
        · go_wp2
          go_meet
          case rel =>
            have hx := H10.out
            have hz := HZ.out
            have hc : Ch (fun j => j = b4) w10 (w10.setCell ⟨b4, o4 + K * 11 + 2, none⟩ (.int .i64 (cK + 1))) := (Ch.refl _ _).setCell _ _ (.inl rfl)
            exact ⟨hx.1.setCell (by show _ ≤ b4; omega) _, hx.2.1.keep hc (fun e => by omega), hx.2.2.1.keep hc (fun e => by omega), HLs.out w10 hx.2.2.2.1 hcd, by have := hc.size; omega, hx.2.2.2.2.2.2.1, hx.2.2.2.2.2.2.2⟩
        · go_wp2
          go_meet
          case rel =>
            have hx := H10.out
            exact ⟨hx.1, hx.2.1, hx.2.2.1, HLn.out w10 hx.2.2.2.1 hcd, hx.2.2.2.2.1, hx.2.2.2.2.2.2.1, hx.2.2.2.2.2.2.2⟩
      case rest =>
        have H11 := Lib.hid hcut.out
        clear hcut t2 d1 f2 hcw H10 HCR HDR HLs HLn
        have HmW := Lib.hid (show ∀ wx, _ from fun wx => with_any y (K : Int) wx)
        have HMr := Lib.hid (show ∀ i, i < 32 → y.getLsbD i = true → (y ||| onl (K : Int)).getLsbD i = true from fun i a b => by rw [BitVec.getLsbD_or, b]; rfl)
        obtain ⟨u, hu⟩ : ∃ u, y ||| onl (K : Int) = u := ⟨_, rfl⟩
        rw [hu] at HmW HMr
        clear hu
        have HYi := Lib.hid (show ∀ wx, Below wc.heap.size wc wx → ImgAt wx (fun _ => False) (longI x K) { S with t := ⟨some ⟨b4, o4, none⟩, b4, o4, c4⟩ } from fun wx hb =>
          longI_at (S4 := ⟨some ⟨b4, o4, none⟩, b4, o4, c4⟩) (HI.out.new (H11.out.1.trans (hb.mono H11.out.1.size))) (by rw [HN.out.1]; exact HKl.out) rfl (Nat.lt_of_lt_of_le H11.out.2.2.2.2.1 hb.size) (fun i hi => by
            rw [HN.out.1] at hi
            exact fun j v hv => (hb.cell H11.out.2.2.2.2.1).trans (H11.out.2.2.2.1 i hi j v hv)))
        have HGy := Lib.hid (longI_good HG.out (by rw [HN.out.1]; exact HKl.out))
        have HBw := Lib.hid (show ∀ wx, Below wc.heap.size wc wx → Below w.heap.size w wx from fun wx hb => H11.out.1.trans (hb.mono H11.out.1.size))
        have hly : (longI x K).tasks.length = nT := by rw [longI_len]; exact HN.out.1
        have HOy := Lib.hid (show ∀ wx, Below wc.heap.size wc wx → Calls Tryd.prog 9 #[.agg #[.int .i64 x.res, .slice (some ⟨b4, o4, none⟩) nT c4, .slice S.m.sp nM S.m.c, .slice S.e.sp nE S.e.c], .int .u32 (w32 u)] wx fun e w' => e = .returned (.agg (tb (ceilF (longI x K) u))) ∧ Below wx.heap.size wx w' from fun wx hb => by
          have := cOf_any (HYi.out wx hb) (HTb.out wx (HBw.out wx hb)) u
          rw [hly, show (longI x K).modes.length = nM from HN.out.2.1, show (longI x K).edges.length = nE from HN.out.2.2] at this
          exact this)
        have HSy := Lib.hid (show ∀ i, i < nT → ∀ wx, Below wc.heap.size wc wx → Calls Tryd.prog 11 #[.agg #[.int .i64 x.res, .slice (some ⟨b4, o4, none⟩) nT c4, .slice S.m.sp nM S.m.c, .slice S.e.sp nE S.e.c], .int .u32 (w32 u), .int .u32 (w32 u), .agg (tb (ceilF (longI x K) u)), .int .i64 (i : Nat)] wx fun e w' => e = .returned (.tuple #[.agg #[.int .i64 (i : Nat), .int .i64 (blkF (longI x K) u (ceilF (longI x K) u) (i : Int)), .int .i64 (tT (rspF (longI x K) u u (ceilF (longI x K) u) i))], .bool (tB (rspF (longI x K) u u (ceilF (longI x K) u) i))]) ∧ Below wx.heap.size wx w' from fun i hi wx hb => by
          have := stResp_any (HYi.out wx hb) (HTb.out wx (HBw.out wx hb)) HGy.out u u (ceilF (longI x K) u) i (by rw [hly]; exact hi)
          rw [hly, show (longI x K).modes.length = nM from HN.out.2.1, show (longI x K).edges.length = nE from HN.out.2.2] at this
          exact this)
        have HBl := Lib.hid (show ∀ i : Int, blkF x y (ceilF x y) i ≤ blkF (longI x K) u (ceilF (longI x K) u) i from fun i => blk_less HG.out (by rw [HN.out.1]; exact HKl.out) HMr.out i)
        have HRl := Lib.hid (show ∀ i, i < nT → i ≠ K → tB (rspF (longI x K) u u (ceilF (longI x K) u) i) = true → tB (rspF x y y (ceilF x y) i) = true ∧ tT (rspF x y y (ceilF x y) i) ≤ tT (rspF (longI x K) u u (ceilF (longI x K) u) i) from fun i hi hik hb => rsp_less HG.out (by rw [HN.out.1]; exact HKl.out) HMr.out (by rw [HN.out.1]; exact hi) hik hb)
        have HTi := Lib.hid (tb_info (ceilF (longI x K) u))
        have HTs := Lib.hid (And.intro (tb_size (ceilF (longI x K) u)) (tb_one (ceilF (longI x K) u)))
        obtain ⟨T2, hT2⟩ : ∃ T, tb (ceilF (longI x K) u) = T := ⟨_, rfl⟩
        rw [hT2] at HOy HSy HTi HTs
        obtain ⟨T1, hT1⟩ : ∃ T, tb (ceilF x y) = T := ⟨_, rfl⟩
        rw [hT1] at HOf HSx2
        clear hT1 hT2 hly
        obtain ⟨c0, c1, c2, c3⟩ := img_cells H11.out.2.2.1
        go_upto_region 11 with (first
          | (go_at_call 18; refine (HmW.out _).mono ?_; rintro e w' ⟨rfl, rfl⟩)
          | (go_at_call 9; refine (HOy.out _ (Below.refl _ _)).mono ?_; rintro e w12 ⟨rfl, b12⟩; have H12 := Lib.hid b12; clear b12 c0 c1 c2 c3)
          | (refine wpList_store_row rfl 32 (.tmp 10) (.tmp 73) rfl w12.heap.size T2 rfl rfl 32 (tb (fun _ => 0)) (RowAt.mk w12 _ _) HTi.out (by rw [HTs.out.1]; rfl) HTs.out.2 ?_)
          | fail)
        obtain ⟨A, hA⟩ : ∃ A, A = w12.heap.size := ⟨_, rfl⟩
        rw [← hA]
        generalize hw13 : World.setRow _ _ _ = w13
        have H13 := Lib.hid (show Below wc.heap.size wc w13 ∧ RowAt w13 Z 26 #[.int .i64 x.res, .slice (some ⟨S.t.b, S.t.o, none⟩) nT S.t.c, .slice S.m.sp nM S.m.c, .slice S.e.sp nE S.e.c] ∧ RowAt w13 Y 26 #[.int .i64 x.res, .slice (some ⟨b4, o4, none⟩) nT c4, .slice S.m.sp nM S.m.c, .slice S.e.sp nE S.e.c] ∧ RowAt w13 A 32 T2 by
          rw [hA] at hw13 ⊢
          have h3 := row_made hw13
          have hb : Below wc.heap.size wc w13 := H12.out.trans (h3.1.mono H12.out.size)
          exact ⟨hb, H11.out.2.1.new hb, H11.out.2.2.1.new hb, h3.2.1⟩)
        clear hw13 hA HOy H12
        have c1 : w13.cell? ⟨Z, 1, none⟩ = some (.slice (some ⟨S.t.b, S.t.o, none⟩) nT S.t.c) := H13.out.2.1.cell 1
        go_upto_region 12 with fail
        clear c1
        go_wp2
        go_loopg [11] nT (fun g v wr => ∃ i : Nat, i + g = nT ∧ v = .int .i64 (i : Nat) ∧ Aside (Below w13.heap.size w13 wr))
        case atStart => exact ⟨0, by omega, rfl, Below.refl _ _⟩
        case round =>
          obtain ⟨i, hig, rfl, HQ⟩ := hrel
          have HQ2 := Lib.hid (show ∀ wx, Below wr.heap.size wr wx → (Below wc.heap.size wc wx ∧ RowAt wx Z 26 #[.int .i64 x.res, .slice (some ⟨S.t.b, S.t.o, none⟩) nT S.t.c, .slice S.m.sp nM S.m.c, .slice S.e.sp nE S.e.c] ∧ RowAt wx Y 26 #[.int .i64 x.res, .slice (some ⟨b4, o4, none⟩) nT c4, .slice S.m.sp nM S.m.c, .slice S.e.sp nE S.e.c] ∧ RowAt wx A 32 T2 ∧ Below w13.heap.size w13 wx) from fun wx hb => by
            have h1 : Below w13.heap.size w13 wx := HQ.out.trans (hb.mono HQ.out.size)
            exact ⟨H13.out.1.trans (h1.mono H13.out.1.size), H13.out.2.1.new h1, H13.out.2.2.1.new h1, H13.out.2.2.2.new h1, h1⟩)
          have c1 : wr.cell? ⟨Z, 1, none⟩ = some (.slice (some ⟨S.t.b, S.t.o, none⟩) nT S.t.c) := (HQ2.out wr (Below.refl _ _)).2.1.cell 1
          cases gk with
          | zero =>
            obtain rfl : nT = i := by omega
            have HA := Lib.hid (HAl.out wr (HBw.out wr (HQ2.out wr (Below.refl _ _)).1))
            go_wp2_with (first
              | (go_at_call 15; refine HA.out.mono ?_; rintro e w14 ⟨rfl, b14⟩; have H14 := Lib.hid (HBw.out _ (HQ2.out _ b14).1); clear b14)
              | fail)
            go_ret
            exact ⟨rfl, H14.out⟩
          | succ g1 =>
            have hk : i < nT := by omega
            have e1 : (i : Int) < (nT : Int) := by omega
            have e16 : (i : Int) < 16 := by omega
            have HR := Lib.hid (HSx2.out i hk)
            have HS := Lib.hid (HSy.out i hk)
            have hbl := HBl.out (i : Int)
            have hrl := HRl.out i hk
            obtain ⟨mb, hmb⟩ : ∃ v, blkF x y (ceilF x y) (i : Int) = v := ⟨_, rfl⟩
            obtain ⟨mt, hmt⟩ : ∃ v, tT (rspF x y y (ceilF x y) i) = v := ⟨_, rfl⟩
            obtain ⟨mB, hmB⟩ : ∃ v, tB (rspF x y y (ceilF x y) i) = v := ⟨_, rfl⟩
            obtain ⟨nb, hnb⟩ : ∃ v, blkF (longI x K) u (ceilF (longI x K) u) (i : Int) = v := ⟨_, rfl⟩
            obtain ⟨nt, hnt⟩ : ∃ v, tT (rspF (longI x K) u u (ceilF (longI x K) u) i) = v := ⟨_, rfl⟩
            obtain ⟨nB, hnB⟩ : ∃ v, tB (rspF (longI x K) u u (ceilF (longI x K) u) i) = v := ⟨_, rfl⟩
            rw [hmb, hmt, hmB] at HR
            rw [hnb, hnt, hnB] at HS
            rw [hmb, hnb] at hbl
            rw [hmt, hmB, hnt, hnB] at hrl
            have HBL := Lib.hid hbl
            have HRL := Lib.hid hrl
            clear hmb hmt hmB hnb hnt hnB hbl hrl
            go_upto_region 14 with fail
            clear c1
            have HG0 := Lib.hid (show Below wr.heap.size wr wr.drew from below_dn (Below.refl _ _) 1)
            obtain ⟨wd, hwd⟩ : ∃ wd, wr.drew = wd := ⟨_, rfl⟩
            rw [hwd] at HG0
            go_cut [12, 13] from 74 to 124 (fun s12 s13 wx => ∃ b12, s12 = .pointer (some ⟨b12, 0, none⟩) ∧ s13 = .bool mB ∧ Aside (Below wr.heap.size wr wx ∧ RowAt wx b12 37 #[.int .i64 (i : Nat), .int .i64 mb, .int .i64 mt]))
            case first =>
              refine wp_region_held_drew (S := fun w' => Below wr.heap.size wr w') (by kernel_rfl) (by rw [hwd]; exact HG0.out) (fun hS => ?_)
              rw [hwd] at hS ⊢
              clear hwd
              refine wpAnyH_take (i := 0) (oi := { dst := some 82, op := .load 26 (.tmp 3), type := 26, pos := "law.go:107", after := #[], guard := none }) (v := ?_) rfl (by kernel_rfl) (by kernel_rfl) (by kernel_rfl) (fun _ _ _ h => h) (Or.inl ⟨by rfl, ?_⟩) hS ?_
              rotate_left 1
              · intro w hw; obtain s0 := hw; obtain ⟨k0, k1, k2, k3⟩ := img_cells (HQ2.out _ hw).2.1; go_simp; try (with_reducible rfl)
              simp only [Act.put, List.setIfInBounds_toArray, List.set_cons_zero, List.set_cons_succ]
              refine wpAnyH_take (i := 1) (oi := { dst := some 83, op := .move (.tmp 1), type := 28, pos := "law.go:107", after := #[], guard := none }) (v := ?_) rfl (by kernel_rfl) (by kernel_rfl) (by kernel_rfl) (fun _ _ _ h => h) (Or.inl ⟨by rfl, ?_⟩) hS ?_
              rotate_left 1
              · intro w hw; obtain s0 := hw; go_simp; try (with_reducible rfl)
              simp only [Act.put, List.setIfInBounds_toArray, List.set_cons_zero, List.set_cons_succ]
              refine wpAnyH_take (i := 2) (oi := { dst := some 84, op := .move (.tmp 1), type := 28, pos := "law.go:107", after := #[], guard := none }) (v := ?_) rfl (by kernel_rfl) (by kernel_rfl) (by kernel_rfl) (fun _ _ _ h => h) (Or.inl ⟨by rfl, ?_⟩) hS ?_
              rotate_left 1
              · intro w hw; obtain s0 := hw; go_simp; try (with_reducible rfl)
              simp only [Act.put, List.setIfInBounds_toArray, List.set_cons_zero, List.set_cons_succ]
              refine wpAnyH_take (i := 3) (oi := { dst := some 85, op := .load 26 (.tmp 3), type := 26, pos := "law.go:107", after := #[], guard := none }) (v := ?_) rfl (by kernel_rfl) (by kernel_rfl) (by kernel_rfl) (fun _ _ _ h => h) (Or.inl ⟨by rfl, ?_⟩) hS ?_
              rotate_left 1
              · intro w hw; obtain s0 := hw; obtain ⟨k0, k1, k2, k3⟩ := img_cells (HQ2.out _ hw).2.1; go_simp; try (with_reducible rfl)
              simp only [Act.put, List.setIfInBounds_toArray, List.set_cons_zero, List.set_cons_succ]
              refine wpAnyH_take (i := 4) (oi := { dst := some 86, op := .move (.tmp 1), type := 28, pos := "law.go:107", after := #[], guard := none }) (v := ?_) rfl (by kernel_rfl) (by kernel_rfl) (by kernel_rfl) (fun _ _ _ h => h) (Or.inl ⟨by rfl, ?_⟩) hS ?_
              rotate_left 1
              · intro w hw; obtain s0 := hw; go_simp; try (with_reducible rfl)
              simp only [Act.put, List.setIfInBounds_toArray, List.set_cons_zero, List.set_cons_succ]
              refine wpAnyH_take (i := 6) (oi := { dst := some 88, op := .move (.tmp 11), type := 3, pos := "law.go:107", after := #[], guard := none }) (v := ?_) rfl (by kernel_rfl) (by kernel_rfl) (by kernel_rfl) (fun _ _ _ h => h) (Or.inl ⟨by rfl, ?_⟩) hS ?_
              rotate_left 1
              · intro w hw; obtain s0 := hw; go_simp; try (with_reducible rfl)
              simp only [Act.put, List.setIfInBounds_toArray, List.set_cons_zero, List.set_cons_succ]
              refine wpAnyH_ready (rs := [5, 11]) (by kernel_rfl) (by simp) (AllReadyH.cons (o := { dst := some 87, op := .call { callee := .value (.func 9), args := #[.tmp 85, .tmp 86], argTypes := #[26, 28] }, type := 32, pos := "law.go:107", after := #[{ on := 3, ground := .data }, { on := 4, ground := .data }], guard := none }) rfl (fun K hK => ?_) (AllReadyH.cons (o := { dst := some 12, op := .alloc 37, type := 0, pos := "law.go:107", after := #[], guard := none }) rfl (fun K hK => ?_) AllReadyH.nil))
              · go_simp
                go_at_call 9
                refine (HOf.out _ (HBw.out _ (HQ2.out _ HG0.out).1)).mono ?_
                rintro e wg101 ⟨rfl, bc101⟩
                have HG102 := Lib.hid (show Below wr.heap.size wr wg101 from (HG0.out.trans ((bc101).mono HG0.out.size)))
                clear bc101
                try dsimp only
                refine hK.out _ _ HG102.out (fun hHeld => ?_)
                clear hK K
                try simp only [Act.put, List.setIfInBounds_toArray, List.set_cons_zero, List.set_cons_succ]
                refine wpAnyH_ready (rs := [7, 11]) (by kernel_rfl) (by simp) (AllReadyH.cons (o := { dst := some 89, op := .call { callee := .value (.func 11), args := #[.tmp 82, .tmp 83, .tmp 84, .tmp 87, .tmp 88], argTypes := #[26, 28, 28, 32, 3] }, type := 38, pos := "law.go:107", after := #[{ on := 0, ground := .data }, { on := 1, ground := .data }, { on := 2, ground := .data }, { on := 5, ground := .data }, { on := 6, ground := .data }, { on := 5, ground := .chain }], guard := none }) rfl (fun K hK => ?_) (AllReadyH.cons (o := { dst := some 12, op := .alloc 37, type := 0, pos := "law.go:107", after := #[], guard := none }) rfl (fun K hK => ?_) AllReadyH.nil))
                · go_simp
                  go_at_call 11
                  refine (HR.out _ (HBw.out _ (HQ2.out _ HG102.out).1)).mono ?_
                  rintro e wg103 ⟨rfl, bc103⟩
                  have HG104 := Lib.hid (show Below wr.heap.size wr wg103 from (HG102.out.trans ((bc103).mono HG102.out.size)))
                  clear bc103
                  try dsimp only
                  refine hK.out _ _ HG104.out (fun hHeld => ?_)
                  clear hK K
                  try simp only [Act.put, List.setIfInBounds_toArray, List.set_cons_zero, List.set_cons_succ]
                  refine wpAnyH_take (i := 8) (oi := { dst := some 81, op := .move (.tmp 89), type := 38, pos := "law.go:107", after := #[{ on := 7, ground := .data }], guard := none }) (v := ?_) rfl (by kernel_rfl) (by kernel_rfl) (by kernel_rfl) (fun _ _ _ h => h) (Or.inl ⟨by rfl, ?_⟩) HG104.out ?_
                  rotate_left 1
                  · intro w hw; obtain s0 := hw; go_simp; try (with_reducible rfl)
                  simp only [Act.put, List.setIfInBounds_toArray, List.set_cons_zero, List.set_cons_succ]
                  refine wpAnyH_take (i := 9) (oi := { dst := some 90, op := .extract (.tmp 81) 0, type := 37, pos := "law.go:107", after := #[{ on := 8, ground := .data }], guard := none }) (v := ?_) rfl (by kernel_rfl) (by kernel_rfl) (by kernel_rfl) (fun _ _ _ h => h) (Or.inl ⟨by rfl, ?_⟩) HG104.out ?_
                  rotate_left 1
                  · intro w hw; obtain s0 := hw; go_simp; try (with_reducible rfl)
                  simp only [Act.put, List.setIfInBounds_toArray, List.set_cons_zero, List.set_cons_succ]
                  refine wpAnyH_take (i := 10) (oi := { dst := some 91, op := .extract (.tmp 81) 1, type := 4, pos := "law.go:107", after := #[{ on := 8, ground := .data }, { on := 12, ground := .gcOnly Go.Departure.lateStores }], guard := none }) (v := ?_) rfl (by kernel_rfl) (by kernel_rfl) (by kernel_rfl) (fun _ _ _ h => h) (Or.inl ⟨by rfl, ?_⟩) HG104.out ?_
                  rotate_left 1
                  · intro w hw; obtain s0 := hw; go_simp; try (with_reducible rfl)
                  simp only [Act.put, List.setIfInBounds_toArray, List.set_cons_zero, List.set_cons_succ]
                  refine wpAnyH_ready (rs := [11]) (by kernel_rfl) (by simp) (AllReadyH.cons (o := { dst := some 12, op := .alloc 37, type := 0, pos := "law.go:107", after := #[], guard := none }) rfl (fun K hK => ?_) AllReadyH.nil)
                  go_simp
                  obtain ⟨b12, hb12⟩ : ∃ b, b = (wg103).heap.size := ⟨_, rfl⟩
                  rw [← hb12]
                  generalize hwg105 : World.alloc _ _ = wg105
                  have bwg105 : Below (wg103).heap.size (wg103) wg105 := by rw [← hwg105]; exact (Below.refl _ _).alloc (Nat.le_refl _) _
                  have rwg105 : RowAt wg105 b12 37 #[.int .i64 0, .int .i64 0, .int .i64 0] := by rw [← hwg105, hb12]; exact RowAt.mk _ _ _
                  have HG106 := Lib.hid (show Below wr.heap.size wr wg105 ∧ RowAt wg105 b12 37 #[.int .i64 0, .int .i64 0, .int .i64 0] ∧ wr.heap.size ≤ b12 from ⟨(HG104.out.trans ((bwg105).mono HG104.out.size)), rwg105, (by have := HG104.out.size; omega)⟩)
                  clear hwg105 bwg105 rwg105 hb12
                  refine hK.out _ _ HG106.out.1 (fun hHeld => ?_)
                  clear hK K
                  try simp only [Act.put, List.setIfInBounds_toArray, List.set_cons_zero, List.set_cons_succ]
                  refine wpAnyH_ready (rs := [12]) (by kernel_rfl) (by simp) (AllReadyH.cons (o := { dst := none, op := .store 37 (.tmp 12) (.tmp 90), type := 0, pos := "law.go:107", after := #[{ on := 11, ground := .data }, { on := 9, ground := .data }, { on := 7, ground := .chain }, { on := 0, ground := .phase }, { on := 1, ground := .phase }, { on := 2, ground := .phase }, { on := 3, ground := .phase }, { on := 4, ground := .phase }, { on := 5, ground := .phase }, { on := 6, ground := .phase }, { on := 7, ground := .phase }, { on := 8, ground := .phase }, { on := 9, ground := .phase }, { on := 10, ground := .textOnly Go.Departure.lateStores }, { on := 11, ground := .phase }], guard := none }) rfl (fun K hK => ?_) AllReadyH.nil)
                  rw [if_pos (by rfl)]
                  refine wp_store_row 37 (.tmp 12) (.tmp 90) rfl b12 #[.int .i64 (i : Nat), .int .i64 mb, .int .i64 mt] rfl rfl 37 #[.int .i64 0, .int .i64 0, .int .i64 0] HG106.out.2.1 (by kernel_rfl) rfl (by simp [Value.oneCell']) ?_
                  refine hK.out _ _ (below_row HG106.out.1 (Nat.le_refl _) HG106.out.2.2 _) (fun hHeld => ?_)
                  clear hK K
                  try simp only [Act.put]
                  refine wpAnyH_take (i := 13) (oi := { dst := some 13, op := .assign (.tmp 91), type := 4, pos := "law.go:107", after := #[{ on := 10, ground := .data }, { on := 12, ground := .chain }, { on := 0, ground := .phase }, { on := 1, ground := .phase }, { on := 2, ground := .phase }, { on := 3, ground := .phase }, { on := 4, ground := .phase }, { on := 5, ground := .phase }, { on := 6, ground := .phase }, { on := 7, ground := .phase }, { on := 8, ground := .phase }, { on := 9, ground := .phase }, { on := 10, ground := .phase }, { on := 11, ground := .phase }, { on := 12, ground := .phase }], guard := none }) (v := ?_) rfl (by kernel_rfl) (by kernel_rfl) (by kernel_rfl) (fun _ _ _ h => h) (Or.inl ⟨by rfl, ?_⟩) (below_row HG106.out.1 (Nat.le_refl _) HG106.out.2.2 _) ?_
                  rotate_left 1
                  · intro w hw; obtain s0 := hw; go_simp; try (with_reducible rfl)
                  simp only [Act.put, List.setIfInBounds_toArray, List.set_cons_zero, List.set_cons_succ]
                  refine wpAnyH_done (by kernel_rfl) ?_ _
                  go_wp2
                  go_meet
                  case rel => exact ⟨b12, rfl, rfl, below_row HG106.out.1 (Nat.le_refl _) HG106.out.2.2 _, HG106.out.2.1.put⟩
                · go_simp
                  obtain ⟨b12, hb12⟩ : ∃ b, b = (wg101).heap.size := ⟨_, rfl⟩
                  rw [← hb12]
                  generalize hwg107 : World.alloc _ _ = wg107
                  have bwg107 : Below (wg101).heap.size (wg101) wg107 := by rw [← hwg107]; exact (Below.refl _ _).alloc (Nat.le_refl _) _
                  have rwg107 : RowAt wg107 b12 37 #[.int .i64 0, .int .i64 0, .int .i64 0] := by rw [← hwg107, hb12]; exact RowAt.mk _ _ _
                  have HG108 := Lib.hid (show Below wr.heap.size wr wg107 ∧ RowAt wg107 b12 37 #[.int .i64 0, .int .i64 0, .int .i64 0] ∧ wr.heap.size ≤ b12 from ⟨(HG102.out.trans ((bwg107).mono HG102.out.size)), rwg107, (by have := HG102.out.size; omega)⟩)
                  clear hwg107 bwg107 rwg107 hb12
                  refine hK.out _ _ HG108.out.1 (fun hHeld => ?_)
                  clear hK K
                  try simp only [Act.put, List.setIfInBounds_toArray, List.set_cons_zero, List.set_cons_succ]
                  refine wpAnyH_ready (rs := [7]) (by kernel_rfl) (by simp) (AllReadyH.cons (o := { dst := some 89, op := .call { callee := .value (.func 11), args := #[.tmp 82, .tmp 83, .tmp 84, .tmp 87, .tmp 88], argTypes := #[26, 28, 28, 32, 3] }, type := 38, pos := "law.go:107", after := #[{ on := 0, ground := .data }, { on := 1, ground := .data }, { on := 2, ground := .data }, { on := 5, ground := .data }, { on := 6, ground := .data }, { on := 5, ground := .chain }], guard := none }) rfl (fun K hK => ?_) AllReadyH.nil)
                  go_simp
                  go_at_call 11
                  refine (HR.out _ (HBw.out _ (HQ2.out _ HG108.out.1).1)).mono ?_
                  rintro e wg109 ⟨rfl, bc109⟩
                  have HG110 := Lib.hid (show Below wr.heap.size wr wg109 ∧ RowAt wg109 b12 37 #[.int .i64 0, .int .i64 0, .int .i64 0] ∧ wr.heap.size ≤ b12 from ⟨(HG108.out.1.trans ((bc109).mono HG108.out.1.size)), (HG108.out.2.1.new (bc109)), HG108.out.2.2⟩)
                  clear bc109
                  try dsimp only
                  refine hK.out _ _ HG110.out.1 (fun hHeld => ?_)
                  clear hK K
                  try simp only [Act.put, List.setIfInBounds_toArray, List.set_cons_zero, List.set_cons_succ]
                  refine wpAnyH_take (i := 8) (oi := { dst := some 81, op := .move (.tmp 89), type := 38, pos := "law.go:107", after := #[{ on := 7, ground := .data }], guard := none }) (v := ?_) rfl (by kernel_rfl) (by kernel_rfl) (by kernel_rfl) (fun _ _ _ h => h) (Or.inl ⟨by rfl, ?_⟩) HG110.out.1 ?_
                  rotate_left 1
                  · intro w hw; obtain s0 := hw; go_simp; try (with_reducible rfl)
                  simp only [Act.put, List.setIfInBounds_toArray, List.set_cons_zero, List.set_cons_succ]
                  refine wpAnyH_take (i := 9) (oi := { dst := some 90, op := .extract (.tmp 81) 0, type := 37, pos := "law.go:107", after := #[{ on := 8, ground := .data }], guard := none }) (v := ?_) rfl (by kernel_rfl) (by kernel_rfl) (by kernel_rfl) (fun _ _ _ h => h) (Or.inl ⟨by rfl, ?_⟩) HG110.out.1 ?_
                  rotate_left 1
                  · intro w hw; obtain s0 := hw; go_simp; try (with_reducible rfl)
                  simp only [Act.put, List.setIfInBounds_toArray, List.set_cons_zero, List.set_cons_succ]
                  refine wpAnyH_take (i := 10) (oi := { dst := some 91, op := .extract (.tmp 81) 1, type := 4, pos := "law.go:107", after := #[{ on := 8, ground := .data }, { on := 12, ground := .gcOnly Go.Departure.lateStores }], guard := none }) (v := ?_) rfl (by kernel_rfl) (by kernel_rfl) (by kernel_rfl) (fun _ _ _ h => h) (Or.inl ⟨by rfl, ?_⟩) HG110.out.1 ?_
                  rotate_left 1
                  · intro w hw; obtain s0 := hw; go_simp; try (with_reducible rfl)
                  simp only [Act.put, List.setIfInBounds_toArray, List.set_cons_zero, List.set_cons_succ]
                  refine wpAnyH_ready (rs := [12]) (by kernel_rfl) (by simp) (AllReadyH.cons (o := { dst := none, op := .store 37 (.tmp 12) (.tmp 90), type := 0, pos := "law.go:107", after := #[{ on := 11, ground := .data }, { on := 9, ground := .data }, { on := 7, ground := .chain }, { on := 0, ground := .phase }, { on := 1, ground := .phase }, { on := 2, ground := .phase }, { on := 3, ground := .phase }, { on := 4, ground := .phase }, { on := 5, ground := .phase }, { on := 6, ground := .phase }, { on := 7, ground := .phase }, { on := 8, ground := .phase }, { on := 9, ground := .phase }, { on := 10, ground := .textOnly Go.Departure.lateStores }, { on := 11, ground := .phase }], guard := none }) rfl (fun K hK => ?_) AllReadyH.nil)
                  rw [if_pos (by rfl)]
                  refine wp_store_row 37 (.tmp 12) (.tmp 90) rfl b12 #[.int .i64 (i : Nat), .int .i64 mb, .int .i64 mt] rfl rfl 37 #[.int .i64 0, .int .i64 0, .int .i64 0] HG110.out.2.1 (by kernel_rfl) rfl (by simp [Value.oneCell']) ?_
                  refine hK.out _ _ (below_row HG110.out.1 (Nat.le_refl _) HG110.out.2.2 _) (fun hHeld => ?_)
                  clear hK K
                  try simp only [Act.put]
                  refine wpAnyH_take (i := 13) (oi := { dst := some 13, op := .assign (.tmp 91), type := 4, pos := "law.go:107", after := #[{ on := 10, ground := .data }, { on := 12, ground := .chain }, { on := 0, ground := .phase }, { on := 1, ground := .phase }, { on := 2, ground := .phase }, { on := 3, ground := .phase }, { on := 4, ground := .phase }, { on := 5, ground := .phase }, { on := 6, ground := .phase }, { on := 7, ground := .phase }, { on := 8, ground := .phase }, { on := 9, ground := .phase }, { on := 10, ground := .phase }, { on := 11, ground := .phase }, { on := 12, ground := .phase }], guard := none }) (v := ?_) rfl (by kernel_rfl) (by kernel_rfl) (by kernel_rfl) (fun _ _ _ h => h) (Or.inl ⟨by rfl, ?_⟩) (below_row HG110.out.1 (Nat.le_refl _) HG110.out.2.2 _) ?_
                  rotate_left 1
                  · intro w hw; obtain s0 := hw; go_simp; try (with_reducible rfl)
                  simp only [Act.put, List.setIfInBounds_toArray, List.set_cons_zero, List.set_cons_succ]
                  refine wpAnyH_done (by kernel_rfl) ?_ _
                  go_wp2
                  go_meet
                  case rel => exact ⟨b12, rfl, rfl, below_row HG110.out.1 (Nat.le_refl _) HG110.out.2.2 _, HG110.out.2.1.put⟩
              · go_simp
                obtain ⟨b12, hb12⟩ : ∃ b, b = (wd).heap.size := ⟨_, rfl⟩
                rw [← hb12]
                generalize hwg111 : World.alloc _ _ = wg111
                have bwg111 : Below (wd).heap.size (wd) wg111 := by rw [← hwg111]; exact (Below.refl _ _).alloc (Nat.le_refl _) _
                have rwg111 : RowAt wg111 b12 37 #[.int .i64 0, .int .i64 0, .int .i64 0] := by rw [← hwg111, hb12]; exact RowAt.mk _ _ _
                have HG112 := Lib.hid (show Below wr.heap.size wr wg111 ∧ RowAt wg111 b12 37 #[.int .i64 0, .int .i64 0, .int .i64 0] ∧ wr.heap.size ≤ b12 from ⟨(HG0.out.trans ((bwg111).mono HG0.out.size)), rwg111, (by have := HG0.out.size; omega)⟩)
                clear hwg111 bwg111 rwg111 hb12
                refine hK.out _ _ HG112.out.1 (fun hHeld => ?_)
                clear hK K
                try simp only [Act.put, List.setIfInBounds_toArray, List.set_cons_zero, List.set_cons_succ]
                refine wpAnyH_ready (rs := [5]) (by kernel_rfl) (by simp) (AllReadyH.cons (o := { dst := some 87, op := .call { callee := .value (.func 9), args := #[.tmp 85, .tmp 86], argTypes := #[26, 28] }, type := 32, pos := "law.go:107", after := #[{ on := 3, ground := .data }, { on := 4, ground := .data }], guard := none }) rfl (fun K hK => ?_) AllReadyH.nil)
                go_simp
                go_at_call 9
                refine (HOf.out _ (HBw.out _ (HQ2.out _ HG112.out.1).1)).mono ?_
                rintro e wg113 ⟨rfl, bc113⟩
                have HG114 := Lib.hid (show Below wr.heap.size wr wg113 ∧ RowAt wg113 b12 37 #[.int .i64 0, .int .i64 0, .int .i64 0] ∧ wr.heap.size ≤ b12 from ⟨(HG112.out.1.trans ((bc113).mono HG112.out.1.size)), (HG112.out.2.1.new (bc113)), HG112.out.2.2⟩)
                clear bc113
                try dsimp only
                refine hK.out _ _ HG114.out.1 (fun hHeld => ?_)
                clear hK K
                try simp only [Act.put, List.setIfInBounds_toArray, List.set_cons_zero, List.set_cons_succ]
                refine wpAnyH_ready (rs := [7]) (by kernel_rfl) (by simp) (AllReadyH.cons (o := { dst := some 89, op := .call { callee := .value (.func 11), args := #[.tmp 82, .tmp 83, .tmp 84, .tmp 87, .tmp 88], argTypes := #[26, 28, 28, 32, 3] }, type := 38, pos := "law.go:107", after := #[{ on := 0, ground := .data }, { on := 1, ground := .data }, { on := 2, ground := .data }, { on := 5, ground := .data }, { on := 6, ground := .data }, { on := 5, ground := .chain }], guard := none }) rfl (fun K hK => ?_) AllReadyH.nil)
                go_simp
                go_at_call 11
                refine (HR.out _ (HBw.out _ (HQ2.out _ HG114.out.1).1)).mono ?_
                rintro e wg115 ⟨rfl, bc115⟩
                have HG116 := Lib.hid (show Below wr.heap.size wr wg115 ∧ RowAt wg115 b12 37 #[.int .i64 0, .int .i64 0, .int .i64 0] ∧ wr.heap.size ≤ b12 from ⟨(HG114.out.1.trans ((bc115).mono HG114.out.1.size)), (HG114.out.2.1.new (bc115)), HG114.out.2.2⟩)
                clear bc115
                try dsimp only
                refine hK.out _ _ HG116.out.1 (fun hHeld => ?_)
                clear hK K
                try simp only [Act.put, List.setIfInBounds_toArray, List.set_cons_zero, List.set_cons_succ]
                refine wpAnyH_take (i := 8) (oi := { dst := some 81, op := .move (.tmp 89), type := 38, pos := "law.go:107", after := #[{ on := 7, ground := .data }], guard := none }) (v := ?_) rfl (by kernel_rfl) (by kernel_rfl) (by kernel_rfl) (fun _ _ _ h => h) (Or.inl ⟨by rfl, ?_⟩) HG116.out.1 ?_
                rotate_left 1
                · intro w hw; obtain s0 := hw; go_simp; try (with_reducible rfl)
                simp only [Act.put, List.setIfInBounds_toArray, List.set_cons_zero, List.set_cons_succ]
                refine wpAnyH_take (i := 9) (oi := { dst := some 90, op := .extract (.tmp 81) 0, type := 37, pos := "law.go:107", after := #[{ on := 8, ground := .data }], guard := none }) (v := ?_) rfl (by kernel_rfl) (by kernel_rfl) (by kernel_rfl) (fun _ _ _ h => h) (Or.inl ⟨by rfl, ?_⟩) HG116.out.1 ?_
                rotate_left 1
                · intro w hw; obtain s0 := hw; go_simp; try (with_reducible rfl)
                simp only [Act.put, List.setIfInBounds_toArray, List.set_cons_zero, List.set_cons_succ]
                refine wpAnyH_take (i := 10) (oi := { dst := some 91, op := .extract (.tmp 81) 1, type := 4, pos := "law.go:107", after := #[{ on := 8, ground := .data }, { on := 12, ground := .gcOnly Go.Departure.lateStores }], guard := none }) (v := ?_) rfl (by kernel_rfl) (by kernel_rfl) (by kernel_rfl) (fun _ _ _ h => h) (Or.inl ⟨by rfl, ?_⟩) HG116.out.1 ?_
                rotate_left 1
                · intro w hw; obtain s0 := hw; go_simp; try (with_reducible rfl)
                simp only [Act.put, List.setIfInBounds_toArray, List.set_cons_zero, List.set_cons_succ]
                refine wpAnyH_ready (rs := [12]) (by kernel_rfl) (by simp) (AllReadyH.cons (o := { dst := none, op := .store 37 (.tmp 12) (.tmp 90), type := 0, pos := "law.go:107", after := #[{ on := 11, ground := .data }, { on := 9, ground := .data }, { on := 7, ground := .chain }, { on := 0, ground := .phase }, { on := 1, ground := .phase }, { on := 2, ground := .phase }, { on := 3, ground := .phase }, { on := 4, ground := .phase }, { on := 5, ground := .phase }, { on := 6, ground := .phase }, { on := 7, ground := .phase }, { on := 8, ground := .phase }, { on := 9, ground := .phase }, { on := 10, ground := .textOnly Go.Departure.lateStores }, { on := 11, ground := .phase }], guard := none }) rfl (fun K hK => ?_) AllReadyH.nil)
                rw [if_pos (by rfl)]
                refine wp_store_row 37 (.tmp 12) (.tmp 90) rfl b12 #[.int .i64 (i : Nat), .int .i64 mb, .int .i64 mt] rfl rfl 37 #[.int .i64 0, .int .i64 0, .int .i64 0] HG116.out.2.1 (by kernel_rfl) rfl (by simp [Value.oneCell']) ?_
                refine hK.out _ _ (below_row HG116.out.1 (Nat.le_refl _) HG116.out.2.2 _) (fun hHeld => ?_)
                clear hK K
                try simp only [Act.put]
                refine wpAnyH_take (i := 13) (oi := { dst := some 13, op := .assign (.tmp 91), type := 4, pos := "law.go:107", after := #[{ on := 10, ground := .data }, { on := 12, ground := .chain }, { on := 0, ground := .phase }, { on := 1, ground := .phase }, { on := 2, ground := .phase }, { on := 3, ground := .phase }, { on := 4, ground := .phase }, { on := 5, ground := .phase }, { on := 6, ground := .phase }, { on := 7, ground := .phase }, { on := 8, ground := .phase }, { on := 9, ground := .phase }, { on := 10, ground := .phase }, { on := 11, ground := .phase }, { on := 12, ground := .phase }], guard := none }) (v := ?_) rfl (by kernel_rfl) (by kernel_rfl) (by kernel_rfl) (fun _ _ _ h => h) (Or.inl ⟨by rfl, ?_⟩) (below_row HG116.out.1 (Nat.le_refl _) HG116.out.2.2 _) ?_
                rotate_left 1
                · intro w hw; obtain s0 := hw; go_simp; try (with_reducible rfl)
                simp only [Act.put, List.setIfInBounds_toArray, List.set_cons_zero, List.set_cons_succ]
                refine wpAnyH_done (by kernel_rfl) ?_ _
                go_wp2
                go_meet
                case rel => exact ⟨b12, rfl, rfl, below_row HG116.out.1 (Nat.le_refl _) HG116.out.2.2 _, HG116.out.2.1.put⟩

            case rest =>
              obtain ⟨b12, rfl, rfl, HC⟩ := hcut
              have hx := HQ2.out _ HC.out.1
              obtain ⟨c0, c1, c2, c3⟩ := img_cells hx.2.2.1
              have HX := Lib.hid hx
              clear hx
              go_upto_region 16 with (first
                | (refine wpList_load_row rfl 32 (.tmp 10) rfl A rfl 32 T2 (0, 0) _ HX.out.2.2.2.1 Tryd.underlying32 rfl HTi.out ?_)
                | (go_at_call 11; refine (HS.out _ HX.out.1).mono ?_; rintro e w15 ⟨rfl, b15⟩; have H15 := Lib.hid (show Below wr.heap.size wr w15 ∧ RowAt w15 b12 37 #[.int .i64 (i : Nat), .int .i64 mb, .int .i64 mt] from ⟨HC.out.1.trans (b15.mono HC.out.1.size), HC.out.2.new b15⟩); clear b15 c0 c1 c2 c3)
                | fail)
              obtain ⟨b14, hb14⟩ : ∃ B, B = w15.heap.size := ⟨_, rfl⟩
              rw [← hb14]
              generalize hw16 : World.alloc w15 _ = w16
              have H16 := Lib.hid (show Below wr.heap.size wr w16 ∧ RowAt w16 b12 37 #[.int .i64 (i : Nat), .int .i64 mb, .int .i64 mt] ∧ RowAt w16 b14 37 #[.int .i64 (i : Nat), .int .i64 nb, .int .i64 nt] by
                rw [← hw16, hb14]
                exact ⟨below_alloc H15.out.1 (Nat.le_refl _) _, row_keep H15.out.2 _, RowAt.mk _ _ _⟩)
              clear hw16 hb14 H15
              have r1 : w16.cell? ⟨b12, 1, none⟩ = some (.int .i64 mb) := H16.out.2.1.cell 1
              have r2 : w16.cell? ⟨b12, 2, none⟩ = some (.int .i64 mt) := H16.out.2.1.cell 2
              have q1 : w16.cell? ⟨b14, 1, none⟩ = some (.int .i64 nb) := H16.out.2.2.cell 1
              have q2 : w16.cell? ⟨b14, 2, none⟩ = some (.int .i64 nt) := H16.out.2.2.cell 2
              have hb1 : ¬ nb < mb := by have := HBL.out; omega
              by_cases hik : i = K
              · have hik2 : ((i : Int) == (K : Int)) = true := by simp [hik]
                have hik3 : ((i : Int) != (K : Int)) = false := by simp [hik]
                clear hik
                go_wp2
                go_roundg g1
                case measure => omega
                case rel => exact ⟨i + 1, by omega, by go_num, (HQ2.out _ H16.out.1).2.2.2.2⟩
              · have hik2 : ((i : Int) == (K : Int)) = false := by simp; omega
                have hik3 : ((i : Int) != (K : Int)) = true := by simp; omega
                have HRL2 := Lib.hid (HRL.out hik)
                clear hik
                cases nB with
                | false =>
                  go_wp2
                  go_roundg g1
                  case measure => omega
                  case rel => exact ⟨i + 1, by omega, by go_num, (HQ2.out _ H16.out.1).2.2.2.2⟩
                | true =>
                  obtain ⟨rfl, hle⟩ := HRL2.out rfl
                  have hb2 : ¬ nt < mt := by omega
                  go_wp2
                  go_roundg g1
                  case measure => omega
                  case rel => exact ⟨i + 1, by omega, by go_num, (HQ2.out _ H16.out.1).2.2.2.2⟩
end Go.Proofs.YtajknfoaiobleaaDoor
/- A plain lemma of this prover's own: where a call returned true and nothing that lay before it has turned, what the law's row asks behind the call holds. No statement about the program. -/
namespace Go.Proofs.YtajknfoaiobleaaDoor
open Go.ChangeShapes Go.WideShapes Go.ChangeAt Go.RowKit

theorem trodAll_stays {H : Type} {enc : TypeId × Value → H} {P : Program} (hl : laidOutB P = true) {W W' : World} (hb : Below W.heap.size W W') :
    ∀ {ts : List TypeId} {vs : List Value} {ds : List (DataW H)} {ps : List MemPlace}, (ts.all fun t => P.readableRec t && decide (t < P.types.size)) = true →
      DataW.TrodAll enc P W 0 (fun _ => true) true ts vs ds ps → (∀ x ∈ ps, x.block < W.heap.size) → DataW.TrodAll enc P W' 0 (fun b => decide (b < W.heap.size)) true ts vs ds ps
  | [], [], [], _, _, h, _ => h
  | t :: ts, v :: vs, d :: ds, ps, hr, h, hlt => by
    obtain ⟨p, q, h1, h2, e⟩ := h
    simp only [List.all_cons, Bool.and_eq_true, decide_eq_true_eq] at hr
    refine ⟨p, q, Below.trod hl hr.1.1 hr.1.2 h1 hb (fun x hx => hlt x (by rw [e]; simp [hx])), trodAll_stays hl hb hr.2 h2 (fun x hx => hlt x (by rw [e]; simp [hx])), e⟩
  | [], [], _ :: _, _, _, h, _ => h.elim
  | [], _ :: _, _, _, _, h, _ => by cases ‹List (DataW H)› <;> exact h.elim
  | _ :: _, [], _, _, _, h, _ => by cases ‹List (DataW H)› <;> exact h.elim
  | _ :: _, _ :: _, [], _, _, h, _ => h.elim

theorem law_post {H : Type} {enc : TypeId × Value → H} {P : Program} {f : Func} {s : ChangeSpec} {fresh handsOn : Bool} {W W' : World} {args : Array Value} {ds gs : List (DataW H)} {before : List MemPlace} {tb : TypeId}
    (hl : laidOutB P = true) (hr : (f.params.toList.all fun t => P.readableRec t && decide (t < P.types.size)) = true) (hv : varsRowed P s.vars = true) (htb : f.resultTypes = #[tb]) (hub : P.underlying tb = some .bool)
    (hW : DataW.Whole enc P f.params.toList s.vars false W args.toList ds gs before) (hb : Below W.heap.size W W')
    (hres : (s.fn H (ds ++ gs)).results = [.lit (.bool true)]) (hargs : (s.fn H (ds ++ gs)).args = ds) (hvars : (s.fn H (ds ++ gs)).vars = gs) :
    s.post enc P f false fresh handsOn false W args (.bool true) W' := by
  have hlt : ∀ x ∈ before, x.block < W.heap.size := fun x hx => by simpa using hW.lt x hx
  have hW' := hW
  obtain ⟨p, q, hA, hV, rfl, hz, hn⟩ := hW
  refine ⟨ds, gs, _, [], p, q, hW', ?_, ?_, ?_, hb.frame _, fun h => by cases h⟩
  · rw [hres, htb]
    exact trodAll_cons_mk (shut_bool hub true) trodAll_mk0
  · rw [hargs]; exact trodAll_stays hl hb hr hA (fun x hx => hlt x (by simp [hx]))
  · rw [hvars]; exact Below.trodVars hl hb hv hV

end Go.Proofs.YtajknfoaiobleaaDoor
/- Plain facts for the law texts of class and image. No statement about the program's functions. -/
namespace Go.Proofs.YtajknfoaiobleaaDoor
open Go.ChangeShapes Go.WideShapes Go.ChangeAt Go.RowKit Go.Deep Go.Joins

theorem own : ownKnob Tryd.prog.godebug = none := by kernel_rfl
theorem laidOut : laidOutB Tryd.prog = true := by kernel_rfl
theorem word_of {n : Int} (h : (Lit.int .u32 n).wf = true) : 0 ≤ n ∧ n < 4294967296 := by
  simp [Lit.wf, IntKind.min, IntKind.max, IntKind.signed, IntKind.bits] at h
  omega
theorem int_of {n : Int} (h : (Lit.int .i64 n).wf = true) : -9223372036854775808 ≤ n ∧ n ≤ 9223372036854775807 := by
  simp [Lit.wf, IntKind.min, IntKind.max, IntKind.signed, IntKind.bits] at h
  omega
theorem wf32 {n : Int} (h : (Lit.int .u32 n).wf = true) : w32 (BitVec.ofInt 32 n) = n := by
  have h' := word_of h
  unfold w32
  rw [BitVec.toNat_ofInt]
  omega
end Go.Proofs.YtajknfoaiobleaaDoor
