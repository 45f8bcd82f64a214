/- The walk of ImageChecks. -/
import Derived.Test.YtandehdgpbflmaaJR
import Derived.Test.YtandehdgpbflmaaIG
namespace Go.Proofs.Ytandehdgpbflmaa
open Go.RowKit

set_option maxHeartbeats 8000000 in
set_option maxRecDepth 100000 in
theorem law_checks {w : World} {V : Nat → Prop} {x : Img} {S : ImgS} (h : ImgAt w V x S) :
    Calls Try.prog 3 #[.agg #[.int .i64 x.res, .slice S.t.sp x.tasks.length S.t.c, .slice S.m.sp x.modes.length S.m.c, .slice S.e.sp x.edges.length S.e.c]] w fun e w' => e = .returned (.bool true) ∧ Below w.heap.size w w' := by
  have HG := Lib.hid (show ∀ wx, Below w.heap.size w wx → _ from fun wx hb => great10_any (h.new hb))
  have HC := Lib.hid (show ∀ wx, Below w.heap.size w wx → _ from fun wx hb => iCheck_any (h.new hb))
  have HR := Lib.hid (show ∀ wx, Below w.heap.size w wx → _ from fun wx hb => rCheck_any (h.new hb))
  obtain ⟨sT, hsT⟩ : ∃ s, S.t.sp = s := ⟨_, rfl⟩
  obtain ⟨sM, hsM⟩ : ∃ s, S.m.sp = s := ⟨_, rfl⟩
  obtain ⟨sE, hsE⟩ : ∃ s, S.e.sp = s := ⟨_, rfl⟩
  obtain ⟨nT, hnT⟩ : ∃ n, x.tasks.length = n := ⟨_, rfl⟩
  obtain ⟨nM, hnM⟩ : ∃ n, x.modes.length = n := ⟨_, rfl⟩
  obtain ⟨nE, hnE⟩ : ∃ n, x.edges.length = n := ⟨_, rfl⟩
  obtain ⟨res, hres⟩ : ∃ r, x.res = r := ⟨_, rfl⟩
  obtain ⟨v, hv⟩ : ∃ v, codeAll x = v := ⟨_, rfl⟩
  obtain ⟨g, hg⟩ : ∃ v, greatI x = v := ⟨_, rfl⟩
  rw [hnT, hnM, hnE, hsT, hsM, hsE, hres] at HG HC HR
  rw [hv] at HC HR
  rw [hg] at HG
  rw [hnT, hnM, hnE, hsT, hsM, hsE, hres]
  obtain ⟨p, q⟩ := v
  dsimp only at HC HR
  obtain ⟨Z, hZ⟩ : ∃ Z, Z = w.heap.size := ⟨_, rfl⟩
  have HZ := Lib.hid (show ∀ w2, w.alloc (.cells #[.int .i64 res, .slice sT nT S.t.c, .slice sM nM S.m.c, .slice sE nE S.e.c] 26) = w2 → Below w.heap.size w w2 ∧ RowAt w2 Z 26 #[.int .i64 res, .slice sT nT S.t.c, .slice sM nM S.m.c, .slice sE nE S.e.c] from fun w2 hw => by
    rw [← hw, hZ]; exact ⟨(Below.refl _ _).alloc (Nat.le_refl _) _, RowAt.mk _ _ _⟩)
  clear h hnT hnM hnE hsT hsM hsE hres hv hg
  go_enter Try.func3, Try.ntmps3
  go_upto_region 1 with fail
  rw [← hZ]
  generalize hw2 : World.alloc _ _ = w2
  have H2 := Lib.hid (HZ.out w2 hw2)
  clear hw2 hZ HZ
  cases g with
  | true =>
    go_wp2_with (first
      | (refine wpList_load_row rfl 26 (.tmp 1) rfl Z rfl 26 #[.int .i64 res, .slice sT nT S.t.c, .slice sM nM S.m.c, .slice sE nE S.e.c] (0, 0) _ H2.out.2 Try.underlying26 rfl (by kernel_rfl) ?_)
      | (go_at_call 8; refine (HG.out _ H2.out.1).mono ?_; rintro e w3 ⟨rfl, b3⟩; have H3 := Lib.hid (H2.out.1.trans (b3.mono H2.out.1.size)); clear b3)
      | fail)
    go_ret
    exact ⟨rfl, H3.out⟩
  | false =>
    have hpp : (p == p) = true := by simp
    have hqq : (q == q) = true := by simp
    go_wp2_with (first
      | (refine wpList_load_row rfl 26 (.tmp 1) rfl Z rfl 26 #[.int .i64 res, .slice sT nT S.t.c, .slice sM nM S.m.c, .slice sE nE S.e.c] (0, 0) _ H2.out.2 Try.underlying26 rfl (by kernel_rfl) ?_)
      | (go_at_call 8; refine (HG.out _ H2.out.1).mono ?_; rintro e w3 ⟨rfl, b3⟩; have H3 := Lib.hid (And.intro (H2.out.1.trans (b3.mono H2.out.1.size)) (H2.out.2.new b3)); clear b3 H2)
      | (refine wpList_load_row rfl 26 (.tmp 1) rfl Z rfl 26 #[.int .i64 res, .slice sT nT S.t.c, .slice sM nM S.m.c, .slice sE nE S.e.c] (0, 0) _ H3.out.2 Try.underlying26 rfl (by kernel_rfl) ?_)
      | (go_at_call 9; refine (HC.out _ H3.out.1).mono ?_; rintro e w4 ⟨rfl, b4⟩; have H4 := Lib.hid (And.intro (H3.out.1.trans (b4.mono H3.out.1.size)) (H3.out.2.new b4)); clear b4 H3)
      | (refine wpList_load_row rfl 26 (.tmp 1) rfl Z rfl 26 #[.int .i64 res, .slice sT nT S.t.c, .slice sM nM S.m.c, .slice sE nE S.e.c] (0, 0) _ H4.out.2 Try.underlying26 rfl (by kernel_rfl) ?_)
      | (go_at_call 10; refine (HR.out _ H4.out.1).mono ?_; rintro e w5 ⟨rfl, b5⟩; have H5 := Lib.hid (H4.out.1.trans (b5.mono H4.out.1.size)); clear b5 H4)
      | (go_at_call 11; refine (l10alive_any _).mono ?_; rintro e w6 ⟨rfl, b6⟩; have H6 := Lib.hid (H5.out.trans (b6.mono H5.out.size)); clear b6)
      | fail)
    go_ret
    exact ⟨by simp, H6.out⟩
end Go.Proofs.Ytandehdgpbflmaa
