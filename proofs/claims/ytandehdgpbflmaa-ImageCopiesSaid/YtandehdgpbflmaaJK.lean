/- The contract of image's Check. -/
import Derived.Test.YtandehdgpbflmaaJI
namespace Go.Proofs.Ytandehdgpbflmaa
open Go.RowKit

/-- What is said of an image. -/
def codeAll (x : Img) : Int × Int := if inB x.res 0 8 = true then (if (codeT x).2 = 0 then (if (codeM x).2 = 0 then codeE x else codeM x) else codeT x) else (0, 103)
set_option maxHeartbeats 4000000 in
set_option maxRecDepth 100000 in
theorem iCheck_any {w : World} {V : Nat → Prop} {x : Img} {S : ImgS} (h : ImgAt w V x S) :
    Calls Try.prog 9 #[.agg #[.int .i64 x.res, .slice S.t.sp x.tasks.length S.t.c, .slice S.m.sp x.modes.length S.m.c, .slice S.e.sp x.edges.length S.e.c]] w fun e w' => e = .returned (.tuple #[.int .i64 (codeAll x).1, .int .i64 (codeAll x).2]) ∧ Below w.heap.size w w' := by
  have HT := Lib.hid (show codeAll x = if inB x.res 0 8 = true then (if (codeT x).2 = 0 then (if (codeM x).2 = 0 then codeE x else codeM x) else codeT x) else (0, 103) from rfl)
  have HW := Lib.hid (fun wx => within_any x.res 0 8 wx)
  have HA := Lib.hid (show ∀ wx, Below w.heap.size w wx → _ from fun wx hb => icheckTasks_any (h.new hb))
  have HB := Lib.hid (show ∀ wx, Below w.heap.size w wx → _ from fun wx hb => icheckModes_any (h.new hb))
  have HC := Lib.hid (show ∀ wx, Below w.heap.size w wx → _ from fun wx hb => icheckEdges_any (h.new hb))
  obtain ⟨sT, hsT⟩ : ∃ s, S.t.sp = s := ⟨_, rfl⟩
  obtain ⟨sM, hsM⟩ : ∃ s, S.m.sp = s := ⟨_, rfl⟩
  obtain ⟨sE, hsE⟩ : ∃ s, S.e.sp = s := ⟨_, rfl⟩
  obtain ⟨nT, hnT⟩ : ∃ n, x.tasks.length = n := ⟨_, rfl⟩
  obtain ⟨nM, hnM⟩ : ∃ n, x.modes.length = n := ⟨_, rfl⟩
  obtain ⟨nE, hnE⟩ : ∃ n, x.edges.length = n := ⟨_, rfl⟩
  obtain ⟨res, hres⟩ : ∃ r, x.res = r := ⟨_, rfl⟩
  obtain ⟨v, hv⟩ : ∃ v, codeAll x = v := ⟨_, rfl⟩
  obtain ⟨vT, hvT⟩ : ∃ v, codeT x = v := ⟨_, rfl⟩
  obtain ⟨vM, hvM⟩ : ∃ v, codeM x = v := ⟨_, rfl⟩
  obtain ⟨vE, hvE⟩ : ∃ v, codeE x = v := ⟨_, rfl⟩
  rw [hnT, hnM, hnE, hsT, hsM, hsE, hres] at HA HB HC
  rw [hvT] at HA
  rw [hvM] at HB
  rw [hvE] at HC
  rw [hres] at HW
  rw [hv, hvT, hvM, hvE, hres] at HT
  rw [hnT, hnM, hnE, hv, hsT, hsM, hsE, hres]
  obtain ⟨p1, q1⟩ := vT
  obtain ⟨p2, q2⟩ := vM
  obtain ⟨p3, q3⟩ := vE
  simp only at HA HB HC HT
  obtain ⟨Z, hZ⟩ : ∃ Z, Z = w.heap.size := ⟨_, rfl⟩
  have HZ := Lib.hid (show ∀ w2, w.alloc (.cells #[.int .i64 res, .slice sT nT S.t.c, .slice sM nM S.m.c, .slice sE nE S.e.c] 26) = w2 → Below w.heap.size w w2 ∧ RowAt w2 Z 26 #[.int .i64 res, .slice sT nT S.t.c, .slice sM nM S.m.c, .slice sE nE S.e.c] from fun w2 hw => by
    rw [← hw, hZ]; exact ⟨(Below.refl _ _).alloc (Nat.le_refl _) _, RowAt.mk _ _ _⟩)
  obtain ⟨br, hbr⟩ : ∃ b, inB res 0 8 = b := ⟨_, rfl⟩
  rw [hbr] at HW HT
  clear h hnT hnM hnE hv hsT hsM hsE hres hvT hvM hvE hbr
  go_enter Try.func9, Try.ntmps9
  go_upto_region 1 with fail
  rw [← hZ]
  generalize hw2 : World.alloc _ _ = w2
  have HZ2 := Lib.hid (HZ.out w2 hw2)
  clear hw2 hZ HZ
  have c0 : w2.cell? ⟨Z, 0, none⟩ = some (.int .i64 res) := HZ2.out.2.cell 0
  have c1 : w2.cell? ⟨Z, 1, none⟩ = some (.slice sT nT S.t.c) := HZ2.out.2.cell 1
  have c2 : w2.cell? ⟨Z, 2, none⟩ = some (.slice sM nM S.m.c) := HZ2.out.2.cell 2
  have c3 : w2.cell? ⟨Z, 3, none⟩ = some (.slice sE nE S.e.c) := HZ2.out.2.cell 3
  cases br with
  | false =>
    have HV := Lib.hid (show v = (0, 103) from HT.out.trans (by rfl))
    clear HT HA HB HC
    go_wp2_with (go_at_call 32; refine (HW.out _).mono ?_; rintro e w' ⟨rfl, rfl⟩; clear HW)
    go_ret2
    exact ⟨by rw [HV.out]; rfl, HZ2.out.1⟩
  | true =>
    have HT1 := Lib.hid (show v = _ from HT.out.trans (if_pos rfl))
    clear HT
    go_upto_region 4 with (first | (go_at_call 32; refine (HW.out _).mono ?_; rintro e w' ⟨rfl, rfl⟩; clear HW) | (go_at_call 33; refine (HA.out _ HZ2.out.1).mono ?_; rintro e w4 ⟨rfl, b4⟩; have H4 := Lib.hid (And.intro (HZ2.out.1.trans (b4.mono HZ2.out.1.size)) (HZ2.out.2.new b4)); clear b4 c0 c1 c2 c3 HA; have c0 : w4.cell? ⟨Z, 0, none⟩ = some (.int .i64 res) := H4.out.2.cell 0; have c1 : w4.cell? ⟨Z, 1, none⟩ = some (.slice sT nT S.t.c) := H4.out.2.cell 1; have c2 : w4.cell? ⟨Z, 2, none⟩ = some (.slice sM nM S.m.c) := H4.out.2.cell 2; have c3 : w4.cell? ⟨Z, 3, none⟩ = some (.slice sE nE S.e.c) := H4.out.2.cell 3) | fail)
    obtain ⟨d1, hd1⟩ : ∃ b, (q1 != 0) = b := ⟨_, rfl⟩
    cases d1 with
    | true =>
      have hq : ¬ q1 = 0 := by simpa using hd1
      have HV := Lib.hid (show v = (p1, q1) from HT1.out.trans (if_neg hq))
      have HQ := Lib.hid hq
      clear HT1 hq HB HC
      go_wp2
      go_ret2
      exact ⟨by rw [HV.out]; rfl, H4.out.1⟩
    | false =>
      have hq : q1 = 0 := by simpa using hd1
      have HT2 := Lib.hid (show v = _ from HT1.out.trans (if_pos hq))
      subst hq
      clear HT1 hd1
      go_upto_region 7 with (first | (go_at_call 34; refine (HB.out _ H4.out.1).mono ?_; rintro e w5 ⟨rfl, b5⟩; have H5 := Lib.hid (And.intro (H4.out.1.trans (b5.mono H4.out.1.size)) (H4.out.2.new b5)); clear b5 c0 c1 c2 c3 HB; have c0 : w5.cell? ⟨Z, 0, none⟩ = some (.int .i64 res) := H5.out.2.cell 0; have c1 : w5.cell? ⟨Z, 1, none⟩ = some (.slice sT nT S.t.c) := H5.out.2.cell 1; have c2 : w5.cell? ⟨Z, 2, none⟩ = some (.slice sM nM S.m.c) := H5.out.2.cell 2; have c3 : w5.cell? ⟨Z, 3, none⟩ = some (.slice sE nE S.e.c) := H5.out.2.cell 3) | fail)
      obtain ⟨d2, hd2⟩ : ∃ b, (q2 != 0) = b := ⟨_, rfl⟩
      cases d2 with
      | true =>
        have hq : ¬ q2 = 0 := by simpa using hd2
        have HV := Lib.hid (show v = (p2, q2) from HT2.out.trans (if_neg hq))
        clear HT2 hq HC
        go_wp2
        go_ret2
        exact ⟨by rw [HV.out]; rfl, H5.out.1⟩
      | false =>
        have hq : q2 = 0 := by simpa using hd2
        have HT3 := Lib.hid (show v = (p3, q3) from HT2.out.trans (if_pos hq))
        subst hq
        clear HT2 hd2
        go_wp2_with (first | (go_at_call 35; refine (HC.out _ H5.out.1).mono ?_; rintro e w6 ⟨rfl, b6⟩; have H6 := Lib.hid (And.intro (H5.out.1.trans (b6.mono H5.out.1.size)) (H5.out.2.new b6)); clear b6 c0 c1 c2 c3 HC; have c0 : w6.cell? ⟨Z, 0, none⟩ = some (.int .i64 res) := H6.out.2.cell 0; have c1 : w6.cell? ⟨Z, 1, none⟩ = some (.slice sT nT S.t.c) := H6.out.2.cell 1; have c2 : w6.cell? ⟨Z, 2, none⟩ = some (.slice sM nM S.m.c) := H6.out.2.cell 2; have c3 : w6.cell? ⟨Z, 3, none⟩ = some (.slice sE nE S.e.c) := H6.out.2.cell 3) | fail)
        go_ret2
        exact ⟨by rw [HT3.out]; rfl, H6.out.1⟩

end Go.Proofs.Ytandehdgpbflmaa
