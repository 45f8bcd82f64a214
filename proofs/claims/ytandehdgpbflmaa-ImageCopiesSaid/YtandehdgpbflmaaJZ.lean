/- The contract of image's Same. -/
import Derived.Test.YtandehdgpbflmaaJY
import Derived.WalkMore
namespace Go.Proofs.Ytandehdgpbflmaa
open Go.RowKit

/-- Are two lists of queues the same? -/
def qsEq (a b : List (Int × Int)) : Bool := decide (a.length = b.length) && (List.range a.length).all fun j => decide ((qth a j).1 = (qth b j).1 ∧ (qth a j).2 = (qth b j).2)
def modeEq (x y : Img) (k : Nat) : Bool := decide (w32 (x.m k).tasks = w32 (y.m k).tasks) && qsEq (x.m k).qs (y.m k).qs
/-- Are two images the same? -/
def imgEq (x y : Img) : Bool := decide (x.res = y.res) && (decide (x.modes.length = y.modes.length) && (tasksEq x y && (edgesEq x y && (List.range x.modes.length).all (modeEq x y))))
theorem queueAt {w : World} {V : Nat → Prop} {x : Img} {S : ImgS} (h : ImgAt w V x S) (k : Nat) (hk : k < x.modes.length) (j : Nat) (hj : j < (x.m k).qs.length) : At w (S.q k).b ((S.q k).o + j * 2) [.int .i64 (qth (x.m k).qs j).1, .int .i64 (qth (x.m k).qs j).2] := fun i u hu => by
  rcases i with _ | _ | i
  · obtain rfl : _ = u := by simpa using hu
    exact (h.qu k hk j hj).1
  · obtain rfl : _ = u := by simpa using hu
    exact (h.qu k hk j hj).2
  · simp at hu
set_option maxHeartbeats 8000000 in
set_option maxRecDepth 100000 in
theorem iSame_any {w : World} {V V' : Nat → Prop} {x y : Img} {S S' : ImgS} (h : ImgAt w V x S) (h' : ImgAt w V' y S') :
    Calls Try.prog 18 #[.agg #[.int .i64 x.res, .slice S.t.sp x.tasks.length S.t.c, .slice S.m.sp x.modes.length S.m.c, .slice S.e.sp x.edges.length S.e.c], .agg #[.int .i64 y.res, .slice S'.t.sp y.tasks.length S'.t.c, .slice S'.m.sp y.modes.length S'.m.c, .slice S'.e.sp y.edges.length S'.e.c]] w fun e w' => e = .returned (.bool (imgEq x y)) ∧ Below w.heap.size w w' := by
  have HO := Lib.hid (show imgEq x y = (decide (x.res = y.res) && (decide (x.modes.length = y.modes.length) && (tasksEq x y && (edgesEq x y && (List.range x.modes.length).all (modeEq x y))))) from rfl)
  have hsm := h.sm.sm
  have HT := Lib.hid (show ∀ wx, Below w.heap.size w wx → _ from fun wx hb => eqT_any (h.new hb) (h'.new hb))
  have HE := Lib.hid (show ∀ wx, Below w.heap.size w wx → _ from fun wx hb => eqE_any (h.new hb) (h'.new hb))
  have HMx := Lib.hid (fun (k : Nat) (hk : k < x.modes.length) (wx : World) (hb : Below w.heap.size w wx) => modeAt (h.new hb) k hk)
  have HMy := Lib.hid (fun (k : Nat) (hk : k < y.modes.length) (wx : World) (hb : Below w.heap.size w wx) => modeAt (h'.new hb) k hk)
  have HQx := Lib.hid (fun (k : Nat) (hk : k < x.modes.length) => (⟨fun (j : Nat) (hj : j < (x.m k).qs.length) (wx : World) (hb : Below w.heap.size w wx) => queueAt (h.new hb) k hk j hj, fun h0 => ((h.md k hk).2.2.at_ h0).1, (h.md k hk).2.2.sm⟩ : _ ∧ _ ∧ _))
  have HQy := Lib.hid (fun (k : Nat) (hk : k < y.modes.length) => (⟨fun (j : Nat) (hj : j < (y.m k).qs.length) (wx : World) (hb : Below w.heap.size w wx) => queueAt (h'.new hb) k hk j hj, fun h0 => ((h'.md k hk).2.2.at_ h0).1⟩ : _ ∧ _))
  obtain ⟨sT, hsT⟩ : ∃ s, S.t.sp = s := ⟨_, rfl⟩
  obtain ⟨sM, hsM⟩ : ∃ s, S.m.sp = s := ⟨_, rfl⟩
  obtain ⟨sE, hsE⟩ : ∃ s, S.e.sp = s := ⟨_, rfl⟩
  obtain ⟨sT', hsT'⟩ : ∃ s, S'.t.sp = s := ⟨_, rfl⟩
  obtain ⟨sM', hsM'⟩ : ∃ s, S'.m.sp = s := ⟨_, rfl⟩
  obtain ⟨sE', hsE'⟩ : ∃ s, S'.e.sp = s := ⟨_, rfl⟩
  have HSp := Lib.hid (fun (h0 : 0 < x.modes.length) => show sM = some ⟨S.m.b, S.m.o, none⟩ from by rw [← hsM]; exact (h.sm.at_ h0).1)
  have HSp' := Lib.hid (fun (h0 : 0 < y.modes.length) => show sM' = some ⟨S'.m.b, S'.m.o, none⟩ from by rw [← hsM']; exact (h'.sm.at_ h0).1)
  obtain ⟨nT, hnT⟩ : ∃ n, x.tasks.length = n := ⟨_, rfl⟩
  obtain ⟨n, hnM⟩ : ∃ n, x.modes.length = n := ⟨_, rfl⟩
  obtain ⟨nE, hnE⟩ : ∃ n, x.edges.length = n := ⟨_, rfl⟩
  obtain ⟨nT', hnT'⟩ : ∃ n, y.tasks.length = n := ⟨_, rfl⟩
  obtain ⟨n', hnM'⟩ : ∃ n, y.modes.length = n := ⟨_, rfl⟩
  obtain ⟨nE', hnE'⟩ : ∃ n, y.edges.length = n := ⟨_, rfl⟩
  obtain ⟨rx, hrx⟩ : ∃ n, x.res = n := ⟨_, rfl⟩
  obtain ⟨ry, hry⟩ : ∃ n, y.res = n := ⟨_, rfl⟩
  obtain ⟨v, hv⟩ : ∃ v, imgEq x y = v := ⟨_, rfl⟩
  obtain ⟨vT, hvT⟩ : ∃ v, tasksEq x y = v := ⟨_, rfl⟩
  obtain ⟨vE, hvE⟩ : ∃ v, edgesEq x y = v := ⟨_, rfl⟩
  rw [hnT, hsT, hnT', hsT', hvT] at HT
  rw [hnE, hsE, hnE', hsE', hvE] at HE
  rw [hnM] at HSp hsm HMx HQx
  rw [hnM'] at HSp' HMy HQy
  rw [hv, hvT, hvE, hnM, hnM', hrx, hry] at HO
  rw [hnT, hnM, hnE, hsT, hsM, hsE, hrx, hnT', hnM', hnE', hsT', hsM', hsE', hry, hv]
  have HN : True := trivial
  obtain ⟨Z, hZ⟩ : ∃ Z, Z = w.heap.size := ⟨_, rfl⟩
  have HZ := Lib.hid (show ∀ w2, (w.alloc (.cells #[.int .i64 rx, .slice sT nT S.t.c, .slice sM n S.m.c, .slice sE nE S.e.c] 26)).alloc (.cells #[.int .i64 ry, .slice sT' nT' S'.t.c, .slice sM' n' S'.m.c, .slice sE' nE' S'.e.c] 26) = w2 → Below w.heap.size w w2 ∧ RowAt w2 Z 26 #[.int .i64 rx, .slice sT nT S.t.c, .slice sM n S.m.c, .slice sE nE S.e.c] ∧ RowAt w2 (Z + 1) 26 #[.int .i64 ry, .slice sT' nT' S'.t.c, .slice sM' n' S'.m.c, .slice sE' nE' S'.e.c] from fun w2 hw => by
    rw [← hw, hZ]; exact two_alloc (Below.refl _ _))
  clear h h' hnT hnM hnE hsT hsM hsE hrx hnT' hnM' hnE' hsT' hsM' hsE' hry hv hvT hvE
  go_enter Try.func18, Try.ntmps18
  go_wp2
  go_step3
  go_upto_region 1 with fail
  rw [← hZ]
  generalize hw2 : World.alloc _ _ = w2
  have HZ2 := Lib.hid (HZ.out w2 hw2)
  clear hw2 hZ HZ
  have c0 : w2.cell? ⟨Z, 0, none⟩ = some (.int .i64 rx) := HZ2.out.2.1.cell 0
  have c1 : w2.cell? ⟨Z, 1, none⟩ = some (.slice sT nT S.t.c) := HZ2.out.2.1.cell 1
  have c2 : w2.cell? ⟨Z, 2, none⟩ = some (.slice sM n S.m.c) := HZ2.out.2.1.cell 2
  have c3 : w2.cell? ⟨Z, 3, none⟩ = some (.slice sE nE S.e.c) := HZ2.out.2.1.cell 3
  have d0 : w2.cell? ⟨Z + 1, 0, none⟩ = some (.int .i64 ry) := HZ2.out.2.2.cell 0
  have d1 : w2.cell? ⟨Z + 1, 1, none⟩ = some (.slice sT' nT' S'.t.c) := HZ2.out.2.2.cell 1
  have d2 : w2.cell? ⟨Z + 1, 2, none⟩ = some (.slice sM' n' S'.m.c) := HZ2.out.2.2.cell 2
  have d3 : w2.cell? ⟨Z + 1, 3, none⟩ = some (.slice sE' nE' S'.e.c) := HZ2.out.2.2.cell 3
  by_cases hr : rx = ry
  case neg =>
    have HV := Lib.hid (show v = false by rw [HO.out, decide_eq_false hr]; rfl)
    have hrb : (rx != ry) = true := by simpa using hr
    clear hr HO HT HE HN HSp HSp'
    go_wp2
    try rw [Exit.noGoto_ret]
    go_ret
    exact ⟨by rw [HV.out]; rfl, HZ2.out.1⟩
  by_cases hn : n = n'
  case neg =>
    have HV := Lib.hid (show v = false by rw [HO.out, decide_eq_false hn]; simp)
    have hn2 : ((n : Int) != (n' : Int)) = true := by simp; omega
    subst hr
    clear HO HT HE HN HSp HSp' hn
    go_wp2
    try rw [Exit.noGoto_ret]
    go_ret
    exact ⟨by rw [HV.out]; rfl, HZ2.out.1⟩
  subst hr hn
  have HO1 := Lib.hid (show v = (vT && (vE && (List.range n).all (modeEq x y))) by rw [HO.out]; simp)
  clear HO
  cases vT with
  | false =>
    have HV := Lib.hid (show v = false by rw [HO1.out]; rfl)
    clear HO1 HE HN HSp HSp'
    go_wp2_with (go_at_call 49; refine (HT.out _ HZ2.out.1).mono ?_; rintro e w3 ⟨rfl, b3⟩; have H3 := Lib.hid (HZ2.out.1.trans (b3.mono HZ2.out.1.size)); clear b3 HT c0 c1 c2 c3 d0 d1 d2 d3)
    try rw [Exit.noGoto_ret]
    go_ret
    exact ⟨by rw [HV.out]; rfl, H3.out⟩
  | true =>
  cases vE with
  | false =>
    have HV := Lib.hid (show v = false by rw [HO1.out]; rfl)
    clear HO1 HN HSp HSp'
    go_wp2_with (first | (go_at_call 49; refine (HT.out _ HZ2.out.1).mono ?_; rintro e w3 ⟨rfl, b3⟩; have H3 := Lib.hid (rrKeep HZ2.out b3); clear b3 HT c0 c1 c2 c3 d0 d1 d2 d3; have c2 : w3.cell? ⟨Z, 2, none⟩ = some (.slice sM n S.m.c) := H3.out.2.1.cell 2; have c3 : w3.cell? ⟨Z, 3, none⟩ = some (.slice sE nE S.e.c) := H3.out.2.1.cell 3; have d3 : w3.cell? ⟨Z + 1, 3, none⟩ = some (.slice sE' nE' S'.e.c) := H3.out.2.2.cell 3; have c0 := H3; have c1 := H3; have d0 := H3; have d1 := H3; have d2 := H3) | (go_at_call 50; refine (HE.out _ H3.out.1).mono ?_; rintro e w4 ⟨rfl, b4⟩; have H4 := Lib.hid (rrKeep H3.out b4); clear b4 HE c0 c1 c2 c3 d0 d1 d2 d3; have c2 : w4.cell? ⟨Z, 2, none⟩ = some (.slice sM n S.m.c) := H4.out.2.1.cell 2; have c3 : w4.cell? ⟨Z, 3, none⟩ = some (.slice sE nE S.e.c) := H4.out.2.1.cell 3; have d3 : w4.cell? ⟨Z + 1, 3, none⟩ = some (.slice sE' nE' S'.e.c) := H4.out.2.2.cell 3; have c0 := H4; have c1 := H4; have d0 := H4; have d1 := H4; have d2 := H4) | fail)
    try rw [Exit.noGoto_ret]
    go_ret
    exact ⟨by rw [HV.out]; rfl, H4.out.1⟩
  | true =>
  have HV := Lib.hid (show v = (List.range n).all (modeEq x y) by rw [HO1.out]; rfl)
  clear HO1
  go_wp2_with (first | (go_at_call 49; refine (HT.out _ HZ2.out.1).mono ?_; rintro e w3 ⟨rfl, b3⟩; have H3 := Lib.hid (rrKeep HZ2.out b3); clear b3 HT c0 c1 c2 c3 d0 d1 d2 d3; have c2 : w3.cell? ⟨Z, 2, none⟩ = some (.slice sM n S.m.c) := H3.out.2.1.cell 2; have c3 : w3.cell? ⟨Z, 3, none⟩ = some (.slice sE nE S.e.c) := H3.out.2.1.cell 3; have d3 : w3.cell? ⟨Z + 1, 3, none⟩ = some (.slice sE' nE' S'.e.c) := H3.out.2.2.cell 3; have c0 := H3; have c1 := H3; have d0 := H3; have d1 := H3; have d2 := H3) | (go_at_call 50; refine (HE.out _ H3.out.1).mono ?_; rintro e w4 ⟨rfl, b4⟩; have H4 := Lib.hid (rrKeep H3.out b4); clear b4 HE c0 c1 c2 c3 d0 d1 d2 d3; have c2 : w4.cell? ⟨Z, 2, none⟩ = some (.slice sM n S.m.c) := H4.out.2.1.cell 2; have c3 : w4.cell? ⟨Z, 3, none⟩ = some (.slice sE nE S.e.c) := H4.out.2.1.cell 3; have d3 : w4.cell? ⟨Z + 1, 3, none⟩ = some (.slice sE' nE' S'.e.c) := H4.out.2.2.cell 3; have c0 := H4; have c1 := H4; have d0 := H4; have d1 := H4; have d2 := H4) | fail)
  go_step3
  clear c0 c1 c2 c3 d0 d1 d2 d3
  have c2 : w4.cell? ⟨Z, 2, none⟩ = some (.slice sM n S.m.c) := H4.out.2.1.cell 2
  go_wp2
  clear c2 HZ2 H3
  go_loopg [5, 44] n (fun g u v5 wr => ∃ k : Nat, k + g = n ∧ u = .int .i64 (k : Nat) ∧ v5 = .int .i64 (k : Nat) ∧ Aside ((Below w.heap.size w wr ∧ RowAt wr Z 26 #[.int .i64 rx, .slice sT nT S.t.c, .slice sM n S.m.c, .slice sE nE S.e.c] ∧ RowAt wr (Z + 1) 26 #[.int .i64 rx, .slice sT' nT' S'.t.c, .slice sM' n S'.m.c, .slice sE' nE' S'.e.c]) ∧ ∀ j, j < k → modeEq x y j = true))
  case atStart => exact ⟨0, by omega, rfl, rfl, H4.out, fun j hj => absurd hj (Nat.not_lt_zero j)⟩
  clear H4
  case round =>
    obtain ⟨k, hkg, rfl, rfl, HR⟩ := hrel
    cases gk with
    | zero =>
      obtain rfl : k = n := by omega
      have HV2 := Lib.hid (show v = true by rw [HV.out]; exact rangeAll_yes HR.out.2)
      have c2 : wr.cell? ⟨Z, 2, none⟩ = some (.slice sM k S.m.c) := HR.out.1.2.1.cell 2
      go_wp2
      try rw [Exit.noGoto_ret]
      go_ret
      exact ⟨by rw [HV2.out]; simp, HR.out.1.1⟩
    | succ g1 =>
      have hk : k < n := by omega
      have HG := Lib.hid hkg
      obtain rfl := HSp.out (by omega)
      obtain rfl := HSp'.out (by omega)
      have hk2 : (k : Int) < (n : Int) := by omega
      have hk3 : ((k : Int) == (n : Int)) = false := by simp; omega
      have hk4 : (k : Int) + 1 ≤ 9223372036854775807 := by omega
      have HF := Lib.hid (fun (hb : modeEq x y k = false) => show v = false from HV.out.trans (rangeAll_no hk hb))
      have HY := Lib.hid (fun (hb : modeEq x y k = true) => show ∀ j, j < k + 1 → modeEq x y j = true from fun j hj => by
        rcases Nat.lt_or_ge j k with h2 | h2
        · exact HR.out.2 j h2
        · obtain rfl : j = k := by omega
          exact hb)
      have HMxk := Lib.hid (HMx.out k hk)
      have HMyk := Lib.hid (HMy.out k hk)
      have HQxk := Lib.hid (HQx.out k hk)
      have HQyk := Lib.hid (HQy.out k hk)
      have hnq := HQxk.out.2.2
      have HME := Lib.hid (show modeEq x y k = (decide (w32 (x.m k).tasks = w32 (y.m k).tasks) && (decide ((x.m k).qs.length = (y.m k).qs.length) && (List.range (x.m k).qs.length).all fun j => decide ((qth (x.m k).qs j).1 = (qth (y.m k).qs j).1 ∧ (qth (x.m k).qs j).2 = (qth (y.m k).qs j).2))) from rfl)
      obtain ⟨T, hT⟩ : ∃ T, w32 (x.m k).tasks = T := ⟨_, rfl⟩
      obtain ⟨T', hT'⟩ : ∃ T, w32 (y.m k).tasks = T := ⟨_, rfl⟩
      obtain ⟨qs, hqs⟩ : ∃ T, (x.m k).qs = T := ⟨_, rfl⟩
      obtain ⟨qs', hqs'⟩ : ∃ T, (y.m k).qs = T := ⟨_, rfl⟩
      obtain ⟨sq, hsq⟩ : ∃ T, S.q k = T := ⟨_, rfl⟩
      obtain ⟨sq', hsq'⟩ : ∃ T, S'.q k = T := ⟨_, rfl⟩
      rw [hT, hqs, hsq] at HMxk
      rw [hT', hqs', hsq'] at HMyk
      rw [hqs, hsq] at HQxk
      rw [hqs', hsq'] at HQyk
      rw [hT, hT', hqs, hqs'] at HME
      rw [hqs] at hnq
      obtain ⟨nq, hnq1⟩ : ∃ T, qs.length = T := ⟨_, rfl⟩
      obtain ⟨nq', hnq2⟩ : ∃ T, qs'.length = T := ⟨_, rfl⟩
      obtain ⟨sp, sb, so, sc⟩ := sq
      obtain ⟨sp', sb', so', sc'⟩ := sq'
      dsimp only at HMxk HMyk HQxk HQyk
      rw [hnq1] at HMxk HQxk HME hnq
      rw [hnq2] at HMyk HQyk HME
      clear hT hT' hqs hqs' hsq hsq' hnq1 hnq2 hkg HMx HMy HQx HQy HSp HSp' HV
      have HL := Lib.hid (HMxk.out wr HR.out.1.1)
      have m0 : wr.cell? ⟨S.m.b, S.m.o + k * 2, none⟩ = some (.int .u32 T) := HL.out 0 _ rfl
      have m1 : wr.cell? ⟨S.m.b, S.m.o + k * 2 + 1, none⟩ = some (.slice sp nq sc) := HL.out 1 _ rfl
      go_upto_region 7 with fail
      clear m0 m1 HL
      obtain ⟨A, hA⟩ : ∃ A, A = wr.heap.size := ⟨_, rfl⟩
      have H5 := Lib.hid (show ∀ w5, wr.alloc (.cells #[.int .u32 T, .slice sp nq sc] 48) = w5 → Below w.heap.size w w5 ∧ RowAt w5 Z 26 #[.int .i64 rx, .slice sT nT S.t.c, .slice (some ⟨S.m.b, S.m.o, none⟩) n S.m.c, .slice sE nE S.e.c] ∧ RowAt w5 (Z + 1) 26 #[.int .i64 rx, .slice sT' nT' S'.t.c, .slice (some ⟨S'.m.b, S'.m.o, none⟩) n S'.m.c, .slice sE' nE' S'.e.c] ∧ RowAt w5 A 48 #[.int .u32 T, .slice sp nq sc] from fun w5 hw => by
        rw [← hw, hA]
        have hb : Below wr.heap.size wr (wr.alloc (.cells #[.int .u32 T, .slice sp nq sc] 48)) := (Below.refl _ _).alloc (Nat.le_refl _) _
        exact ⟨HR.out.1.1.trans (hb.mono HR.out.1.1.size), HR.out.1.2.1.new hb, HR.out.1.2.2.new hb, RowAt.mk _ _ _⟩)
      rw [← hA]
      generalize hw5 : World.alloc _ _ = w5
      have H5 := Lib.hid (H5.out w5 hw5)
      clear hw5 hA
      have HL := Lib.hid (HMyk.out w5 H5.out.1)
      have m0 : w5.cell? ⟨S'.m.b, S'.m.o + k * 2, none⟩ = some (.int .u32 T') := HL.out 0 _ rfl
      have m1 : w5.cell? ⟨S'.m.b, S'.m.o + k * 2 + 1, none⟩ = some (.slice sp' nq' sc') := HL.out 1 _ rfl
      have d2 : w5.cell? ⟨Z + 1, 2, none⟩ = some (.slice (some ⟨S'.m.b, S'.m.o, none⟩) n S'.m.c) := H5.out.2.2.1.cell 2
      go_upto_region 8 with fail
      clear m0 m1 HL d2
      obtain ⟨B, hB⟩ : ∃ A, A = w5.heap.size := ⟨_, rfl⟩
      have H6 := Lib.hid (show ∀ w6, w5.alloc (.cells #[.int .u32 T', .slice sp' nq' sc'] 48) = w6 → Below w.heap.size w w6 ∧ RowAt w6 Z 26 #[.int .i64 rx, .slice sT nT S.t.c, .slice (some ⟨S.m.b, S.m.o, none⟩) n S.m.c, .slice sE nE S.e.c] ∧ RowAt w6 (Z + 1) 26 #[.int .i64 rx, .slice sT' nT' S'.t.c, .slice (some ⟨S'.m.b, S'.m.o, none⟩) n S'.m.c, .slice sE' nE' S'.e.c] ∧ RowAt w6 A 48 #[.int .u32 T, .slice sp nq sc] ∧ RowAt w6 B 48 #[.int .u32 T', .slice sp' nq' sc'] from fun w6 hw => by
        rw [← hw, hB]
        have hb : Below w5.heap.size w5 (w5.alloc (.cells #[.int .u32 T', .slice sp' nq' sc'] 48)) := (Below.refl _ _).alloc (Nat.le_refl _) _
        exact ⟨H5.out.1.trans (hb.mono H5.out.1.size), H5.out.2.1.new hb, H5.out.2.2.1.new hb, H5.out.2.2.2.new hb, RowAt.mk _ _ _⟩)
      rw [← hB]
      generalize hw6 : World.alloc _ _ = w6
      have H6 := Lib.hid (H6.out w6 hw6)
      clear hw6 hB H5
      have p0 : w6.cell? ⟨A, 0, none⟩ = some (.int .u32 T) := H6.out.2.2.2.1.cell 0
      have p1 : w6.cell? ⟨A, 1, none⟩ = some (.slice sp nq sc) := H6.out.2.2.2.1.cell 1
      have q0 : w6.cell? ⟨B, 0, none⟩ = some (.int .u32 T') := H6.out.2.2.2.2.cell 0
      have q1 : w6.cell? ⟨B, 1, none⟩ = some (.slice sp' nq' sc') := H6.out.2.2.2.2.cell 1
      have c2 : w6.cell? ⟨Z, 2, none⟩ = some (.slice (some ⟨S.m.b, S.m.o, none⟩) n S.m.c) := H6.out.2.1.cell 2
      cases hTT : T == T'
      · have HV2 := Lib.hid (HF.out (by rw [HME.out, decide_eq_false (by simpa using hTT)]; rfl))
        have hTn : (T != T') = true := by simp [bne, hTT]
        clear hTT
        go_wp2
        try rw [Exit.noGoto_ret]
        go_ret
        exact ⟨by rw [HV2.out]; rfl, H6.out.1⟩
      have hTn : (T != T') = false := by simp [bne, hTT]
      have HME1 := Lib.hid (show modeEq x y k = _ from HME.out.trans (by rw [decide_eq_true (show T = T' by simpa using hTT), Bool.true_and]))
      clear hTT HME
      by_cases hnn : nq = nq'
      case neg =>
        have HV2 := Lib.hid (HF.out (by rw [HME1.out, decide_eq_false hnn]; rfl))
        have hnn2 : ((nq : Int) != (nq' : Int)) = true := by simp; omega
        clear hnn
        go_wp2
        try rw [Exit.noGoto_ret]
        go_ret
        exact ⟨by rw [HV2.out]; rfl, H6.out.1⟩
      subst hnn
      have HME2 := Lib.hid (show modeEq x y k = _ from HME1.out.trans (by rw [decide_eq_true rfl, Bool.true_and]))
      clear HME1
      go_wp2
      clear p0 p1 q0 q1 c2
      go_loopg [71] nq (fun g u wq => ∃ j : Nat, j + g = nq ∧ u = .int .i64 (j : Nat) ∧ Aside ((Below w.heap.size w wq ∧ RowAt wq Z 26 #[.int .i64 rx, .slice sT nT S.t.c, .slice (some ⟨S.m.b, S.m.o, none⟩) n S.m.c, .slice sE nE S.e.c] ∧ RowAt wq (Z + 1) 26 #[.int .i64 rx, .slice sT' nT' S'.t.c, .slice (some ⟨S'.m.b, S'.m.o, none⟩) n S'.m.c, .slice sE' nE' S'.e.c] ∧ RowAt wq A 48 #[.int .u32 T, .slice sp nq sc] ∧ RowAt wq B 48 #[.int .u32 T', .slice sp' nq sc']) ∧ ∀ i, i < j → decide ((qth qs i).1 = (qth qs' i).1 ∧ (qth qs i).2 = (qth qs' i).2) = true))
      case atStart => exact ⟨0, by omega, rfl, H6.out, fun j hj => absurd hj (Nat.not_lt_zero j)⟩
      clear H6
      case round =>
        obtain ⟨j, hjg, rfl, HP⟩ := hrel
        cases gk with
        | zero =>
          obtain rfl : j = nq := by omega
          have HN2 := Lib.hid (HY.out (HME2.out.trans (rangeAll_yes HP.out.2)))
          go_wp2
          go_roundg g1
          case measure => omega
          case rel => exact ⟨k + 1, by have := HG.out; omega, by go_num, by go_num, ⟨HP.out.1.1, HP.out.1.2.1, HP.out.1.2.2.1⟩, HN2.out⟩
        | succ g2 =>
          have hj : j < nq := by omega
          have HG2 := Lib.hid hjg
          obtain rfl := HQxk.out.2.1 (by omega)
          obtain rfl := HQyk.out.2 (by omega)
          have hj2 : (j : Int) < (nq : Int) := by omega
          have hj3 : (j : Int) + 1 ≤ 9223372036854775807 := by omega
          have hc := HQxk.out.1 j hj wr HP.out.1.1
          have HD := Lib.hid (fun (wx : World) (hb : Below w.heap.size w wx) => HQyk.out.1 j hj wx hb)
          have HBD := Lib.hid (fun (hb : decide ((qth qs j).1 = (qth qs' j).1 ∧ (qth qs j).2 = (qth qs' j).2) = false) => HF.out (HME2.out.trans (rangeAll_no hj hb)))
          have HGD := Lib.hid (fun (hb : decide ((qth qs j).1 = (qth qs' j).1 ∧ (qth qs j).2 = (qth qs' j).2) = true) => show ∀ i, i < j + 1 → decide ((qth qs i).1 = (qth qs' i).1 ∧ (qth qs i).2 = (qth qs' i).2) = true from fun i hi => by
            rcases Nat.lt_or_ge i j with h2 | h2
            · exact HP.out.2 i h2
            · obtain rfl : i = j := by omega
              exact hb)
          obtain ⟨a1, ha1⟩ : ∃ a, (qth qs j).1 = a := ⟨_, rfl⟩
          obtain ⟨a2, ha2⟩ : ∃ a, (qth qs j).2 = a := ⟨_, rfl⟩
          obtain ⟨b1, hb1⟩ : ∃ a, (qth qs' j).1 = a := ⟨_, rfl⟩
          obtain ⟨b2, hb2⟩ : ∃ a, (qth qs' j).2 = a := ⟨_, rfl⟩
          rw [ha1, ha2] at hc
          rw [hb1, hb2] at HD
          rw [ha1, ha2, hb1, hb2] at HBD HGD
          have x0 : wr.cell? ⟨sb, so + j * 2, none⟩ = some (.int .i64 a1) := hc 0 _ rfl
          have x1 : wr.cell? ⟨sb, so + j * 2 + 1, none⟩ = some (.int .i64 a2) := hc 1 _ rfl
          clear ha1 ha2 hb1 hb2 hc hjg HQxk HQyk HME2 HY HF HMxk HMyk
          go_upto_region 12 with fail
          clear x0 x1
          obtain ⟨C, hC⟩ : ∃ A, A = wr.heap.size := ⟨_, rfl⟩
          have H7 := Lib.hid (show ∀ w7, wr.alloc (.cells #[.int .i64 a1, .int .i64 a2] 59) = w7 → (Below w.heap.size w w7 ∧ RowAt w7 Z 26 #[.int .i64 rx, .slice sT nT S.t.c, .slice (some ⟨S.m.b, S.m.o, none⟩) n S.m.c, .slice sE nE S.e.c] ∧ RowAt w7 (Z + 1) 26 #[.int .i64 rx, .slice sT' nT' S'.t.c, .slice (some ⟨S'.m.b, S'.m.o, none⟩) n S'.m.c, .slice sE' nE' S'.e.c] ∧ RowAt w7 A 48 #[.int .u32 T, .slice (some ⟨sb, so, none⟩) nq sc] ∧ RowAt w7 B 48 #[.int .u32 T', .slice (some ⟨sb', so', none⟩) nq sc']) ∧ RowAt w7 C 59 #[.int .i64 a1, .int .i64 a2] from fun w7 hw => by
            rw [← hw, hC]
            have hb : Below wr.heap.size wr (wr.alloc (.cells #[.int .i64 a1, .int .i64 a2] 59)) := (Below.refl _ _).alloc (Nat.le_refl _) _
            exact ⟨⟨HP.out.1.1.trans (hb.mono HP.out.1.1.size), ⟨HP.out.1.2.1.new hb, HP.out.1.2.2.1.new hb, HP.out.1.2.2.2.1.new hb, HP.out.1.2.2.2.2.new hb⟩⟩, RowAt.mk _ _ _⟩)
          rw [← hC]
          generalize hw7 : World.alloc _ _ = w7
          have H7 := Lib.hid (H7.out w7 hw7)
          clear hw7 hC
          have y0 : w7.cell? ⟨C, 0, none⟩ = some (.int .i64 a1) := H7.out.2.cell 0
          have y1 : w7.cell? ⟨C, 1, none⟩ = some (.int .i64 a2) := H7.out.2.cell 1
          have q1 : w7.cell? ⟨B, 1, none⟩ = some (.slice (some ⟨sb', so', none⟩) nq sc') := H7.out.1.2.2.2.2.cell 1
          have z0 : w7.cell? ⟨sb', so' + j * 2, none⟩ = some (.int .i64 b1) := HD.out w7 H7.out.1.1 0 _ rfl
          have z1 : w7.cell? ⟨sb', so' + j * 2 + 1, none⟩ = some (.int .i64 b2) := HD.out w7 H7.out.1.1 1 _ rfl
          have c2 : w7.cell? ⟨Z, 2, none⟩ = some (.slice (some ⟨S.m.b, S.m.o, none⟩) n S.m.c) := H7.out.1.2.1.cell 2
          have hgd : Try.prog.eqGuardType Try.prog.depth 59 = false := by kernel_rfl
          have hnq1 := fun wx => neq_queue a1 a2 b1 b2 wx
          obtain ⟨bb, hbb⟩ : ∃ b, decide (a1 = b1 ∧ a2 = b2) = b := ⟨_, rfl⟩
          rw [hbb] at hnq1 HBD HGD
          clear hbb
          cases bb with
          | true =>
            have HN2 := Lib.hid (HGD.out rfl)
            go_quiet (fail)
            go_wp2
            go_roundg g2
            case measure => omega
            case rel => exact ⟨j + 1, by have := HG2.out; omega, by go_num, ⟨below_dn H7.out.1.1 _, H7.out.1.2⟩, HN2.out⟩
          | false =>
            have HV2 := Lib.hid (HBD.out rfl)
            go_quiet (fail)
            go_wp2
            try rw [Exit.noGoto_ret]
            go_ret
            exact ⟨by rw [HV2.out]; rfl, below_dn H7.out.1.1 _⟩
end Go.Proofs.Ytandehdgpbflmaa
