/- The walk of DemandTerms. -/
import Derived.Test.YtcipkkeegbfaeaaDoorDA
import Derived.Test.YtcipkkeegbfaeaaDoorIG
import Derived.Test.YtcipkkeegbfaeaaDoorVH
import Derived.Test.YtcipkkeegbfaeaaDoorXC
import Derived.Handy
import Derived.Deep.QuietTactic
import Derived.DeepKeys
import Derived.ChangeKeysEq
namespace Go.Proofs.YtcipkkeegbfaeaaDoor
open Go.RowKit

theorem lst_pre (y : BitVec 32) (i n : Nat) (h : i ≤ n) : ∃ r, lst y n = lst y i ++ r := by
  induction n with
  | zero => exact ⟨[], by rw [show i = 0 by omega, List.append_nil]⟩
  | succ n ih =>
    by_cases e : i = n + 1
    · exact ⟨[], by rw [e, List.append_nil]⟩
    · obtain ⟨r, hr⟩ := ih (by omega)
      rw [lst_succ]
      split
      · exact ⟨r ++ [n], by rw [hr, List.append_assoc]⟩
      · exact ⟨r, hr⟩
theorem lst_flat (y : BitVec 32) (i n : Nat) (h : i ≤ n) (hb : ∀ j, i ≤ j → j < n → y.getLsbD j = false) : lst y n = lst y i := by
  induction n with
  | zero => rw [show i = 0 by omega]
  | succ n ih =>
    by_cases e : i = n + 1
    · rw [e]
    · rw [lst_succ, if_neg (by rw [hb n (by omega) (by omega)]; decide), ih (by omega) (fun j h1 h2 => hb j h1 (by omega))]
theorem lst_at {y : BitVec 32} {i : Nat} (hi : i < 32) (hb : y.getLsbD i = true) : (lst y i).length < (lst y 32).length ∧ (lst y 32).getD (lst y i).length 0 = i := by
  obtain ⟨r, hr⟩ := lst_pre y (i + 1) 32 (by omega)
  have h1 := lst_succ y i
  rw [if_pos hb] at h1
  rw [hr, h1]
  simp
theorem wrap_succ {k : Nat} (h : k < 100) : Value.int .i64 (wrap64 ((k : Int) + 1)) = .int .i64 ((k + 1 : Nat) : Int) := by
  rw [show wrap64 ((k : Int) + 1) = (k : Int) + 1 by unfold wrap64; omega]; rfl
theorem eqIn_term (dd : Nat) (a b c d : Int) (w : World) : (Op.equalIn (dd + 2) 49 (.agg #[.int .i64 a, .int .i64 b, .int .i64 c, .int .i64 d]) (.agg #[.int .i64 a, .int .i64 b, .int .i64 c, .int .i64 d])).run Tryd.prog w = .ok true w := by
  rw [run_equalIn_agg (P := Tryd.prog) w (dd + 1) 49 _ _ (by kernel_rfl) (by kernel_rfl)]
  simp [Op.eqFields, go_sem, part]
theorem neq_term (a b c d : Int) (w : World) : (Go.binOp .neq 49 (.agg #[.int .i64 a, .int .i64 b, .int .i64 c, .int .i64 d]) (.agg #[.int .i64 a, .int .i64 b, .int .i64 c, .int .i64 d])).run Tryd.prog w = .ok (.bool false) w := by
  have h : (Op.equal 49 (.agg #[.int .i64 a, .int .i64 b, .int .i64 c, .int .i64 d]) (.agg #[.int .i64 a, .int .i64 b, .int .i64 c, .int .i64 d])).run Tryd.prog w = .ok true w := eqIn_term 9998 a b c d w
  simp [Go.binOp, h]
set_option maxHeartbeats 8000000 in
set_option maxRecDepth 100000 in
theorem law_terms {w : World} {V : Nat → Prop} {x : Img} {S : ImgS} (h : ImgAt w V x S) (ht : Tab w) (s : BitVec 32) (off : Int) :
    Calls Tryd.prog 6 #[.agg #[.int .i64 x.res, .slice S.t.sp x.tasks.length S.t.c, .slice S.m.sp x.modes.length S.m.c, .slice S.e.sp x.edges.length S.e.c], .int .u32 (w32 s), .int .i64 off] w fun e w' => e = .returned (.bool true) ∧ Below w.heap.size w w' := by
  have hp := ht.pos
  have HI := Lib.hid h
  have HGr := Lib.hid (show ∀ wx, Below w.heap.size w wx → _ from fun wx hb => great10_any (h.new hb))
  have HOf := Lib.hid (show ∀ wx, Below w.heap.size w wx → _ from fun wx hb => terms_any (h.new hb) (ht.below hp hb) s)
  have HAl := Lib.hid (show ∀ wx, _ from fun wx => l16alive_any wx)
  obtain ⟨nT, hnT⟩ : ∃ n, x.tasks.length = n := ⟨_, rfl⟩
  obtain ⟨nM, hnM⟩ : ∃ n, x.modes.length = n := ⟨_, rfl⟩
  obtain ⟨nE, hnE⟩ : ∃ n, x.edges.length = n := ⟨_, rfl⟩
  rw [hnT, hnM, hnE] at HGr HOf
  rw [hnT, hnM, hnE]
  have HNT := Lib.hid hnT
  obtain ⟨y, hy⟩ : ∃ y, btw s (-1) (nT : Int) = y := ⟨_, rfl⟩
  have HY := Lib.hid (show ∀ i, i < 32 → y.getLsbD i = (s.getLsbD i && decide ((i : Int) < (nT : Int))) from fun i hi => by
    rw [← hy, btw_bit _ _ _ _ hi]
    have : decide (-1 < (i : Int)) = true := by simp; omega
    rw [this, Bool.true_and])
  have HL := Lib.hid (show tasksL x s = lst y 32 by rw [← hy, ← hnT]; rfl)
  obtain ⟨L, hL⟩ : ∃ L, tasksL x s = L := ⟨_, rfl⟩
  rw [hL] at HOf HL
  have HL32 := Lib.hid (show L.length ≤ 32 by rw [HL.out]; exact lst_len _ _)
  obtain ⟨N, hN⟩ : ∃ N, L.length = N := ⟨_, rfl⟩
  rw [hN] at HOf HL32
  have HNN := Lib.hid hN
  obtain ⟨Z, hZ⟩ : ∃ Z, Z = w.heap.size := ⟨_, rfl⟩
  have HZ := Lib.hid hZ
  have hneq := neq_term
  clear h ht hp hnT hnM hnE hy hL hN
  go_enter Tryd.func6, Tryd.ntmps6
  go_upto_region 1 with fail
  rw [← hZ]
  generalize hw2 : World.alloc _ _ = w2
  have H2 := Lib.hid (show Below w.heap.size w w2 ∧ RowAt w2 Z 26 #[.int .i64 x.res, .slice S.t.sp nT S.t.c, .slice S.m.sp nM S.m.c, .slice S.e.sp nE S.e.c] by
    rw [← hw2, hZ]
    exact ⟨(Below.refl _ _).alloc (Nat.le_refl _) _, RowAt.mk _ _ _⟩)
  clear hw2 hZ
  have c0 : w2.cell? ⟨Z, 0, none⟩ = some (.int .i64 x.res) := H2.out.2.cell 0
  have c1 : w2.cell? ⟨Z, 1, none⟩ = some (.slice S.t.sp nT S.t.c) := H2.out.2.cell 1
  have c2 : w2.cell? ⟨Z, 2, none⟩ = some (.slice S.m.sp nM S.m.c) := H2.out.2.cell 2
  have c3 : w2.cell? ⟨Z, 3, none⟩ = some (.slice S.e.sp nE S.e.c) := H2.out.2.cell 3
  cases hg : greatI x
  case true =>
    rw [hg] at HGr
    clear hg
    go_wp2_with (go_at_call 7; refine (HGr.out _ H2.out.1).mono ?_; rintro e w3 ⟨rfl, b3⟩; have H3 := Lib.hid (H2.out.1.trans (b3.mono H2.out.1.size)); clear b3)
    go_ret
    exact ⟨rfl, H3.out⟩
  have HT40 := Lib.hid (show nT ≤ 40 by rw [← HNT.out]; exact (great_not hg).1)
  rw [hg] at HGr
  clear hg
  go_upto_region 4 with (first
    | (go_at_call 7; refine (HGr.out _ H2.out.1).mono ?_; rintro e w3 ⟨rfl, b3⟩; have H3 := Lib.hid (And.intro (H2.out.1.trans (b3.mono H2.out.1.size)) (H2.out.2.new b3)); clear b3 c0 c1 c2 c3; have c0 : w3.cell? ⟨Z, 0, none⟩ = some (.int .i64 x.res) := H3.out.2.cell 0; have c1 : w3.cell? ⟨Z, 1, none⟩ = some (.slice S.t.sp nT S.t.c) := H3.out.2.cell 1; have c2 : w3.cell? ⟨Z, 2, none⟩ = some (.slice S.m.sp nM S.m.c) := H3.out.2.cell 2; have c3 : w3.cell? ⟨Z, 3, none⟩ = some (.slice S.e.sp nE S.e.c) := H3.out.2.cell 3)
    | (go_at_call 16; refine (HOf.out _ H3.out.1).mono ?_; rintro e w4 ⟨v4, rfl, o4, b4⟩; obtain ⟨sp4, cap4, rfl⟩ := own_val o4; have H4 := Lib.hid (show Below w.heap.size w w4 ∧ RowAt w4 Z 26 #[.int .i64 x.res, .slice S.t.sp nT S.t.c, .slice S.m.sp nM S.m.c, .slice S.e.sp nE S.e.c] ∧ w4.ownsRow (Z + 1) 49 4 (.slice sp4 N cap4) N (rowsOf (termV x L) N) from ⟨H3.out.1.trans (b4.mono H3.out.1.size), H3.out.2.new b4, own_mono o4 (by have h1 := H3.out.2.lt; omega)⟩); clear b4 o4 c0 c1 c2 c3)
    | fail)
  clear H2 H3 HGr HOf
  have HQ0 := Lib.hid (show Below w.heap.size w w4 ∧ RowAt w4 Z 26 #[.int .i64 x.res, .slice S.t.sp nT S.t.c, .slice S.m.sp nM S.m.c, .slice S.e.sp nE S.e.c] ∧ w4.ownsRow (Z + 1) 49 4 (.slice sp4 N cap4) N (rowsOf (termV x L) N) from H4.out)
  clear H4
  obtain ⟨M, hM⟩ : ∃ M, min nT 32 = M := ⟨_, rfl⟩
  have HM := Lib.hid hM
  clear hM
  go_wp2
  go_loopg [8, 9] M (fun g vk vi wr => ∃ i : Nat, i + g = M ∧ vi = .int .i64 (i : Nat) ∧ vk = .int .i64 ((lst y i).length : Nat) ∧ Aside (Below w.heap.size w wr ∧ RowAt wr Z 26 #[.int .i64 x.res, .slice S.t.sp nT S.t.c, .slice S.m.sp nM S.m.c, .slice S.e.sp nE S.e.c] ∧ wr.ownsRow (Z + 1) 49 4 (.slice sp4 N cap4) N (rowsOf (termV x L) N)))
  case atStart => exact ⟨0, by omega, rfl, rfl, HQ0.out⟩
  case round =>
    obtain ⟨i, hig, rfl, rfl, HQ⟩ := hrel
    clear HQ0
    have c1 : wr.cell? ⟨Z, 1, none⟩ = some (.slice S.t.sp nT S.t.c) := HQ.out.2.1.cell 1
    cases gk with
    | zero =>
      have hk : lst y i = L := by
        have h1 := HM.out
        rw [HL.out]
        exact (lst_flat y i 32 (by omega) (fun j h2 h3 => by
          rw [HY.out j h3]
          have : decide ((j : Int) < (nT : Int)) = false := by simp; omega
          rw [this, Bool.and_false])).symm
      rw [hk, HNN.out]
      clear hk
      have HE := Lib.hid HQ.out.1
      by_cases hlt : i < nT
      · obtain rfl : i = 32 := by have := HM.out; omega
        go_wp2_with (first
          | (go_at_call 19; refine (HAl.out _).mono ?_; rintro e w9 ⟨rfl, b9⟩; have H9 := Lib.hid (HE.out.trans (b9.mono HE.out.size)); clear b9)
          | fail)
        go_ret
        exact ⟨rfl, H9.out⟩
      · go_wp2_with (first
          | (go_at_call 19; refine (HAl.out _).mono ?_; rintro e w9 ⟨rfl, b9⟩; have H9 := Lib.hid (HE.out.trans (b9.mono HE.out.size)); clear b9)
          | fail)
        go_ret
        exact ⟨rfl, H9.out⟩
    | succ g1 =>
      have hi1 : i < nT := by have := HM.out; omega
      have hi2 : i < 32 := by have := HM.out; omega
      have HIw := Lib.hid (HI.out.new HQ.out.1)
      obtain ⟨hsp, hbs, -⟩ := HIw.out.st.at_ (by rw [HNT.out]; omega)
      have htv : ∀ k, L.getD k 0 = i → termV x L k = [.int .i64 (x.t i).per, .int .i64 (x.t i).cost, .int .i64 0, .int .i64 0] := fun k h => by unfold termV; rw [h]
      obtain ⟨hcs, h8⟩ := HIw.out.tk i (by rw [HNT.out]; exact hi1)
      obtain ⟨f, hf⟩ : ∃ f, lonF x i = f := ⟨_, rfl⟩
      obtain ⟨a0, ha0⟩ : ∃ a, (x.t i).per = a := ⟨_, rfl⟩
      obtain ⟨a1, ha1⟩ : ∃ a, (x.t i).dl = a := ⟨_, rfl⟩
      obtain ⟨a2, ha2⟩ : ∃ a, (x.t i).cost = a := ⟨_, rfl⟩
      have hql : wr.cell? ⟨S.t.b, S.t.o + i * 11, none⟩ = some (.int .i64 a0) ∧ wr.cell? ⟨S.t.b, S.t.o + i * 11 + 1, none⟩ = some (.int .i64 a1) ∧ wr.cell? ⟨S.t.b, S.t.o + i * 11 + 2, none⟩ = some (.int .i64 a2) ∧ wr.cell? ⟨S.t.b, S.t.o + i * 11 + 3, none⟩ = some (.int .i64 (f 0)) ∧ wr.cell? ⟨S.t.b, S.t.o + i * 11 + 4, none⟩ = some (.int .i64 (f 1)) ∧ wr.cell? ⟨S.t.b, S.t.o + i * 11 + 5, none⟩ = some (.int .i64 (f 2)) ∧ wr.cell? ⟨S.t.b, S.t.o + i * 11 + 6, none⟩ = some (.int .i64 (f 3)) ∧ wr.cell? ⟨S.t.b, S.t.o + i * 11 + 7, none⟩ = some (.int .i64 (f 4)) ∧ wr.cell? ⟨S.t.b, S.t.o + i * 11 + 8, none⟩ = some (.int .i64 (f 5)) ∧ wr.cell? ⟨S.t.b, S.t.o + i * 11 + 9, none⟩ = some (.int .i64 (f 6)) ∧ wr.cell? ⟨S.t.b, S.t.o + i * 11 + 10, none⟩ = some (.int .i64 (f 7)) := by
        rw [← ha0, ← ha1, ← ha2, ← hf]
        exact ⟨hcs 0 _ rfl, hcs 1 _ rfl, hcs 2 _ rfl, hcs 3 _ (lon_at h8 0 (by omega)), hcs 4 _ (lon_at h8 1 (by omega)), hcs 5 _ (lon_at h8 2 (by omega)), hcs 6 _ (lon_at h8 3 (by omega)), hcs 7 _ (lon_at h8 4 (by omega)), hcs 8 _ (lon_at h8 5 (by omega)), hcs 9 _ (lon_at h8 6 (by omega)), hcs 10 _ (lon_at h8 7 (by omega))⟩
      rw [ha0, ha2] at htv
      have HTV := Lib.hid htv
      have HQL := Lib.hid hql
      have HQA := Lib.hid (show ∀ w', Below wr.heap.size wr w' → (w'.cell? ⟨S.t.b, S.t.o + i * 11, none⟩ = some (.int .i64 a0) ∧ w'.cell? ⟨S.t.b, S.t.o + i * 11 + 1, none⟩ = some (.int .i64 a1) ∧ w'.cell? ⟨S.t.b, S.t.o + i * 11 + 2, none⟩ = some (.int .i64 a2) ∧ w'.cell? ⟨S.t.b, S.t.o + i * 11 + 3, none⟩ = some (.int .i64 (f 0)) ∧ w'.cell? ⟨S.t.b, S.t.o + i * 11 + 4, none⟩ = some (.int .i64 (f 1)) ∧ w'.cell? ⟨S.t.b, S.t.o + i * 11 + 5, none⟩ = some (.int .i64 (f 2)) ∧ w'.cell? ⟨S.t.b, S.t.o + i * 11 + 6, none⟩ = some (.int .i64 (f 3)) ∧ w'.cell? ⟨S.t.b, S.t.o + i * 11 + 7, none⟩ = some (.int .i64 (f 4)) ∧ w'.cell? ⟨S.t.b, S.t.o + i * 11 + 8, none⟩ = some (.int .i64 (f 5)) ∧ w'.cell? ⟨S.t.b, S.t.o + i * 11 + 9, none⟩ = some (.int .i64 (f 6)) ∧ w'.cell? ⟨S.t.b, S.t.o + i * 11 + 10, none⟩ = some (.int .i64 (f 7))) from fun w' hb => by
        obtain ⟨k0, k1, k2, k3, k4, k5, k6, k7, k8, k9, k10⟩ := HQL.out
        exact ⟨(hb.cell hbs).trans k0, (hb.cell hbs).trans k1, (hb.cell hbs).trans k2, (hb.cell hbs).trans k3, (hb.cell hbs).trans k4, (hb.cell hbs).trans k5, (hb.cell hbs).trans k6, (hb.cell hbs).trans k7, (hb.cell hbs).trans k8, (hb.cell hbs).trans k9, (hb.cell hbs).trans k10⟩)
      obtain ⟨q0, q1, q2, q3, q4, q5, q6, q7, q8, q9, q10⟩ := hql
      rw [hsp] at c1
      have HC1 := Lib.hid (show ∀ w', Below wr.heap.size wr w' → w'.cell? ⟨Z, 1, none⟩ = some (.slice (some ⟨S.t.b, S.t.o, none⟩) nT S.t.c) from fun w' hb => (hb.cell HQ.out.2.1.lt).trans c1)
      have HSt := Lib.hid (show ∀ w', Below wr.heap.size wr w' → (Below w.heap.size w w' ∧ RowAt w' Z 26 #[.int .i64 x.res, .slice S.t.sp nT S.t.c, .slice S.m.sp nM S.m.c, .slice S.e.sp nE S.e.c] ∧ w'.ownsRow (Z + 1) 49 4 (.slice sp4 N cap4) N (rowsOf (termV x L) N)) from fun w' hb => ⟨HQ.out.1.trans (hb.mono HQ.out.1.size), HQ.out.2.1.new hb, own_below HQ.out.2.2 hb (Nat.le_refl _)⟩)
      have hi3 : (i : Int) < (nT : Int) := by omega
      have hi4 : (i : Int) < 32 := by omega
      clear hcs h8 hf ha0 ha1 ha2 htv hsp hbs HIw
      go_upto_region 9 with (first
        | (go_at_call 17; refine (dOf_any a0 a1 a2 f off _).mono ?_; rintro e w5 ⟨rfl, b5⟩; have H5 := Lib.hid b5; clear b5)
        | fail)
      generalize hw6 : World.alloc _ _ = w6
      have H6 := Lib.hid (show Below wr.heap.size wr w6 ∧ RowAt w6 w5.heap.size 49 #[.int .i64 a0, .int .i64 a2, .int .i64 off, .int .i64 0] by rw [← hw6]; exact ⟨H5.out.trans (((Below.refl _ _).alloc (Nat.le_refl _) _).mono H5.out.size), RowAt.mk _ _ _⟩)
      obtain ⟨D, hD⟩ : ∃ D, D = w5.heap.size := ⟨_, rfl⟩
      rw [← hD] at H6 ⊢
      clear hw6 hD H5 q0 q1 q2 q3 q4 q5 q6 q7 q8 q9 q10 c1
      obtain ⟨q0, -, q2, -, -, -, -, -, -, -, -⟩ := HQA.out _ H6.out.1
      have c1 := HC1.out _ H6.out.1
      have t0 : w6.cell? ⟨D, 0, none⟩ = some (.int .i64 a0) := H6.out.2.cell 0
      have t1 : w6.cell? ⟨D, 1, none⟩ = some (.int .i64 a2) := H6.out.2.cell 1
      have t2 : w6.cell? ⟨D, 2, none⟩ = some (.int .i64 off) := H6.out.2.cell 2
      have t3 : w6.cell? ⟨D, 3, none⟩ = some (.int .i64 0) := H6.out.2.cell 3
      go_quiet (fail)
      clear q0 q2 c1 t0 t1 t2 t3
      generalize hwd : World.drewN _ _ = wd
      have H7 := Lib.hid (show Below wr.heap.size wr wd by rw [← hwd]; exact below_dn H6.out.1 _)
      clear hwd H6
      have HYi := HY.out i hi2
      have hdt : decide ((i : Int) < (nT : Int)) = true := decide_eq_true hi3
      rw [hdt, Bool.and_true] at HYi
      have hls := lst_succ y i
      rw [HYi] at hls
      have HHs := Lib.hid (show ∀ wx, _ from fun wx => has10_any s (i : Int) wx)
      rw [hasB_nat s i hi2] at HHs
      cases hsb : s.getLsbD i
      case false =>
        rw [hsb] at HHs hls
        have HLS := Lib.hid hls
        clear hls hsb HYi hdt
        go_wp2_with (first
          | (go_at_call 18; refine (HHs.out _).mono ?_; rintro e w8 ⟨rfl, rfl⟩)
          | fail)
        go_roundg g1
        case measure => omega
        case rel => exact ⟨i + 1, by omega, by go_num, by rw [HLS.out]; rfl, HSt.out _ H7.out⟩
      case true =>
        rw [hsb] at HHs hls
        rw [hsb] at HYi
        have HLS := Lib.hid hls
        obtain ⟨hkl, hkg⟩ := lst_at hi2 HYi
        rw [← HL.out] at hkl hkg
        rw [HNN.out] at hkl
        obtain ⟨S4, e4, h4, at4⟩ := own_rows HQ.out.2.2 (fun _ _ => rfl) (by have := HL32.out; omega)
        obtain ⟨hp4, hb4, hl4, -⟩ := h4 (by omega)
        have hs4 : sp4 = some ⟨S4.b, S4.o, none⟩ := by injection e4 with e4; rw [e4, hp4]
        have ha4 := at4 _ hkl
        rw [HTV.out _ hkg] at ha4
        have HS4 := Lib.hid hs4
        have HL4 := Lib.hid (show ∀ w', Below wr.heap.size wr w' → (w'.cell? ⟨S4.b, S4.o + (lst y i).length * 4, none⟩ = some (.int .i64 a0) ∧ w'.cell? ⟨S4.b, S4.o + (lst y i).length * 4 + 1, none⟩ = some (.int .i64 a2) ∧ w'.cell? ⟨S4.b, S4.o + (lst y i).length * 4 + 2, none⟩ = some (.int .i64 0) ∧ w'.cell? ⟨S4.b, S4.o + (lst y i).length * 4 + 3, none⟩ = some (.int .i64 0)) from fun w' hb =>
          ⟨(hb.cell hl4).trans (ha4 0 _ rfl), (hb.cell hl4).trans (ha4 1 _ rfl), (hb.cell hl4).trans (ha4 2 _ rfl), (hb.cell hl4).trans (ha4 3 _ rfl)⟩)
        have HKN := Lib.hid (show ((lst y i).length : Int) < (N : Int) by omega)
        clear hls hsb HYi hdt hkl hkg e4 h4 at4 hp4 hb4 hl4 hs4 ha4
        go_upto_region 12 with (first
          | (go_at_call 18; refine (HHs.out _).mono ?_; rintro e w8 ⟨rfl, rfl⟩)
          | fail)
        refine wp_region_held_drew (S := fun w' => Below wr.heap.size wr w') (by kernel_rfl) (below_dn H7.out 1) (fun hS => ?_)
        refine wpAnyH_take (i := 0) (oi := { dst := some 54, op := .move (.tmp 8), type := 3, pos := "law.go:76", after := #[], guard := none }) (v := ?_) rfl (by kernel_rfl) (by kernel_rfl) (by kernel_rfl) (fun _ _ _ h => h) (Or.inl ⟨by rfl, ?_⟩) hS ?_
        rotate_left 1
        · intro w hw; obtain s0 := hw; go_simp; try (with_reducible rfl)
        simp only [Act.put, List.setIfInBounds_toArray, List.set_cons_zero, List.set_cons_succ]
        refine wpAnyH_take (i := 1) (oi := { dst := some 55, op := .move (.tmp 7), type := 46, pos := "law.go:76", after := #[], guard := none }) (v := ?_) rfl (by kernel_rfl) (by kernel_rfl) (by kernel_rfl) (fun _ _ _ h => h) (Or.inl ⟨by rfl, ?_⟩) hS ?_
        rotate_left 1
        · intro w hw; obtain s0 := hw; go_simp; try (with_reducible rfl)
        simp only [Act.put, List.setIfInBounds_toArray, List.set_cons_zero, List.set_cons_succ]
        refine wpAnyH_take (i := 2) (oi := { dst := some 56, op := .call { callee := .builtin .len, args := #[.tmp 55], argTypes := #[46] }, type := 3, pos := "law.go:76", after := #[{ on := 1, ground := .data }], guard := none }) (v := ?_) rfl (by kernel_rfl) (by kernel_rfl) (by kernel_rfl) (fun _ _ _ h => h) (Or.inl ⟨by rfl, ?_⟩) hS ?_
        rotate_left 1
        · intro w hw; obtain s0 := hw; go_simp; try (with_reducible rfl)
        simp only [Act.put, List.setIfInBounds_toArray, List.set_cons_zero, List.set_cons_succ]
        refine wpAnyH_take (i := 3) (oi := { dst := some 57, op := .binOp .geq 3 (.tmp 54) (.tmp 56) 3, type := 4, pos := "law.go:76", after := #[{ on := 0, ground := .data }, { on := 2, ground := .data }], guard := none }) (v := (.bool false)) rfl (by kernel_rfl) (by kernel_rfl) (by kernel_rfl) (fun _ _ _ h => h) (Or.inl ⟨by rfl, ?_⟩) hS ?_
        · intro w hw; obtain s0 := hw; have k0 := HKN.out; have k1 : (lst y i).length < N := (by omega); go_simp; try (with_reducible rfl)
        simp only [Act.put, List.setIfInBounds_toArray, List.set_cons_zero, List.set_cons_succ]
        refine wpAnyH_take (i := 4) (oi := { dst := some 58, op := .move (.tmp 57), type := 4, pos := "law.go:76", after := #[{ on := 3, ground := .data }], guard := none }) (v := ?_) rfl (by kernel_rfl) (by kernel_rfl) (by kernel_rfl) (fun _ _ _ h => h) (Or.inl ⟨by rfl, ?_⟩) hS ?_
        rotate_left 1
        · intro w hw; obtain s0 := hw; go_simp; try (with_reducible rfl)
        simp only [Act.put, List.setIfInBounds_toArray, List.set_cons_zero, List.set_cons_succ]
        refine wpAnyH_take (i := 5) (oi := { dst := some 59, op := .move (.tmp 7), type := 46, pos := "law.go:76", after := #[{ on := 4, ground := .guard }], guard := some (4, false) }) (v := ?_) rfl (by kernel_rfl) (by kernel_rfl) (by kernel_rfl) (fun _ _ _ h => h) (Or.inl ⟨by rfl, ?_⟩) hS ?_
        rotate_left 1
        · intro w hw; obtain s0 := hw; go_simp; try (with_reducible rfl)
        simp only [Act.put, List.setIfInBounds_toArray, List.set_cons_zero, List.set_cons_succ]
        refine wpAnyH_take (i := 6) (oi := { dst := some 60, op := .move (.tmp 8), type := 3, pos := "law.go:76", after := #[{ on := 4, ground := .guard }], guard := some (4, false) }) (v := ?_) rfl (by kernel_rfl) (by kernel_rfl) (by kernel_rfl) (fun _ _ _ h => h) (Or.inl ⟨by rfl, ?_⟩) hS ?_
        rotate_left 1
        · intro w hw; obtain s0 := hw; go_simp; try (with_reducible rfl)
        simp only [Act.put, List.setIfInBounds_toArray, List.set_cons_zero, List.set_cons_succ]
        refine wpAnyH_take (i := 7) (oi := { dst := some 61, op := .indexAddr 46 (.tmp 59) (.tmp 60), type := 0, pos := "law.go:76", after := #[{ on := 5, ground := .data }, { on := 6, ground := .data }, { on := 4, ground := .guard }], guard := some (4, false) }) (v := ?_) rfl (by kernel_rfl) (by kernel_rfl) (by kernel_rfl) (fun _ _ _ h => h) (Or.inl ⟨by rfl, ?_⟩) hS ?_
        rotate_left 1
        · intro w hw; obtain s0 := hw; have k0 := HKN.out; rw [HS4.out]; go_simp; try (with_reducible rfl)
        simp only [Act.put, List.setIfInBounds_toArray, List.set_cons_zero, List.set_cons_succ]
        refine wpAnyH_take (i := 8) (oi := { dst := some 62, op := .load 49 (.tmp 61), type := 49, pos := "law.go:76", after := #[{ on := 7, ground := .data }, { on := 4, ground := .guard }], guard := some (4, false) }) (v := ?_) rfl (by kernel_rfl) (by kernel_rfl) (by kernel_rfl) (fun _ _ _ h => h) (Or.inl ⟨by rfl, ?_⟩) hS ?_
        rotate_left 1
        · intro w hw; obtain s0 := hw; obtain ⟨k0, k1, k2, k3⟩ := HL4.out _ hw; go_simp; try (with_reducible rfl)
        simp only [Act.put, List.setIfInBounds_toArray, List.set_cons_zero, List.set_cons_succ]
        refine wpAnyH_take (i := 9) (oi := { dst := some 63, op := .fieldAddr 26 (.tmp 3) 1, type := 0, pos := "law.go:76", after := #[{ on := 4, ground := .guard }], guard := some (4, false) }) (v := ?_) rfl (by kernel_rfl) (by kernel_rfl) (by kernel_rfl) (fun _ _ _ h => h) (Or.inl ⟨by rfl, ?_⟩) hS ?_
        rotate_left 1
        · intro w hw; obtain s0 := hw; go_simp; try (with_reducible rfl)
        simp only [Act.put, List.setIfInBounds_toArray, List.set_cons_zero, List.set_cons_succ]
        refine wpAnyH_take (i := 10) (oi := { dst := some 64, op := .load 22 (.tmp 63), type := 22, pos := "law.go:76", after := #[{ on := 9, ground := .data }, { on := 4, ground := .guard }], guard := some (4, false) }) (v := ?_) rfl (by kernel_rfl) (by kernel_rfl) (by kernel_rfl) (fun _ _ _ h => h) (Or.inl ⟨by rfl, ?_⟩) hS ?_
        rotate_left 1
        · intro w hw; obtain s0 := hw; have k0 := HC1.out _ hw; go_simp; try (with_reducible rfl)
        simp only [Act.put, List.setIfInBounds_toArray, List.set_cons_zero, List.set_cons_succ]
        refine wpAnyH_take (i := 11) (oi := { dst := some 65, op := .move (.tmp 9), type := 3, pos := "law.go:76", after := #[{ on := 4, ground := .guard }], guard := some (4, false) }) (v := ?_) rfl (by kernel_rfl) (by kernel_rfl) (by kernel_rfl) (fun _ _ _ h => h) (Or.inl ⟨by rfl, ?_⟩) hS ?_
        rotate_left 1
        · intro w hw; obtain s0 := hw; go_simp; try (with_reducible rfl)
        simp only [Act.put, List.setIfInBounds_toArray, List.set_cons_zero, List.set_cons_succ]
        refine wpAnyH_take (i := 12) (oi := { dst := some 66, op := .indexAddr 22 (.tmp 64) (.tmp 65), type := 0, pos := "law.go:76", after := #[{ on := 10, ground := .data }, { on := 11, ground := .data }, { on := 4, ground := .guard }], guard := some (4, false) }) (v := ?_) rfl (by kernel_rfl) (by kernel_rfl) (by kernel_rfl) (fun _ _ _ h => h) (Or.inl ⟨by rfl, ?_⟩) hS ?_
        rotate_left 1
        · intro w hw; obtain s0 := hw; go_simp; try (with_reducible rfl)
        simp only [Act.put, List.setIfInBounds_toArray, List.set_cons_zero, List.set_cons_succ]
        refine wpAnyH_take (i := 13) (oi := { dst := some 67, op := .load 53 (.tmp 66), type := 53, pos := "law.go:76", after := #[{ on := 12, ground := .data }, { on := 4, ground := .guard }], guard := some (4, false) }) (v := ?_) rfl (by kernel_rfl) (by kernel_rfl) (by kernel_rfl) (fun _ _ _ h => h) (Or.inl ⟨by rfl, ?_⟩) hS ?_
        rotate_left 1
        · intro w hw; obtain s0 := hw; obtain ⟨k0, k1, k2, k3, k4, k5, k6, k7, k8, k9, k10⟩ := HQA.out _ hw; go_simp; try (with_reducible rfl)
        simp only [Act.put, List.setIfInBounds_toArray, List.set_cons_zero, List.set_cons_succ]
        refine wpAnyH_ready (rs := [14]) (by kernel_rfl) (by simp) (AllReadyH.cons (o := { dst := some 68, op := .call { callee := .value (.func 17), args := #[.tmp 67, .const (.int .i64 0)], argTypes := #[53, 3] }, type := 49, pos := "law.go:76", after := #[{ on := 13, ground := .data }, { on := 4, ground := .chain }, { on := 4, ground := .guard }], guard := some (4, false) }) rfl (fun K hK => ?_) AllReadyH.nil)
        go_simp
        go_at_call 17
        refine (dOf_any a0 a1 a2 f 0 _).mono ?_
        rintro e w8 ⟨rfl, b8⟩
        have H8 := Lib.hid (show Below wr.heap.size wr w8 from (below_dn H7.out 1).trans (b8.mono (below_dn H7.out 1).size))
        clear b8
        try dsimp only
        refine hK.out _ _ H8.out (fun hHeld => ?_)
        clear hK K
        try simp only [Act.put, List.setIfInBounds_toArray, List.set_cons_zero, List.set_cons_succ]
        refine wpAnyH_take (i := 15) (oi := { dst := some 69, op := .binOp .neq 49 (.tmp 62) (.tmp 68) 49, type := 4, pos := "law.go:76", after := #[{ on := 8, ground := .data }, { on := 14, ground := .data }, { on := 4, ground := .guard }], guard := some (4, false) }) (v := ?_) rfl (by kernel_rfl) (by kernel_rfl) (by kernel_rfl) (fun _ _ _ h => h) (Or.inl ⟨by rfl, ?_⟩) H8.out ?_
        rotate_left 1
        · intro w hw; obtain s0 := hw; go_simp; try (with_reducible rfl)
        simp only [Act.put, List.setIfInBounds_toArray, List.set_cons_zero, List.set_cons_succ]
        refine wpAnyH_take (i := 16) (oi := { dst := some 70, op := .pick (.tmp 58) (.const (.bool true)) (.tmp 69), type := 4, pos := "law.go:76", after := #[{ on := 4, ground := .data }, { on := 15, ground := .data }], guard := none }) (v := ?_) rfl (by kernel_rfl) (by kernel_rfl) (by kernel_rfl) (fun _ _ _ h => h) (Or.inl ⟨by rfl, ?_⟩) H8.out ?_
        rotate_left 1
        · intro w hw; obtain s0 := hw; go_simp; try (with_reducible rfl)
        simp only [Act.put, List.setIfInBounds_toArray, List.set_cons_zero, List.set_cons_succ]
        refine wpAnyH_done (by kernel_rfl) ?_ _

        go_wp2
        go_roundg g1
        case measure => omega
        case rel =>
          have hl := lst_len y i
          have h2 : (lst y (i + 1)).length = (lst y i).length + 1 := by rw [HLS.out]; simp
          have h3 := wrap_succ (show (lst y i).length < 100 by omega)
          exact ⟨i + 1, by omega, by go_num, by rw [h2]; exact h3, HSt.out _ H8.out⟩
end Go.Proofs.YtcipkkeegbfaeaaDoor
