/- Several texts in one: NP, NO, NR, Post, VO. -/
import Derived.Test.YtihomapbncnhaaaDoorPk15
import Derived.Carry
import Derived.OpenVars
import Derived.ProofKit
import Derived.OpenShut
import Derived.Test.YtihomapbncnhaaaDoorRows
import Derived.Test.YtihomapbncnhaaaDoorPk02
import Derived.WalkKit
import Derived.Lib.SmallJoins
import Derived.Deep.Slices
import Derived.Deep.Strs
/- A set that asks for more than all time: some task of it may be late. -/
namespace Go.Proofs.YtihomapbncnhaaaDoor
open Go.RowKit

theorem smK_scale {p : Nat → Bool} {g h : Nat → Int} {R m : Int} : ∀ n, (∀ i, i < n → p i = true → g i * R ≤ m * h i) → smK p g n * R ≤ m * smK p h n
  | 0, _ => by simp [smK]
  | n + 1, H => by
    have ih := smK_scale n fun i hi hp => H i (by omega) hp
    unfold smK
    split
    · rename_i hp
      have := H n (by omega) hp
      rw [Int.add_mul, Int.mul_add]
      omega
    · exact ih
theorem ceil_ge {t p : Int} (ht : 0 ≤ t) (hp : 0 < p) : t ≤ (t + p - 1) / p * p := by
  have q := quo_bds (a := t + p - 1) (b := p) (by omega) hp
  omega
theorem jI_ge {p t : Int} (ht : 0 ≤ t) (hp : 0 < p) : t ≤ jI p 0 t * p := by
  have := ceil_ge ht hp
  unfold jI
  rw [if_neg (by omega), Int.sub_zero]
  exact this
theorem over_late {x : Img} (hr : rightB x = true) {s : BitVec 32} (hp : 0 < rdA x s) (hl : rdA x s ≤ 16777216) (hov : ovB (exA x s) = true) : 0 ≤ mdI x (wthF x s) := by
  have hG := rightB_good hr
  have hn := hG.n16
  obtain ⟨p, hpe, hI⟩ := exA_good hr hp hl
  rw [hpe, over_iff hI hp] at hov
  have hov := of_decide_eq_true hov
  unfold mdI
  cases hm : mdBad x (wthF x s) with
  | some b => simp
  | none =>
    exfalso
    unfold mdBad at hm
    have hall := List.find?_eq_none.1 hm
    have key : ∀ k, k ≤ x.tasks.length → exS x s (rdA x s) k ≤ rdA x s := by
      intro k
      induction k with
      | zero => intro _; unfold exS smK; omega
      | succ k ih =>
        intro hk
        by_cases hb : s.getLsbD k = true
        · have hy : (wthF x s).getLsbD k = true := by rw [wthF_bit _ _ _ (by omega)]; simp [hb]; omega
          have ht : tB (mdR x (wthF x s) k) = true := by
            have := hall k ((mem_lst _ _ _).2 ⟨by omega, hy⟩)
            simpa using this
          unfold mdR rspF at ht
          obtain ⟨o1, o2⟩ := ownF_rng hG (wthF x s) (ceilF x (wthF x s)) (show k < x.tasks.length by omega)
          have hdl := hG.dl k (by omega)
          have hdp := dl_per hr k (by omega)
          have hco := hG.cost k (by omega)
          have hper := hG.per k (by omega)
          have hgt := good_tm hG (L := aheadL x (wthF x s) k) fun i hi => (aheadL_lt hi).1
          have hln : (tmL x (aheadL x (wthF x s) k)).length ≤ 20 := by rw [tmL_len]; have := aheadL_len hG (wthF x s) k; omega
          have hff := fun (t : Int) (h1 : 1 ≤ t) (h2 : t ≤ 70000) => good_ff (own := ownF x (wthF x s) (ceilF x (wthF x s)) k) hgt hln (by omega) (by omega) h1 h2
          have sp := (lookR_spec (own := ownF x (wthF x s) (ceilF x (wthF x s)) k) (most := (x.t k).dl) (L := tmL x (aheadL x (wthF x s) k)) (by omega) (fun t h1 h2 => ⟨_, hff t h1 (by omega)⟩)).1
          cases hlo : lookR (ownF x (wthF x s) (ceilF x (wthF x s)) k) (x.t k).dl (tmL x (aheadL x (wthF x s) k)) with
          | none => rw [hlo] at ht; cases ht
          | some ab =>
            obtain ⟨R, b⟩ := ab
            obtain ⟨s1, s2, ⟨n, s3, s4⟩, -⟩ := sp R b hlo
            rw [if_neg (by omega)] at s1
            have hR1 : 1 ≤ R := by omega
            rw [hff R hR1 (by omega)] at s3
            have s3 := Option.some.inj s3
            have hok := good_ok hgt hln hR1 (show R ≤ 70000 by omega)
            rw [valL_eq hok.1, aheadL, Nat.min_eq_left (by omega), sum_lst] at s3
            have hb0 := (blkF_rng hG (wthF x s) (ceilF x (wthF x s)) (k : Int)).1
            have hown : (x.t k).cost ≤ ownF x (wthF x s) (ceilF x (wthF x s)) k := by unfold ownF; omega
            have e1 : smK (wthF x s).getLsbD (fun i => tmN (tmOf x i) R) k = smK s.getLsbD (fun i => tmN (tmOf x i) R) k := smK_ext k (fun i hi => by rw [wthF_bit _ _ _ (by omega)]; simp; omega) fun _ _ _ => rfl
            rw [e1] at s3
            have e2 : exS x s (rdA x s) k * R ≤ rdA x s * smK s.getLsbD (fun i => tmN (tmOf x i) R) k := by
              unfold exS
              refine smK_scale k fun i hi hbi => ?_
              have pi := hG.per i (by omega)
              have ci := hG.cost i (by omega)
              have gt : GoodT (tmOf x i) := good_tm hG (L := [i]) (fun j hj => by simp at hj; omega) _ (by simp [tmL])
              have hw := (gt.work hR1 (show R ≤ 70000 by omega)).1
              show (x.t i).cost * (rdA x s / (x.t i).per) * R ≤ rdA x s * tmN (tmOf x i) R
              rw [tmN_eq hw]
              show (x.t i).cost * (rdA x s / (x.t i).per) * R ≤ rdA x s * (jI (x.t i).per 0 R * (x.t i).cost + 0)
              obtain ⟨d0, d1, d2⟩ := div_pos_of hp (show 0 < (x.t i).per by omega) (rdA_dvd hG hp (by omega) hbi)
              have hj := jI_ge (show 0 ≤ R by omega) (show 0 < (x.t i).per by omega)
              have h3 := Int.mul_le_mul_of_nonneg_left hj (show 0 ≤ rdA x s / (x.t i).per by omega)
              have h4 : rdA x s / (x.t i).per * (jI (x.t i).per 0 R * (x.t i).per) = rdA x s * jI (x.t i).per 0 R := by
                rw [Int.mul_comm (jI _ _ _), ← Int.mul_assoc, d2]
              rw [h4] at h3
              have h5 := Int.mul_le_mul_of_nonneg_left h3 (show 0 ≤ (x.t i).cost by omega)
              rw [Int.add_zero, Int.mul_assoc]
              have h6 : (x.t i).cost * (rdA x s * jI (x.t i).per 0 R) = rdA x s * (jI (x.t i).per 0 R * (x.t i).cost) := by
                rw [Int.mul_comm (x.t i).cost, Int.mul_assoc]
              omega
            have e3 : exS x s (rdA x s) (k + 1) = exS x s (rdA x s) k + (x.t k).cost * (rdA x s / (x.t k).per) := by
              show (if s.getLsbD k = true then _ else _) = _
              rw [if_pos hb]
              rfl
            obtain ⟨d0, d1, d2⟩ := div_pos_of hp (show 0 < (x.t k).per by omega) (rdA_dvd hG hp (by omega) hb)
            have e4 : (x.t k).cost * (rdA x s / (x.t k).per) * R ≤ rdA x s * (x.t k).cost := by
              have h3 := Int.mul_le_mul_of_nonneg_left (show R ≤ (x.t k).per by omega) (show 0 ≤ rdA x s / (x.t k).per by omega)
              rw [d2] at h3
              have h5 := Int.mul_le_mul_of_nonneg_left h3 (show 0 ≤ (x.t k).cost by omega)
              rw [Int.mul_assoc, Int.mul_comm (rdA x s)]
              exact h5
            have e5 : exS x s (rdA x s) (k + 1) * R ≤ rdA x s * R := by
              rw [e3, Int.add_mul]
              have h7 : (x.t k).cost + smK s.getLsbD (fun i => tmN (tmOf x i) R) k ≤ R := by omega
              have h8 := Int.mul_le_mul_of_nonneg_left h7 (show 0 ≤ rdA x s by omega)
              rw [Int.mul_add] at h8
              omega
            exact Int.le_of_mul_le_mul_right e5 (by omega)
        · have e3 : exS x s (rdA x s) (k + 1) = exS x s (rdA x s) k := by
            show (if s.getLsbD k = true then _ else _) = _
            rw [if_neg hb]
            rfl
          rw [e3]
          exact ih (by omega)
    have := key _ (Nat.le_refl _)
    omega
theorem low_pre (s : BitVec 32) (k : Nat) (_hk : k < 32) : (w32 (pre s.getLsbD k) + w32 (1#32 <<< k)) % (4294967296 : Int) = w32 (pre s.getLsbD k ||| 1#32 <<< k) := by
  rw [add32]
  congr 1
  refine BitVec.add_eq_or_of_and_eq_zero _ _ ?_
  apply BitVec.eq_of_getLsbD_eq
  intro i hi
  rw [BitVec.getLsbD_and, pre_bit _ _ _ hi, one_bit _ _ hi]
  by_cases h : i < k
  · have : ¬ i = k := by omega
    simp [this]
  · simp [h]
end Go.Proofs.YtihomapbncnhaaaDoor
/- The walk of LoadRounds. -/
namespace Go.Proofs.YtihomapbncnhaaaDoor
open Go.RowKit

set_option maxHeartbeats 16000000 in
set_option maxRecDepth 100000 in
theorem law_rounds37 {w : World} {V : Nat → Prop} {x : Img} {S : ImgS} (h : ImgAt w V x S) (ht : Tab w) (s : BitVec 32) :
    Calls Tryd.prog 5 #[.agg #[.int .i64 x.res, .slice S.t.sp x.tasks.length S.t.c, .slice S.m.sp x.modes.length S.m.c, .slice S.e.sp x.edges.length S.e.c], .int .u32 (w32 s)] w fun e w' => e = .returned (.bool true) ∧ Below w.heap.size w w' := by
  have hp := ht.pos
  have HGr := Lib.hid (show ∀ wx, Below w.heap.size w wx → _ from fun wx hb => great10_any (h.new hb))
  have HRi := Lib.hid (show ∀ wx, Below w.heap.size w wx → _ from fun wx hb => rRight_any (h.new hb))
  have HRd := Lib.hid (show ∀ wx, Below w.heap.size w wx → _ from fun wx hb => ldRound_any (h.new hb) (ht.below hp hb) s)
  rw [show rdK x (tasksL x s) (tasksL x s).length = rdA x s from rfl] at HRd
  have HAl := Lib.hid (show ∀ wx, Below w.heap.size w wx → _ from fun wx hb => l37alive_any wx (ht.below hp hb))
  have HTc := Lib.hid (show ∀ wx, Below w.heap.size w wx → ∀ i, i < x.tasks.length → _ from fun wx hb i hi => task_cells (h.new hb) hi)
  have HSp := Lib.hid (show 0 < x.tasks.length → S.t.sp = some ⟨S.t.b, S.t.o, none⟩ from fun h0 => (h.st.at_ h0).1)
  have HOf := Lib.hid (show GoodI x → ∀ wx, Below w.heap.size w wx → _ from fun hG wx hb => by have := ldOf_any (h.new hb) (ht.below hp hb) s; rw [(of_eq hG s).1] at this; exact this)
  have HDv := Lib.hid (show GoodI x → ∀ n : Int, 0 ≤ n → n ≤ 1099511627776 → ∀ wx, Below w.heap.size w wx → _ from fun hG n h0 h1 wx hb => l37div_any (h.new hb) hG s n h0 h1)
  obtain ⟨nT, hnT⟩ : ∃ n, x.tasks.length = n := ⟨_, rfl⟩
  obtain ⟨nM, hnM⟩ : ∃ n, x.modes.length = n := ⟨_, rfl⟩
  obtain ⟨nE, hnE⟩ : ∃ n, x.edges.length = n := ⟨_, rfl⟩
  rw [hnT, hnM, hnE] at HGr HRi HRd HOf HDv
  rw [hnT] at HTc HSp
  rw [hnT, hnM, hnE]
  have HN := Lib.hid hnT
  obtain ⟨Z, hZ⟩ : ∃ Z, Z = w.heap.size := ⟨_, rfl⟩
  clear h ht hp hnT hnM hnE
  go_enter Tryd.func5, Tryd.ntmps5
  go_upto_region 1 with fail
  rw [← hZ]
  generalize hw2 : World.alloc _ _ = w2
  have H2 := Lib.hid (show Below w.heap.size w w2 ∧ RowAt w2 Z 26 #[.int .i64 x.res, .slice S.t.sp nT S.t.c, .slice S.m.sp nM S.m.c, .slice S.e.sp nE S.e.c] by
    rw [← hw2, hZ]
    exact ⟨(Below.refl _ _).alloc (Nat.le_refl _) _, RowAt.mk _ _ _⟩)
  clear hw2 hZ
  obtain ⟨c0, c1, c2, c3⟩ := img_cells H2.out.2
  cases hg : greatI x
  case true =>
    rw [hg] at HGr
    clear hg
    go_wp2_with (first
      | (go_at_call 21; refine (HGr.out _ H2.out.1).mono ?_; rintro e w3 ⟨rfl, b3⟩; have H3 := Lib.hid (H2.out.1.trans (b3.mono H2.out.1.size)); clear b3)
      | fail)
    go_ret
    exact ⟨rfl, H3.out⟩
  case false =>
    rw [hg] at HGr
    clear hg
    cases hr : rightB x
    case false =>
      rw [hr] at HRi
      clear hr
      go_wp2_with (first
        | (go_at_call 21; refine (HGr.out _ H2.out.1).mono ?_; rintro e w3 ⟨rfl, b3⟩; have H3 := Lib.hid (And.intro (H2.out.1.trans (b3.mono H2.out.1.size)) (H2.out.2.new b3)); clear b3 c0 c1 c2 c3 HGr; obtain ⟨c0, c1, c2, c3⟩ := img_cells H3.out.2)
        | (go_at_call 22; refine (HRi.out _ H3.out.1).mono ?_; rintro e w4 ⟨rfl, b4⟩; have H4 := Lib.hid (H3.out.1.trans (b4.mono H3.out.1.size)); clear b4)
        | fail)
      go_ret
      exact ⟨rfl, H4.out⟩
    case true =>
      have hG := rightB_good hr
      have HG := Lib.hid hG
      have HOf2 := Lib.hid (HOf.out hG)
      have HDv2 := Lib.hid (HDv.out hG)
      have H16 := hG.n16
      have H1 := hG.n1
      have HM := Lib.hid (show 0 < rdA x s → ∀ i, i < x.tasks.length → s.getLsbD i = true → rdA x s % (x.t i).per = 0 from fun hp i hi hb => rdA_mod hG hp hi hb)
      have HLe := Lib.hid (show 0 < rdA x s → ∀ d : Int, 2 ≤ d → rdA x s % d = 0 → dvdB x s (rdA x s / d) = false from fun hp d hd hz => rdA_least hG hp hd hz)
      have HOn := Lib.hid (show someB s x.tasks.length = false → rdA x s = 1 from rdA_one hG)
      have HOr := Lib.hid (show ∀ k, k ≤ x.tasks.length → 0 ≤ ofK x s k ∧ ofK x s k ≤ 80000000 from fun k hk => by
        have hr : 0 ≤ ofK x s k ∧ ofK x s k ≤ (k : Int) * 5000000 := by
          unfold ofK
          exact smK_rng (by omega) _ fun i hi => by have := thF_eq hG (show i < x.tasks.length by omega); rw [← this.1]; exact this.2
        have hk2 : (k : Int) ≤ 16 := by omega
        omega)
      have hrg := rdA_rng x s
      rw [HN.out] at H16 H1 HM HOn HOr
      have hsp := HSp.out (by omega)
      rw [hsp] at HGr HRi HRd HOf2 HDv2 H2 c1
      rw [hsp]
      rw [hr] at HRi
      clear hr HOf HDv hG HSp hsp
      have hOA := HOr.out nT (Nat.le_refl _)
      have HOs := Lib.hid (show ∀ k, ofK x s (k + 1) = if s.getLsbD k = true then ofK x s k + (1000 * (x.t k).cost + (x.t k).per - 1) / (x.t k).per else ofK x s k from fun k => rfl)
      have HO0 := Lib.hid (show ofK x s 0 = 0 from rfl)
      obtain ⟨O, hO⟩ : ∃ O, ofK x s = O := ⟨_, rfl⟩
      rw [hO] at HOf2 HOr hOA HOs HO0
      have HSs := Lib.hid (show ∀ k, someB s (k + 1) = (someB s k || s.getLsbD k) from fun k => rfl)
      have HS0 := Lib.hid (show someB s 0 = false from rfl)
      obtain ⟨sm, hsm⟩ : ∃ O, someB s = O := ⟨_, rfl⟩
      rw [hsm] at HOn HSs HS0
      obtain ⟨rd, hrd⟩ : ∃ v, rdA x s = v := ⟨_, rfl⟩
      rw [hrd] at HRd HM HLe HOn hrg
      obtain ⟨OA, hOn⟩ : ∃ v, O nT = v := ⟨_, rfl⟩
      rw [hOn] at HOf2 hOA
      have HOA := Lib.hid hOn
      clear hO hsm hrd hOn
      cases hok : decide (0 < rd)
      case false =>
        have h0 : rd = 0 := by have := of_decide_eq_false hok; omega
        rw [hok] at HRd
        have HZe := Lib.hid h0
        clear hok h0
        go_upto_region 5 with (first
          | (go_at_call 21; refine (HGr.out _ H2.out.1).mono ?_; rintro e w3 ⟨rfl, b3⟩; have H3 := Lib.hid (And.intro (H2.out.1.trans (b3.mono H2.out.1.size)) (H2.out.2.new b3)); clear b3 c0 c1 c2 c3 HGr; obtain ⟨c0, c1, c2, c3⟩ := img_cells H3.out.2)
          | (go_at_call 22; refine (HRi.out _ H3.out.1).mono ?_; rintro e w4 ⟨rfl, b4⟩; have H4 := Lib.hid (And.intro (H3.out.1.trans (b4.mono H3.out.1.size)) (H3.out.2.new b4)); clear b4 c0 c1 c2 c3 HRi; obtain ⟨c0, c1, c2, c3⟩ := img_cells H4.out.2)
          | (go_at_call 23; refine (HRd.out _ H4.out.1).mono ?_; rintro e w5 ⟨rfl, b5⟩; have H5 := Lib.hid (And.intro (H4.out.1.trans (b5.mono H4.out.1.size)) (H4.out.2.new b5)); clear b5 c0 c1 c2 c3 HRd; obtain ⟨c0, c1, c2, c3⟩ := img_cells H5.out.2)
          | fail)
        clear c0 c1 c2 c3 H2 H3 H4
        go_wp2
        go_loopg [7, 8, 9] nT (fun g v7 v8 v9 wr => ∃ k : Nat, k + g = nT ∧ v7 = .int .i64 (O k) ∧ v8 = .bool (sm k) ∧ v9 = .int .i64 (k : Nat) ∧ Aside (Below w.heap.size w wr ∧ RowAt wr Z 26 #[.int .i64 x.res, .slice (some ⟨S.t.b, S.t.o, none⟩) nT S.t.c, .slice S.m.sp nM S.m.c, .slice S.e.sp nE S.e.c]))
        case atStart => exact ⟨0, by omega, by rw [HO0.out], by rw [HS0.out], rfl, H5.out⟩
        case round =>
          obtain ⟨k, hkg, rfl, rfl, rfl, HQ⟩ := hrel
          clear H5
          obtain ⟨c0, c1, c2, c3⟩ := img_cells HQ.out.2
          cases gk with
          | zero =>
            obtain rfl : nT = k := by omega
            rw [HOA.out]
            clear hkg
            obtain ⟨OB, hOB⟩ : ∃ v, v = OA := ⟨_, rfl⟩
            have hne : (OB != OA) = false := by rw [hOB]; simp
            rw [← hOB] at HOf2
            clear hOB
            cases hsn : sm nT
            case false =>
              exfalso
              have := HOn.out hsn
              have := HZe.out
              omega
            case true =>
              have hz0 := HZe.out
              subst hz0
              clear hsn
              go_wp2_with (first
                | (go_at_call 25; refine (HOf2.out _ HQ.out.1).mono ?_; rintro e w8 ⟨rfl, b8⟩; have H8 := Lib.hid (And.intro (HQ.out.1.trans (b8.mono HQ.out.1.size)) (HQ.out.2.new b8)); clear b8 c0 c1 c2 c3 HOf2; obtain ⟨c0, c1, c2, c3⟩ := img_cells H8.out.2)
                | fail)
              go_loopg [11] 0 (fun g v11 wr => v11 = .int .i64 2 ∧ Aside (Below w.heap.size w wr ∧ RowAt wr Z 26 #[.int .i64 x.res, .slice (some ⟨S.t.b, S.t.o, none⟩) nT S.t.c, .slice S.m.sp nM S.m.c, .slice S.e.sp nE S.e.c]))
              case atStart => exact ⟨rfl, H8.out⟩
              case round =>
                obtain ⟨rfl, HW⟩ := hrel
                clear H8 c0 c1 c2 c3
                go_wp2_with (first
                  | (go_at_call 27; refine (HAl.out _ HW.out.1).mono ?_; rintro e w9 ⟨rfl, b9⟩; have H9 := Lib.hid (HW.out.1.trans (b9.mono HW.out.1.size)); clear b9)
                  | fail)
                go_ret
                exact ⟨rfl, H9.out⟩
          | succ g1 =>
            have hk : k < nT := by omega
            have e1 : (k : Int) < (nT : Int) := by omega
            have HH := Lib.hid (fun wx => has10_any s (k : Int) wx)
            rw [hasB_nat s k (by omega)] at HH
            have HOk := Lib.hid (HOs.out k)
            have HSk := Lib.hid (HSs.out k)
            have hO1 := HOr.out k (by omega)
            cases hb : s.getLsbD k
            case false =>
              rw [hb] at HH HOk HSk
              have HOk2 := Lib.hid (show O (k + 1) = O k from HOk.out.trans (if_neg (by decide)))
              have HSk2 := Lib.hid (show sm (k + 1) = sm k from HSk.out.trans (Bool.or_false _))
              clear hb HOk HSk
              go_wp2_with (first
                | (go_at_call 24; refine (HH.out _).mono ?_; rintro e w' ⟨rfl, rfl⟩)
                | fail)
              go_roundg g1
              case measure => omega
              case rel => exact ⟨k + 1, by omega, by rw [HOk2.out], by rw [HSk2.out], by go_num, HQ.out⟩
            case true =>
              rw [hb] at HH HOk HSk
              have HOk2 := Lib.hid (show O (k + 1) = O k + (1000 * (x.t k).cost + (x.t k).per - 1) / (x.t k).per from HOk.out.trans (if_pos rfl))
              have HSk2 := Lib.hid (show sm (k + 1) = true from HSk.out.trans (Bool.or_true _))
              have hmd : 0 < rd → rd % (x.t k).per = 0 := fun h => HM.out h k hk hb
              clear hb HOk HSk
              have hper := HG.out.per k (by have := HN.out; omega)
              have hcos := HG.out.cost k (by have := HN.out; omega)
              obtain ⟨k0, k1, k2, k3, k4, k5, k6, k7, k8, k9, k10⟩ := HTc.out _ HQ.out.1 k hk
              obtain ⟨p0, h0⟩ : ∃ v, (x.t k).per = v := ⟨_, rfl⟩
              obtain ⟨p1, h1⟩ : ∃ v, (x.t k).dl = v := ⟨_, rfl⟩
              obtain ⟨p2, h2⟩ : ∃ v, (x.t k).cost = v := ⟨_, rfl⟩
              obtain ⟨f, hf⟩ : ∃ f, lonF x k = f := ⟨_, rfl⟩
              rw [h0] at k0 hmd HOk2 hper
              rw [h1] at k1
              rw [h2] at k2 HOk2 hcos
              rw [hf] at k3 k4 k5 k6 k7 k8 k9 k10
              clear h0 h1 h2 hf
              go_upto_region 11 with (first
                | (go_at_call 24; refine (HH.out _).mono ?_; rintro e w' ⟨rfl, rfl⟩)
                | fail)
              obtain ⟨B, hB⟩ : ∃ B, B = _ := ⟨wr.heap.size, rfl⟩
              rw [← hB]
              generalize hw7 : World.alloc wr _ = w7
              have H7 := Lib.hid (show (Below w.heap.size w w7 ∧ RowAt w7 Z 26 #[.int .i64 x.res, .slice (some ⟨S.t.b, S.t.o, none⟩) nT S.t.c, .slice S.m.sp nM S.m.c, .slice S.e.sp nE S.e.c]) ∧ RowAt w7 B 59 #[.int .i64 p0, .int .i64 p1, .int .i64 p2, .int .i64 (f 0), .int .i64 (f 1), .int .i64 (f 2), .int .i64 (f 3), .int .i64 (f 4), .int .i64 (f 5), .int .i64 (f 6), .int .i64 (f 7)] by
                rw [← hw7]
                exact ⟨⟨below_alloc HQ.out.1 (Nat.le_refl _) _, row_keep HQ.out.2 _⟩, row_next _ _ hB.symm _ _⟩)
              clear hw7 hB c0 c1 c2 c3 k0 k1 k2 k3 k4 k5 k6 k7 k8 k9 k10
              have d0 : w7.cell? ⟨B, 0, none⟩ = some (.int .i64 p0) := H7.out.2.cell 0
              have d2 : w7.cell? ⟨B, 2, none⟩ = some (.int .i64 p2) := H7.out.2.cell 2
              have hz : ¬ p0 = 0 := by omega
              obtain ⟨q1, q2, -, -, -⟩ := quo_bds (a := 1000 * p2 + p0 - 1) (b := p0) (by omega) (by omega)
              have ht1 : (1000 * p2 + p0 - 1).tdiv p0 = (1000 * p2 + p0 - 1) / p0 := Int.tdiv_eq_ediv_of_nonneg (by omega)
              obtain ⟨qq, hqq⟩ : ∃ v, (1000 * p2 + p0 - 1) / p0 = v := ⟨_, rfl⟩
              rw [hqq] at q1 q2 ht1 HOk2
              have ht2 : rd.tmod p0 = 0 := by rw [Int.tmod_eq_emod_of_nonneg hrg.1]; rw [HZe.out]; exact Int.zero_emod _
              clear hmd hqq
              go_wp2
              go_roundg g1
              case measure => omega
              case rel => exact ⟨k + 1, by omega, by rw [HOk2.out], by rw [HSk2.out], by go_num, H7.out.1⟩
      case true =>
        have h0 : 0 < rd := of_decide_eq_true hok
        rw [hok] at HRd
        have HPo := Lib.hid h0
        clear hok
        go_upto_region 5 with (first
          | (go_at_call 21; refine (HGr.out _ H2.out.1).mono ?_; rintro e w3 ⟨rfl, b3⟩; have H3 := Lib.hid (And.intro (H2.out.1.trans (b3.mono H2.out.1.size)) (H2.out.2.new b3)); clear b3 c0 c1 c2 c3 HGr; obtain ⟨c0, c1, c2, c3⟩ := img_cells H3.out.2)
          | (go_at_call 22; refine (HRi.out _ H3.out.1).mono ?_; rintro e w4 ⟨rfl, b4⟩; have H4 := Lib.hid (And.intro (H3.out.1.trans (b4.mono H3.out.1.size)) (H3.out.2.new b4)); clear b4 c0 c1 c2 c3 HRi; obtain ⟨c0, c1, c2, c3⟩ := img_cells H4.out.2)
          | (go_at_call 23; refine (HRd.out _ H4.out.1).mono ?_; rintro e w5 ⟨rfl, b5⟩; have H5 := Lib.hid (And.intro (H4.out.1.trans (b5.mono H4.out.1.size)) (H4.out.2.new b5)); clear b5 c0 c1 c2 c3 HRd; obtain ⟨c0, c1, c2, c3⟩ := img_cells H5.out.2)
          | fail)
        clear c0 c1 c2 c3 H2 H3 H4
        go_wp2
        go_loopg [7, 8, 9] nT (fun g v7 v8 v9 wr => ∃ k : Nat, k + g = nT ∧ v7 = .int .i64 (O k) ∧ v8 = .bool (sm k) ∧ v9 = .int .i64 (k : Nat) ∧ Aside (Below w.heap.size w wr ∧ RowAt wr Z 26 #[.int .i64 x.res, .slice (some ⟨S.t.b, S.t.o, none⟩) nT S.t.c, .slice S.m.sp nM S.m.c, .slice S.e.sp nE S.e.c]))
        case atStart => exact ⟨0, by omega, by rw [HO0.out], by rw [HS0.out], rfl, H5.out⟩
        case round =>
          obtain ⟨k, hkg, rfl, rfl, rfl, HQ⟩ := hrel
          clear H5
          obtain ⟨c0, c1, c2, c3⟩ := img_cells HQ.out.2
          cases gk with
          | zero =>
            obtain rfl : nT = k := by omega
            rw [HOA.out]
            clear hkg
            obtain ⟨OB, hOB⟩ : ∃ v, v = OA := ⟨_, rfl⟩
            have hne : (OB != OA) = false := by rw [hOB]; simp
            rw [← hOB] at HOf2
            clear hOB
            have hpo := HPo.out
            cases hsn : sm nT
            case false =>
              have h1 : rd = 1 := HOn.out hsn
              subst h1
              go_wp2_with (first
                | (go_at_call 25; refine (HOf2.out _ HQ.out.1).mono ?_; rintro e w8 ⟨rfl, b8⟩; have H8 := Lib.hid (And.intro (HQ.out.1.trans (b8.mono HQ.out.1.size)) (HQ.out.2.new b8)); clear b8 c0 c1 c2 c3 HOf2; obtain ⟨c0, c1, c2, c3⟩ := img_cells H8.out.2)
                | fail)
              go_loopg [11] 0 (fun g v11 wr => v11 = .int .i64 2 ∧ Aside (Below w.heap.size w wr ∧ RowAt wr Z 26 #[.int .i64 x.res, .slice (some ⟨S.t.b, S.t.o, none⟩) nT S.t.c, .slice S.m.sp nM S.m.c, .slice S.e.sp nE S.e.c]))
              case atStart => exact ⟨rfl, H8.out⟩
              case round =>
                obtain ⟨rfl, HW⟩ := hrel
                clear H8 c0 c1 c2 c3
                go_wp2_with (first
                  | (go_at_call 27; refine (HAl.out _ HW.out.1).mono ?_; rintro e w9 ⟨rfl, b9⟩; have H9 := Lib.hid (HW.out.1.trans (b9.mono HW.out.1.size)); clear b9)
                  | fail)
                go_ret
                exact ⟨rfl, H9.out⟩
            case true =>
              clear hsn
              go_wp2_with (first
                | (go_at_call 25; refine (HOf2.out _ HQ.out.1).mono ?_; rintro e w8 ⟨rfl, b8⟩; have H8 := Lib.hid (And.intro (HQ.out.1.trans (b8.mono HQ.out.1.size)) (HQ.out.2.new b8)); clear b8 c0 c1 c2 c3 HOf2; obtain ⟨c0, c1, c2, c3⟩ := img_cells H8.out.2)
                | fail)
              go_loopg [11] 4198 (fun g v11 wr => ∃ i : Nat, i + g = 4198 ∧ v11 = .int .i64 ((i + 2 : Nat) : Int) ∧ Aside (Below w.heap.size w wr ∧ RowAt wr Z 26 #[.int .i64 x.res, .slice (some ⟨S.t.b, S.t.o, none⟩) nT S.t.c, .slice S.m.sp nM S.m.c, .slice S.e.sp nE S.e.c]))
              case atStart => exact ⟨0, by omega, rfl, H8.out⟩
              case round =>
                obtain ⟨i, hig, rfl, HW⟩ := hrel
                clear H8 c0 c1 c2 c3
                obtain ⟨c0, c1, c2, c3⟩ := img_cells HW.out.2
                cases gk with
                | zero =>
                  obtain rfl : i = 4198 := by omega
                  clear hig
                  go_wp2_with (first
                    | (go_at_call 27; refine (HAl.out _ HW.out.1).mono ?_; rintro e w9 ⟨rfl, b9⟩; have H9 := Lib.hid (HW.out.1.trans (b9.mono HW.out.1.size)); clear b9)
                    | fail)
                  go_ret
                  exact ⟨rfl, H9.out⟩
                | succ g2 =>
                  have hk2 : ((i + 2 : Nat) : Int) < 4200 := by omega
                  have hd2 : 2 ≤ ((i + 2 : Nat) : Int) := by omega
                  obtain ⟨d, hd⟩ : ∃ d : Int, ((i + 2 : Nat) : Int) = d := ⟨_, rfl⟩
                  have HD := Lib.hid hd
                  rw [hd] at hk2 hd2 ⊢
                  clear hd
                  have dz : ¬ d = 0 := by omega
                  have hLe := fun h => HLe.out HPo.out d hd2 h
                  have ht1 : rd.tmod d = rd % d := Int.tmod_eq_emod_of_nonneg hrg.1
                  have ht2 : rd.tdiv d = rd / d := Int.tdiv_eq_ediv_of_nonneg hrg.1
                  obtain ⟨q1, q2, -, -, -⟩ := quo_bds (a := rd) (b := d) hrg.1 (by omega)
                  have HDc := Lib.hid (HDv2.out (rd / d) q1 (by omega))
                  obtain ⟨m, hm⟩ : ∃ m, rd % d = m := ⟨_, rfl⟩
                  obtain ⟨q, hq⟩ : ∃ q, rd / d = q := ⟨_, rfl⟩
                  rw [hm] at hLe ht1
                  rw [hq] at hLe ht2 q1 q2 HDc
                  have hm2 : 0 ≤ m ∧ m < d := by rw [← hm]; exact ⟨Int.emod_nonneg _ dz, Int.emod_lt_of_pos _ (by omega)⟩
                  clear hm hq
                  by_cases hm0 : m = 0
                  · have hf := hLe hm0
                    rw [hf] at HDc
                    subst hm0
                    have HWq := Lib.hid (show IntKind.i64.wrap q = q by rw [IntKind.wrap_i64]; omega)
                    clear hLe hf
                    go_upto_region 19 with fail
                    clear c0 c1 c2 c3
                    have hHeld0 : Below w.heap.size w wr.drew ∧ RowAt wr.drew Z 26 #[.int .i64 x.res, .slice (some ⟨S.t.b, S.t.o, none⟩) nT S.t.c, .slice S.m.sp nM S.m.c, .slice S.e.sp nE S.e.c] := ⟨below_dn HW.out.1 1, HW.out.2⟩
                    refine wp_region_held_drew (S := fun w' => Below w.heap.size w w' ∧ RowAt w' Z 26 #[.int .i64 x.res, .slice (some ⟨S.t.b, S.t.o, none⟩) nT S.t.c, .slice S.m.sp nM S.m.c, .slice S.e.sp nE S.e.c]) (by kernel_rfl) hHeld0 (fun hS => ?_)
                    refine wpAnyH_take (i := 0) (oi := { dst := some 103, op := .move (.tmp 5), type := 3, pos := "law.go:43", after := #[], guard := none }) (v := (.int .i64 rd)) rfl (by kernel_rfl) (by kernel_rfl) (by kernel_rfl) (fun _ _ _ h => h) (Or.inl ⟨by rfl, ?_⟩) hS ?_
                    · intro w hw; obtain ⟨hb9, hs9⟩ := hw; go_simp; try (with_reducible rfl)
                    simp only [Act.put, List.setIfInBounds_toArray, List.set_cons_zero, List.set_cons_succ]
                    refine wpAnyH_take (i := 1) (oi := { dst := some 104, op := .move (.tmp 11), type := 3, pos := "law.go:43", after := #[], guard := none }) (v := (.int .i64 d)) rfl (by kernel_rfl) (by kernel_rfl) (by kernel_rfl) (fun _ _ _ h => h) (Or.inl ⟨by rfl, ?_⟩) hS ?_
                    · intro w hw; obtain ⟨hb9, hs9⟩ := hw; go_simp; try (with_reducible rfl)
                    simp only [Act.put, List.setIfInBounds_toArray, List.set_cons_zero, List.set_cons_succ]
                    refine wpAnyH_take (i := 2) (oi := { dst := some 105, op := .binOp .rem 3 (.tmp 103) (.tmp 104) 3, type := 3, pos := "law.go:43", after := #[{ on := 0, ground := .data }, { on := 1, ground := .data }], guard := none }) (v := (.int .i64 0)) rfl (by kernel_rfl) (by kernel_rfl) (by kernel_rfl) (fun _ _ _ h => h) (Or.inl ⟨by rfl, ?_⟩) hS ?_
                    · intro w hw; obtain ⟨hb9, hs9⟩ := hw; go_simp; try (with_reducible rfl)
                    simp only [Act.put, List.setIfInBounds_toArray, List.set_cons_zero, List.set_cons_succ]
                    refine wpAnyH_take (i := 3) (oi := { dst := some 106, op := .binOp .eql 3 (.tmp 105) (.const (.int .i64 0)) 3, type := 4, pos := "law.go:43", after := #[{ on := 2, ground := .data }], guard := none }) (v := (.bool true)) rfl (by kernel_rfl) (by kernel_rfl) (by kernel_rfl) (fun _ _ _ h => h) (Or.inl ⟨by rfl, ?_⟩) hS ?_
                    · intro w hw; obtain ⟨hb9, hs9⟩ := hw; go_simp; try (with_reducible rfl)
                    simp only [Act.put, List.setIfInBounds_toArray, List.set_cons_zero, List.set_cons_succ]
                    refine wpAnyH_take (i := 4) (oi := { dst := some 107, op := .move (.tmp 106), type := 4, pos := "law.go:43", after := #[{ on := 3, ground := .data }], guard := none }) (v := (.bool true)) rfl (by kernel_rfl) (by kernel_rfl) (by kernel_rfl) (fun _ _ _ h => h) (Or.inl ⟨by rfl, ?_⟩) hS ?_
                    · intro w hw; obtain ⟨hb9, hs9⟩ := hw; go_simp; try (with_reducible rfl)
                    simp only [Act.put, List.setIfInBounds_toArray, List.set_cons_zero, List.set_cons_succ]
                    refine wpAnyH_take (i := 5) (oi := { dst := some 108, op := .load 26 (.tmp 2), type := 26, pos := "law.go:43", after := #[{ on := 4, ground := .guard }], guard := some (4, true) }) (v := (.agg #[.int .i64 x.res, .slice (some ⟨S.t.b, S.t.o, none⟩) nT S.t.c, .slice S.m.sp nM S.m.c, .slice S.e.sp nE S.e.c])) rfl (by kernel_rfl) (by kernel_rfl) (by kernel_rfl) (fun _ _ _ h => h) (Or.inl ⟨by rfl, ?_⟩) hS ?_
                    · intro w hw; obtain ⟨hb9, hs9⟩ := hw; obtain ⟨c0, c1, c2, c3⟩ := img_cells hs9; go_simp; try (with_reducible rfl)
                    simp only [Act.put, List.setIfInBounds_toArray, List.set_cons_zero, List.set_cons_succ]
                    refine wpAnyH_take (i := 6) (oi := { dst := some 109, op := .move (.tmp 1), type := 31, pos := "law.go:43", after := #[{ on := 4, ground := .guard }], guard := some (4, true) }) (v := (.int .u32 (w32 s))) rfl (by kernel_rfl) (by kernel_rfl) (by kernel_rfl) (fun _ _ _ h => h) (Or.inl ⟨by rfl, ?_⟩) hS ?_
                    · intro w hw; obtain ⟨hb9, hs9⟩ := hw; go_simp; try (with_reducible rfl)
                    simp only [Act.put, List.setIfInBounds_toArray, List.set_cons_zero, List.set_cons_succ]
                    refine wpAnyH_take (i := 7) (oi := { dst := some 110, op := .move (.tmp 5), type := 3, pos := "law.go:43", after := #[{ on := 4, ground := .guard }], guard := some (4, true) }) (v := (.int .i64 rd)) rfl (by kernel_rfl) (by kernel_rfl) (by kernel_rfl) (fun _ _ _ h => h) (Or.inl ⟨by rfl, ?_⟩) hS ?_
                    · intro w hw; obtain ⟨hb9, hs9⟩ := hw; go_simp; try (with_reducible rfl)
                    simp only [Act.put, List.setIfInBounds_toArray, List.set_cons_zero, List.set_cons_succ]
                    refine wpAnyH_take (i := 8) (oi := { dst := some 111, op := .move (.tmp 11), type := 3, pos := "law.go:43", after := #[{ on := 4, ground := .guard }], guard := some (4, true) }) (v := (.int .i64 d)) rfl (by kernel_rfl) (by kernel_rfl) (by kernel_rfl) (fun _ _ _ h => h) (Or.inl ⟨by rfl, ?_⟩) hS ?_
                    · intro w hw; obtain ⟨hb9, hs9⟩ := hw; go_simp; try (with_reducible rfl)
                    simp only [Act.put, List.setIfInBounds_toArray, List.set_cons_zero, List.set_cons_succ]
                    refine wpAnyH_take (i := 9) (oi := { dst := some 112, op := .binOp .quo 3 (.tmp 110) (.tmp 111) 3, type := 3, pos := "law.go:43", after := #[{ on := 7, ground := .data }, { on := 8, ground := .data }, { on := 4, ground := .guard }], guard := some (4, true) }) (v := (.int .i64 q)) rfl (by kernel_rfl) (by kernel_rfl) (by kernel_rfl) (fun _ _ _ h => h) (Or.inl ⟨by rfl, ?_⟩) hS ?_
                    · intro w hw; obtain ⟨hb9, hs9⟩ := hw; have k9 := HWq.out; go_simp; try (with_reducible rfl)
                    simp only [Act.put, List.setIfInBounds_toArray, List.set_cons_zero, List.set_cons_succ]
                    refine wpAnyH_ready (rs := [10]) (by kernel_rfl) (by simp) (AllReadyH.cons (o := { dst := some 113, op := .call { callee := .value (.func 26), args := #[.tmp 108, .tmp 109, .tmp 112], argTypes := #[26, 31, 3] }, type := 4, pos := "law.go:43", after := #[{ on := 5, ground := .data }, { on := 6, ground := .data }, { on := 9, ground := .data }, { on := 4, ground := .chain }, { on := 4, ground := .guard }], guard := some (4, true) }) rfl (fun K hK => ?_) AllReadyH.nil)
                    go_simp
                    go_at_call 26
                    refine (HDc.out _ hHeld0.1).mono ?_
                    rintro e w8 ⟨rfl, b8⟩
                    have H8 := Lib.hid (And.intro (HW.out.1.trans ((below_dn (Below.refl _ _) 1).trans b8 |>.mono HW.out.1.size)) (HW.out.2.new ((below_dn (Below.refl _ _) 1).trans b8)))
                    clear b8
                    try dsimp only
                    refine hK.out _ _ H8.out (fun hHeld => ?_)
                    clear hK K
                    try simp only [Act.put, List.setIfInBounds_toArray, List.set_cons_zero, List.set_cons_succ]
                    refine wpAnyH_ready (rs := [11]) (by kernel_rfl) (by simp) (AllReadyH.cons (o := { dst := some 114, op := .pick (.tmp 107) (.tmp 113) (.const (.bool false)), type := 4, pos := "law.go:43", after := #[{ on := 4, ground := .data }, { on := 10, ground := .data }], guard := none }) rfl (fun K hK => ?_) AllReadyH.nil)
                    go_simp
                    refine hK.out _ _ H8.out (fun hHeld => ?_)
                    clear hK K
                    try simp only [Act.put, List.setIfInBounds_toArray, List.set_cons_zero, List.set_cons_succ]
                    refine wpAnyH_done (by kernel_rfl) ?_ _

                    go_wp2
                    go_roundg g2
                    case measure => omega
                    case rel => exact ⟨i + 1, by omega, by rw [← HD.out]; go_num, H8.out⟩
                  · clear hLe
                    go_upto_region 19 with fail
                    clear c0 c1 c2 c3
                    go_quiet (fail)
                    go_wp2
                    go_roundg g2
                    case measure => omega
                    case rel => exact ⟨i + 1, by omega, by rw [← HD.out]; go_num, below_dn HW.out.1 _, HW.out.2⟩
          | succ g1 =>
            have hk : k < nT := by omega
            have e1 : (k : Int) < (nT : Int) := by omega
            have HH := Lib.hid (fun wx => has10_any s (k : Int) wx)
            rw [hasB_nat s k (by omega)] at HH
            have HOk := Lib.hid (HOs.out k)
            have HSk := Lib.hid (HSs.out k)
            have hO1 := HOr.out k (by omega)
            cases hb : s.getLsbD k
            case false =>
              rw [hb] at HH HOk HSk
              have HOk2 := Lib.hid (show O (k + 1) = O k from HOk.out.trans (if_neg (by decide)))
              have HSk2 := Lib.hid (show sm (k + 1) = sm k from HSk.out.trans (Bool.or_false _))
              clear hb HOk HSk
              go_wp2_with (first
                | (go_at_call 24; refine (HH.out _).mono ?_; rintro e w' ⟨rfl, rfl⟩)
                | fail)
              go_roundg g1
              case measure => omega
              case rel => exact ⟨k + 1, by omega, by rw [HOk2.out], by rw [HSk2.out], by go_num, HQ.out⟩
            case true =>
              rw [hb] at HH HOk HSk
              have HOk2 := Lib.hid (show O (k + 1) = O k + (1000 * (x.t k).cost + (x.t k).per - 1) / (x.t k).per from HOk.out.trans (if_pos rfl))
              have HSk2 := Lib.hid (show sm (k + 1) = true from HSk.out.trans (Bool.or_true _))
              have hmd : 0 < rd → rd % (x.t k).per = 0 := fun h => HM.out h k hk hb
              clear hb HOk HSk
              have hper := HG.out.per k (by have := HN.out; omega)
              have hcos := HG.out.cost k (by have := HN.out; omega)
              obtain ⟨k0, k1, k2, k3, k4, k5, k6, k7, k8, k9, k10⟩ := HTc.out _ HQ.out.1 k hk
              obtain ⟨p0, h0⟩ : ∃ v, (x.t k).per = v := ⟨_, rfl⟩
              obtain ⟨p1, h1⟩ : ∃ v, (x.t k).dl = v := ⟨_, rfl⟩
              obtain ⟨p2, h2⟩ : ∃ v, (x.t k).cost = v := ⟨_, rfl⟩
              obtain ⟨f, hf⟩ : ∃ f, lonF x k = f := ⟨_, rfl⟩
              rw [h0] at k0 hmd HOk2 hper
              rw [h1] at k1
              rw [h2] at k2 HOk2 hcos
              rw [hf] at k3 k4 k5 k6 k7 k8 k9 k10
              clear h0 h1 h2 hf
              go_upto_region 11 with (first
                | (go_at_call 24; refine (HH.out _).mono ?_; rintro e w' ⟨rfl, rfl⟩)
                | fail)
              obtain ⟨B, hB⟩ : ∃ B, B = _ := ⟨wr.heap.size, rfl⟩
              rw [← hB]
              generalize hw7 : World.alloc wr _ = w7
              have H7 := Lib.hid (show (Below w.heap.size w w7 ∧ RowAt w7 Z 26 #[.int .i64 x.res, .slice (some ⟨S.t.b, S.t.o, none⟩) nT S.t.c, .slice S.m.sp nM S.m.c, .slice S.e.sp nE S.e.c]) ∧ RowAt w7 B 59 #[.int .i64 p0, .int .i64 p1, .int .i64 p2, .int .i64 (f 0), .int .i64 (f 1), .int .i64 (f 2), .int .i64 (f 3), .int .i64 (f 4), .int .i64 (f 5), .int .i64 (f 6), .int .i64 (f 7)] by
                rw [← hw7]
                exact ⟨⟨below_alloc HQ.out.1 (Nat.le_refl _) _, row_keep HQ.out.2 _⟩, row_next _ _ hB.symm _ _⟩)
              clear hw7 hB c0 c1 c2 c3 k0 k1 k2 k3 k4 k5 k6 k7 k8 k9 k10
              have d0 : w7.cell? ⟨B, 0, none⟩ = some (.int .i64 p0) := H7.out.2.cell 0
              have d2 : w7.cell? ⟨B, 2, none⟩ = some (.int .i64 p2) := H7.out.2.cell 2
              have hz : ¬ p0 = 0 := by omega
              obtain ⟨q1, q2, -, -, -⟩ := quo_bds (a := 1000 * p2 + p0 - 1) (b := p0) (by omega) (by omega)
              have ht1 : (1000 * p2 + p0 - 1).tdiv p0 = (1000 * p2 + p0 - 1) / p0 := Int.tdiv_eq_ediv_of_nonneg (by omega)
              obtain ⟨qq, hqq⟩ : ∃ v, (1000 * p2 + p0 - 1) / p0 = v := ⟨_, rfl⟩
              rw [hqq] at q1 q2 ht1 HOk2
              have ht2 : rd.tmod p0 = 0 := by rw [Int.tmod_eq_emod_of_nonneg hrg.1]; exact hmd HPo.out
              clear hmd hqq
              go_wp2
              go_roundg g1
              case measure => omega
              case rel => exact ⟨k + 1, by omega, by rw [HOk2.out], by rw [HSk2.out], by go_num, H7.out.1⟩
end Go.Proofs.YtihomapbncnhaaaDoor
/- The walk of LoadOver. -/
namespace Go.Proofs.YtihomapbncnhaaaDoor
open Go.RowKit

set_option maxHeartbeats 16000000 in
set_option maxRecDepth 100000 in
theorem law_over37 {w : World} {V : Nat → Prop} {x : Img} {S : ImgS} (h : ImgAt w V x S) (ht : Tab w) (s : BitVec 32) :
    Calls Tryd.prog 8 #[.agg #[.int .i64 x.res, .slice S.t.sp x.tasks.length S.t.c, .slice S.m.sp x.modes.length S.m.c, .slice S.e.sp x.edges.length S.e.c], .int .u32 (w32 s)] w fun e w' => e = .returned (.bool true) ∧ Below w.heap.size w w' := by
  have hp := ht.pos
  have HGr := Lib.hid (show ∀ wx, Below w.heap.size w wx → _ from fun wx hb => great10_any (h.new hb))
  have HRi := Lib.hid (show ∀ wx, Below w.heap.size w wx → _ from fun wx hb => rRight_any (h.new hb))
  have HRd := Lib.hid (show ∀ wx, Below w.heap.size w wx → _ from fun wx hb => ldRound_any (h.new hb) (ht.below hp hb) s)
  rw [show rdK x (tasksL x s) (tasksL x s).length = rdA x s from rfl] at HRd
  have HAl := Lib.hid (show ∀ wx, Below w.heap.size w wx → _ from fun wx hb => l37alive_any wx (ht.below hp hb))
  have HTc := Lib.hid (show ∀ wx, Below w.heap.size w wx → ∀ i, i < x.tasks.length → _ from fun wx hb i hi => task_cells (h.new hb) hi)
  have HSp := Lib.hid (show 0 < x.tasks.length → S.t.sp = some ⟨S.t.b, S.t.o, none⟩ from fun h0 => (h.st.at_ h0).1)
  have HOv := Lib.hid (show ∀ wx, Below w.heap.size w wx → _ from fun wx hb => ldOver_any (h.new hb) (ht.below hp hb) s)
  rw [show exK x (tasksL x s) (tasksL x s).length = exA x s from rfl] at HOv
  have HMo := Lib.hid (show GoodI x → ∀ wx, Below w.heap.size w wx → _ from fun hG wx hb => r18Mode_any (h.new hb) hG (wthF x s) (fun i hi hb2 => wthF_lt hi hb2))
  obtain ⟨nT, hnT⟩ : ∃ n, x.tasks.length = n := ⟨_, rfl⟩
  obtain ⟨nM, hnM⟩ : ∃ n, x.modes.length = n := ⟨_, rfl⟩
  obtain ⟨nE, hnE⟩ : ∃ n, x.edges.length = n := ⟨_, rfl⟩
  rw [hnT, hnM, hnE] at HGr HRi HRd HOv HMo
  rw [hnT] at HTc HSp
  rw [hnT, hnM, hnE]
  have HN := Lib.hid hnT
  obtain ⟨Z, hZ⟩ : ∃ Z, Z = w.heap.size := ⟨_, rfl⟩
  clear h ht hp hnT hnM hnE
  go_enter Tryd.func8, Tryd.ntmps8
  go_upto_region 1 with fail
  rw [← hZ]
  generalize hw2 : World.alloc _ _ = w2
  have H2 := Lib.hid (show Below w.heap.size w w2 ∧ RowAt w2 Z 26 #[.int .i64 x.res, .slice S.t.sp nT S.t.c, .slice S.m.sp nM S.m.c, .slice S.e.sp nE S.e.c] by
    rw [← hw2, hZ]
    exact ⟨(Below.refl _ _).alloc (Nat.le_refl _) _, RowAt.mk _ _ _⟩)
  clear hw2 hZ
  obtain ⟨c0, c1, c2, c3⟩ := img_cells H2.out.2
  cases hg : greatI x
  case true =>
    rw [hg] at HGr
    clear hg
    go_wp2_with (first
      | (go_at_call 21; refine (HGr.out _ H2.out.1).mono ?_; rintro e w3 ⟨rfl, b3⟩; have H3 := Lib.hid (H2.out.1.trans (b3.mono H2.out.1.size)); clear b3)
      | fail)
    go_ret
    exact ⟨rfl, H3.out⟩
  case false =>
    rw [hg] at HGr
    clear hg
    cases hr : rightB x
    case false =>
      rw [hr] at HRi
      clear hr
      go_wp2_with (first
        | (go_at_call 21; refine (HGr.out _ H2.out.1).mono ?_; rintro e w3 ⟨rfl, b3⟩; have H3 := Lib.hid (And.intro (H2.out.1.trans (b3.mono H2.out.1.size)) (H2.out.2.new b3)); clear b3 c0 c1 c2 c3 HGr; obtain ⟨c0, c1, c2, c3⟩ := img_cells H3.out.2)
        | (go_at_call 22; refine (HRi.out _ H3.out.1).mono ?_; rintro e w4 ⟨rfl, b4⟩; have H4 := Lib.hid (H3.out.1.trans (b4.mono H3.out.1.size)); clear b4)
        | fail)
      go_ret
      exact ⟨rfl, H4.out⟩
    case true =>
      have hG := rightB_good hr
      have H16 := hG.n16
      have H1 := hG.n1
      have HMo2 := Lib.hid (HMo.out hG)
      have HLt := Lib.hid (show 0 < rdA x s → rdA x s ≤ 16777216 → ovB (exA x s) = true → 0 ≤ mdI x (wthF x s) from fun a b c => over_late hr a b c)
      have hrg := rdA_rng x s
      have hsp := HSp.out (by rw [← HN.out]; omega)
      have HPr := Lib.hid (show wthF x s = pre s.getLsbD x.tasks.length from rfl)
      rw [HN.out] at H16 H1 HPr
      rw [hsp] at HGr HRi HRd HOv HMo2 H2 c1
      rw [hsp]
      rw [hr] at HRi
      clear hr hG HSp hsp HMo HTc
      obtain ⟨rd, hrd⟩ : ∃ v, rdA x s = v := ⟨_, rfl⟩
      obtain ⟨ov, hov⟩ : ∃ v, ovB (exA x s) = v := ⟨_, rfl⟩
      obtain ⟨md, hmd⟩ : ∃ v, mdI x (wthF x s) = v := ⟨_, rfl⟩
      rw [hrd] at HRd HLt hrg
      rw [hov] at HOv HLt
      rw [hmd] at HMo2 HLt
      clear hrd hov hmd
      by_cases hpo : 0 < rd
      case neg =>
        have h0 : rd = 0 := by omega
        subst h0
        rw [show decide ((0 : Int) < 0) = false from rfl] at HRd
        go_upto_region 4 with (first
          | (go_at_call 21; refine (HGr.out _ H2.out.1).mono ?_; rintro e w3 ⟨rfl, b3⟩; have H3 := Lib.hid (And.intro (H2.out.1.trans (b3.mono H2.out.1.size)) (H2.out.2.new b3)); clear b3 c0 c1 c2 c3 HGr; obtain ⟨c0, c1, c2, c3⟩ := img_cells H3.out.2)
          | (go_at_call 22; refine (HRi.out _ H3.out.1).mono ?_; rintro e w4 ⟨rfl, b4⟩; have H4 := Lib.hid (And.intro (H3.out.1.trans (b4.mono H3.out.1.size)) (H3.out.2.new b4)); clear b4 c0 c1 c2 c3 HRi; obtain ⟨c0, c1, c2, c3⟩ := img_cells H4.out.2)
          | (go_at_call 23; refine (HRd.out _ H4.out.1).mono ?_; rintro e w5 ⟨rfl, b5⟩; have H5 := Lib.hid (And.intro (H4.out.1.trans (b5.mono H4.out.1.size)) (H4.out.2.new b5)); clear b5 c0 c1 c2 c3 HRd; obtain ⟨c0, c1, c2, c3⟩ := img_cells H5.out.2)
          | fail)
        clear c0 c1 c2 c3 H2 H3 H4
        have HW := H5
        go_wp2_with (first
          | (go_at_call 27; refine (HAl.out _ HW.out.1).mono ?_; rintro e w9 ⟨rfl, b9⟩; have H9 := Lib.hid (HW.out.1.trans (b9.mono HW.out.1.size)); clear b9)
          | fail)
        go_ret
        exact ⟨rfl, H9.out⟩
      case pos =>
        rw [decide_eq_true hpo] at HRd
        by_cases hle : rd ≤ 16777216
        case neg =>
          have hgt : 16777216 < rd := by omega
          go_upto_region 4 with (first
            | (go_at_call 21; refine (HGr.out _ H2.out.1).mono ?_; rintro e w3 ⟨rfl, b3⟩; have H3 := Lib.hid (And.intro (H2.out.1.trans (b3.mono H2.out.1.size)) (H2.out.2.new b3)); clear b3 c0 c1 c2 c3 HGr; obtain ⟨c0, c1, c2, c3⟩ := img_cells H3.out.2)
            | (go_at_call 22; refine (HRi.out _ H3.out.1).mono ?_; rintro e w4 ⟨rfl, b4⟩; have H4 := Lib.hid (And.intro (H3.out.1.trans (b4.mono H3.out.1.size)) (H3.out.2.new b4)); clear b4 c0 c1 c2 c3 HRi; obtain ⟨c0, c1, c2, c3⟩ := img_cells H4.out.2)
            | (go_at_call 23; refine (HRd.out _ H4.out.1).mono ?_; rintro e w5 ⟨rfl, b5⟩; have H5 := Lib.hid (And.intro (H4.out.1.trans (b5.mono H4.out.1.size)) (H4.out.2.new b5)); clear b5 c0 c1 c2 c3 HRd; obtain ⟨c0, c1, c2, c3⟩ := img_cells H5.out.2)
            | fail)
          clear c0 c1 c2 c3 H2 H3 H4
          have HW := H5
          go_wp2_with (first
            | (go_at_call 27; refine (HAl.out _ HW.out.1).mono ?_; rintro e w9 ⟨rfl, b9⟩; have H9 := Lib.hid (HW.out.1.trans (b9.mono HW.out.1.size)); clear b9)
            | fail)
          go_ret
          exact ⟨rfl, H9.out⟩
        case pos =>
          have hgt : ¬ 16777216 < rd := by omega
          go_upto_region 4 with (first
            | (go_at_call 21; refine (HGr.out _ H2.out.1).mono ?_; rintro e w3 ⟨rfl, b3⟩; have H3 := Lib.hid (And.intro (H2.out.1.trans (b3.mono H2.out.1.size)) (H2.out.2.new b3)); clear b3 c0 c1 c2 c3 HGr; obtain ⟨c0, c1, c2, c3⟩ := img_cells H3.out.2)
            | (go_at_call 22; refine (HRi.out _ H3.out.1).mono ?_; rintro e w4 ⟨rfl, b4⟩; have H4 := Lib.hid (And.intro (H3.out.1.trans (b4.mono H3.out.1.size)) (H3.out.2.new b4)); clear b4 c0 c1 c2 c3 HRi; obtain ⟨c0, c1, c2, c3⟩ := img_cells H4.out.2)
            | (go_at_call 23; refine (HRd.out _ H4.out.1).mono ?_; rintro e w5 ⟨rfl, b5⟩; have H5 := Lib.hid (And.intro (H4.out.1.trans (b5.mono H4.out.1.size)) (H4.out.2.new b5)); clear b5 c0 c1 c2 c3 HRd; obtain ⟨c0, c1, c2, c3⟩ := img_cells H5.out.2)
            | fail)
          clear H2 H3 H4
          cases ov
          case false =>
            go_wp2_with (first
              | (go_at_call 29; refine (HOv.out _ H5.out.1).mono ?_; rintro e w6 ⟨rfl, b6⟩; have H6 := Lib.hid (And.intro (H5.out.1.trans (b6.mono H5.out.1.size)) (H5.out.2.new b6)); clear b6 c0 c1 c2 c3 HOv; have HW := H6)
              | (go_at_call 27; refine (HAl.out _ HW.out.1).mono ?_; rintro e w9 ⟨rfl, b9⟩; have H9 := Lib.hid (HW.out.1.trans (b9.mono HW.out.1.size)); clear b9)
              | fail)
            go_ret
            exact ⟨rfl, H9.out⟩
          case true =>
            go_upto_region 7 with (first
              | (go_at_call 29; refine (HOv.out _ H5.out.1).mono ?_; rintro e w6 ⟨rfl, b6⟩; have H6 := Lib.hid (And.intro (H5.out.1.trans (b6.mono H5.out.1.size)) (H5.out.2.new b6)); clear b6 c0 c1 c2 c3 HOv; obtain ⟨c0, c1, c2, c3⟩ := img_cells H6.out.2)
              | fail)
            go_wp2
            go_loopg [7, 8] nT (fun g v7 v8 wr => ∃ k : Nat, k + g = nT ∧ v7 = .int .u32 (w32 (pre s.getLsbD k)) ∧ v8 = .int .i64 (k : Nat) ∧ Aside (w6 = wr))
            case atStart => exact ⟨0, by omega, rfl, rfl, rfl⟩
            case round =>
              obtain ⟨k, hkg, rfl, rfl, HQ⟩ := hrel
              obtain rfl := HQ.out
              clear HQ
              cases gk with
              | zero =>
                obtain rfl : nT = k := by omega
                clear hkg
                rw [← HPr.out]
                have hmd := HLt.out hpo hle (by simp)
                go_wp2_with (first
                  | (go_at_call 32; refine (HMo2.out _ H6.out.1).mono ?_; rintro e w7 ⟨rfl, b7⟩; have HW := Lib.hid (And.intro (H6.out.1.trans (b7.mono H6.out.1.size)) (H6.out.2.new b7)); clear b7 c0 c1 c2 c3 HMo2)
                  | (go_at_call 27; refine (HAl.out _ HW.out.1).mono ?_; rintro e w9 ⟨rfl, b9⟩; have H9 := Lib.hid (HW.out.1.trans (b9.mono HW.out.1.size)); clear b9)
                  | fail)
                go_ret
                exact ⟨rfl, H9.out⟩
              | succ g1 =>
                have hk : k < nT := by omega
                have e1 : (k : Int) < (nT : Int) := by omega
                have HH := Lib.hid (fun wx => has10_any s (k : Int) wx)
                rw [hasB_nat s k (by omega)] at HH
                have hsh := shl_one k (by omega)
                have hla := low_pre s k (by omega)
                have HPs := Lib.hid (show pre s.getLsbD (k + 1) = if s.getLsbD k = true then pre s.getLsbD k ||| 1#32 <<< k else pre s.getLsbD k from rfl)
                obtain ⟨pk, hpk⟩ : ∃ v, pre s.getLsbD k = v := ⟨_, rfl⟩
                rw [hpk] at HPs hla ⊢
                clear hpk
                cases hb : s.getLsbD k
                case false =>
                  rw [hb] at HH HPs
                  have HP2 := Lib.hid (show pre s.getLsbD (k + 1) = pk from HPs.out.trans (if_neg (by decide)))
                  clear hb HPs
                  go_wp2_with (first
                    | (go_at_call 24; refine (HH.out _).mono ?_; rintro e w' ⟨rfl, rfl⟩)
                    | fail)
                  go_roundg g1
                  case measure => omega
                  case rel => exact ⟨k + 1, by omega, by rw [HP2.out], by go_num, rfl⟩
                case true =>
                  rw [hb] at HH HPs
                  have HP2 := Lib.hid (show pre s.getLsbD (k + 1) = pk ||| 1#32 <<< k from HPs.out.trans (if_pos rfl))
                  clear hb HPs
                  go_wp2_with (first
                    | (go_at_call 24; refine (HH.out _).mono ?_; rintro e w' ⟨rfl, rfl⟩)
                    | fail)
                  go_roundg g1
                  case measure => omega
                  case rel => exact ⟨k + 1, by omega, by rw [HP2.out, ← hla], by go_num, rfl⟩
end Go.Proofs.YtihomapbncnhaaaDoor
/- A plain lemma of this prover's own: where a call returned true and nothing that lay before it has turned, what the law's row asks behind the call holds. No statement about the program. -/
namespace Go.Proofs.YtihomapbncnhaaaDoor
open Go.ChangeShapes Go.WideShapes Go.ChangeAt Go.RowKit

theorem trodAll_stays {H : Type} {enc : TypeId × Value → H} {P : Program} (hl : laidOutB P = true) {W W' : World} (hb : Below W.heap.size W W') :
    ∀ {ts : List TypeId} {vs : List Value} {ds : List (DataW H)} {ps : List MemPlace}, (ts.all fun t => P.readableRec t && decide (t < P.types.size)) = true →
      DataW.TrodAll enc P W 0 (fun _ => true) true ts vs ds ps → (∀ x ∈ ps, x.block < W.heap.size) → DataW.TrodAll enc P W' 0 (fun b => decide (b < W.heap.size)) true ts vs ds ps
  | [], [], [], _, _, h, _ => h
  | t :: ts, v :: vs, d :: ds, ps, hr, h, hlt => by
    obtain ⟨p, q, h1, h2, e⟩ := h
    simp only [List.all_cons, Bool.and_eq_true, decide_eq_true_eq] at hr
    refine ⟨p, q, Below.trod hl hr.1.1 hr.1.2 h1 hb (fun x hx => hlt x (by rw [e]; simp [hx])), trodAll_stays hl hb hr.2 h2 (fun x hx => hlt x (by rw [e]; simp [hx])), e⟩
  | [], [], _ :: _, _, _, h, _ => h.elim
  | [], _ :: _, _, _, _, h, _ => by cases ‹List (DataW H)› <;> exact h.elim
  | _ :: _, [], _, _, _, h, _ => by cases ‹List (DataW H)› <;> exact h.elim
  | _ :: _, _ :: _, [], _, _, h, _ => h.elim

theorem law_post {H : Type} {enc : TypeId × Value → H} {P : Program} {f : Func} {s : ChangeSpec} {fresh handsOn : Bool} {W W' : World} {args : Array Value} {ds gs : List (DataW H)} {before : List MemPlace} {tb : TypeId}
    (hl : laidOutB P = true) (hr : (f.params.toList.all fun t => P.readableRec t && decide (t < P.types.size)) = true) (hv : varsRowed P s.vars = true) (htb : f.resultTypes = #[tb]) (hub : P.underlying tb = some .bool)
    (hW : DataW.Whole enc P f.params.toList s.vars false W args.toList ds gs before) (hb : Below W.heap.size W W')
    (hres : (s.fn H (ds ++ gs)).results = [.lit (.bool true)]) (hargs : (s.fn H (ds ++ gs)).args = ds) (hvars : (s.fn H (ds ++ gs)).vars = gs) :
    s.post enc P f false fresh handsOn false W args (.bool true) W' := by
  have hlt : ∀ x ∈ before, x.block < W.heap.size := fun x hx => by simpa using hW.lt x hx
  have hW' := hW
  obtain ⟨p, q, hA, hV, rfl, hz, hn⟩ := hW
  refine ⟨ds, gs, _, [], p, q, hW', ?_, ?_, ?_, hb.frame _, fun h => by cases h⟩
  · rw [hres, htb]
    exact trodAll_cons_mk (shut_bool hub true) trodAll_mk0
  · rw [hargs]; exact trodAll_stays hl hb hr hA (fun x hx => hlt x (by simp [hx]))
  · rw [hvars]; exact Below.trodVars hl hb hv hV

end Go.Proofs.YtihomapbncnhaaaDoor
/- Plain facts for the law texts of class and image. No statement about the program's functions. -/
namespace Go.Proofs.YtihomapbncnhaaaDoor
open Go.ChangeShapes Go.WideShapes Go.ChangeAt Go.RowKit Go.Deep Go.Joins

theorem own : ownKnob Tryd.prog.godebug = none := by kernel_rfl
theorem laidOut : laidOutB Tryd.prog = true := by kernel_rfl
theorem word_of {n : Int} (h : (Lit.int .u32 n).wf = true) : 0 ≤ n ∧ n < 4294967296 := by
  simp [Lit.wf, IntKind.min, IntKind.max, IntKind.signed, IntKind.bits] at h
  omega
theorem int_of {n : Int} (h : (Lit.int .i64 n).wf = true) : -9223372036854775808 ≤ n ∧ n ≤ 9223372036854775807 := by
  simp [Lit.wf, IntKind.min, IntKind.max, IntKind.signed, IntKind.bits] at h
  omega
theorem wf32 {n : Int} (h : (Lit.int .u32 n).wf = true) : w32 (BitVec.ofInt 32 n) = n := by
  have h' := word_of h
  unfold w32
  rw [BitVec.toNat_ofInt]
  omega
end Go.Proofs.YtihomapbncnhaaaDoor
