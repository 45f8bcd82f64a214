/- Several texts in one: JL, JM, JI, JK. -/
import Derived.Test.YtchmdnmifpjfkaaDoorPk08
/- The contract of ref10's edge. -/
namespace Go.Proofs.YtchmdnmifpjfkaaDoor
open Go.RowKit

def rM (l : List Int) (f t : Int) (k : Nat) : Bool := inB (l.getD k 0) 0 t && ((decide (l.getD k 0 = 0) || decide ((k : Int) < f)) && (List.range k).all fun j => decide (l.getD k 0 = 0) || !decide (l.getD j 0 = l.getD k 0))
def rO (l : List Int) (prot : Int) (a b : BitVec 32) (k : Nat) : Bool := inB (l.getD k 0) 0 16384 && (decide (l.getD k 0 = 0) || (prot == 3 && (hasB b (k : Int) && !hasB a (k : Int))))
def redgeB (f t prot nM : Int) (mp offs : List Int) (es : Nat → Bool) (k la lb : Nat) (a b : BitVec 32) : Bool :=
  inB f 0 (nM - 1) && (inB t 0 (nM - 1) && (!(f == t) && (inB prot 1 3 && ((List.range k).all es && ((List.range 4).all (rM mp (la : Int) (lb : Int)) && (List.range 16).all (rO offs prot a b))))))
/-- May an image's k-th edge be, as the reference asks? -/
def redgeOK (x : Img) (k : Nat) : Bool := redgeB (x.e k).frm (x.e k).dst (x.e k).prot (x.modes.length : Int) (x.e k).map (x.e k).offs (fun j => !isE x (x.e k).frm (x.e k).dst j) k (qlen x (x.e k).frm) (qlen x (x.e k).dst) (x.m (x.e k).frm.toNat).tasks (x.m (x.e k).dst.toNat).tasks
set_option maxHeartbeats 8000000 in
set_option maxRecDepth 100000 in
theorem redge_any {w : World} {V : Nat → Prop} {x : Img} {S : ImgS} (h : ImgAt w V x S) (k : Nat) (hk : k < x.edges.length) :
    Calls Tryd.prog 79 #[.agg #[.int .i64 x.res, .slice S.t.sp x.tasks.length S.t.c, .slice S.m.sp x.modes.length S.m.c, .slice S.e.sp x.edges.length S.e.c], .int .i64 (k : Int)] w fun e w' => e = .returned (.bool (redgeOK x k)) ∧ Below w.heap.size w w' := by
  obtain ⟨hcs, hl1, hl2⟩ := h.ed k hk
  have hlen := edgeC_len hl1 hl2
  have hone := edgeC_one (x.e k)
  obtain ⟨hsp, hbl, -⟩ := h.se.at_ (by omega)
  have hsm := h.sm.sm
  have hse := h.se.sm
  have HMd := Lib.hid (fun (wx : World) (a : Nat) (ha : a < x.modes.length) (hb : Below w.heap.size w wx) => modeAt (h.new hb) a ha)
  have HSm := Lib.hid (fun (h0 : 0 < x.modes.length) => (h.sm.at_ h0).1)
  have HQl := Lib.hid (fun (a : Nat) (ha : a < x.modes.length) => ((h.md a ha).2.2).sm)
  have HEc := Lib.hid (fun (wx : World) (a : Nat) (ha : a < x.edges.length) (hb : Below w.heap.size w wx) => show wx.cell? ⟨S.e.b, S.e.o + a * 23, none⟩ = some (.int .i64 (x.e a).frm) ∧ wx.cell? ⟨S.e.b, S.e.o + a * 23 + 1, none⟩ = some (.int .i64 (x.e a).dst) from ⟨((h.new hb).ed a ha).1 0 _ rfl, ((h.new hb).ed a ha).1 1 _ rfl⟩)
  have hrow : At w S.e.b (S.e.o + k * 23) (edgeC (x.e k)) ∧ (edgeC (x.e k))[0]? = some (.int .i64 (x.e k).frm) ∧ (edgeC (x.e k))[1]? = some (.int .i64 (x.e k).dst) ∧ (edgeC (x.e k))[2]? = some (.int .i64 (x.e k).prot) ∧ (edgeC (x.e k)).length = 23 ∧ (edgeC (x.e k)).toArray.size = 23 ∧ (edgeC (x.e k)).toArray.all (·.oneCell') = true ∧ (∀ j, j < 4 → (edgeC (x.e k)).toArray[19 + j]? = some (.int .i64 ((x.e k).map.getD j 0))) ∧ (∀ j, j < 16 → (edgeC (x.e k)).toArray[3 + j]? = some (.int .i64 ((x.e k).offs.getD j 0))) :=
    ⟨hcs, rfl, rfl, rfl, hlen, by simpa using hlen, by simpa using hone, fun j hj => edgeC_map _ hl1 j _ (by simp [rowZ, show j < (x.e k).map.length by omega]), fun j hj => edgeC_offs _ j _ (by simp [rowZ, show j < (x.e k).offs.length by omega])⟩
  have HO := Lib.hid (show redgeOK x k = redgeB (x.e k).frm (x.e k).dst (x.e k).prot (x.modes.length : Int) (x.e k).map (x.e k).offs (fun j => !isE x (x.e k).frm (x.e k).dst j) k (qlen x (x.e k).frm) (qlen x (x.e k).dst) (x.m (x.e k).frm.toNat).tasks (x.m (x.e k).dst.toNat).tasks from rfl)
  have HQ0 := Lib.hid (fun m => show qlen x m = (x.m m.toNat).qs.length from rfl)
  have HIs := Lib.hid (fun (a b : Int) (j : Nat) => show isE x a b j = ((x.e j).frm == a && (x.e j).dst == b) from rfl)
  obtain ⟨f, hf⟩ : ∃ f, (x.e k).frm = f := ⟨_, rfl⟩
  obtain ⟨t, ht⟩ : ∃ t, (x.e k).dst = t := ⟨_, rfl⟩
  obtain ⟨prot, hpr⟩ : ∃ t, (x.e k).prot = t := ⟨_, rfl⟩
  obtain ⟨offs, hofs⟩ : ∃ t, (x.e k).offs = t := ⟨_, rfl⟩
  obtain ⟨mp, hmp⟩ : ∃ t, (x.e k).map = t := ⟨_, rfl⟩
  obtain ⟨cs, hcc⟩ : ∃ cs, edgeC (x.e k) = cs := ⟨_, rfl⟩
  rw [hf, ht, hpr, hofs, hmp] at HO
  rw [hf, ht, hpr, hmp, hofs, hcc] at hrow
  obtain ⟨v, hv⟩ : ∃ v, redgeOK x k = v := ⟨_, rfl⟩
  rw [hv] at HO ⊢
  obtain ⟨res, hres⟩ : ∃ n, x.res = n := ⟨_, rfl⟩
  obtain ⟨nT, hnT⟩ : ∃ n, x.tasks.length = n := ⟨_, rfl⟩
  obtain ⟨nM, hnM⟩ : ∃ n, x.modes.length = n := ⟨_, rfl⟩
  obtain ⟨nE, hnE⟩ : ∃ n, x.edges.length = n := ⟨_, rfl⟩
  rw [hnM] at HMd HSm HQl HO hsm
  rw [hnE] at hk HEc hse
  rw [hres, hnT, hnM, hnE, hsp]
  have hk2 : (k : Int) < (nE : Int) := by omega
  have HR := Lib.hid hrow
  obtain ⟨Z, hZ⟩ : ∃ Z, Z = w.heap.size := ⟨_, rfl⟩
  have HZw := Lib.hid (show w.heap.size ≤ Z by omega)
  have HZ := Lib.hid (show ∀ w2, w.alloc (.cells #[.int .i64 res, .slice S.t.sp nT S.t.c, .slice S.m.sp nM S.m.c, .slice (some ⟨S.e.b, S.e.o, none⟩) nE S.e.c] 26) = w2 → Below w.heap.size w w2 ∧ RowAt w2 Z 26 #[.int .i64 res, .slice S.t.sp nT S.t.c, .slice S.m.sp nM S.m.c, .slice (some ⟨S.e.b, S.e.o, none⟩) nE S.e.c] ∧ At w2 S.e.b (S.e.o + k * 23) cs from fun w2 hw => by
    have b1 : Below w.heap.size w w2 := by rw [← hw]; exact (Below.refl _ _).alloc (Nat.le_refl _) _
    exact ⟨b1, by rw [← hw, hZ]; exact RowAt.mk _ _ _, fun j u hu => (b1.cell (p := ⟨S.e.b, S.e.o + k * 23 + j, none⟩) hbl).trans (hrow.1 j u hu)⟩)
  clear h hcs hl1 hl2 hlen hone hsp hbl hf ht hpr hofs hmp hcc hv hres hnT hnM hnE hrow
  go_enter Tryd.func79, Tryd.ntmps79
  go_upto_region 1 with fail
  rw [← hZ]
  generalize hw2 : World.alloc _ _ = w2
  have HZ2 := Lib.hid (HZ.out w2 hw2)
  clear hw2 hZ HZ
  have c3 : w2.cell? ⟨Z, 3, none⟩ = some (.slice (some ⟨S.e.b, S.e.o, none⟩) nE S.e.c) := HZ2.out.2.1.cell 3
  go_upto_region 2 with (first
    | (refine wpList_load_mid rfl 66 (.tmp 17) rfl S.e.b (S.e.o + k * 23) rfl cs _ HZ2.out.2.2 Tryd.underlying66 rfl (by rw [HR.out.2.2.2.2.1]; kernel_rfl) ?_)
    | (refine wpList_store_row rfl 66 (.tmp 5) (.tmp 18) rfl w2.heap.size cs.toArray (by rfl) (by rfl) 66 _ (heap_alloc_new w2 _) (by rw [HR.out.2.2.2.2.2.1]; kernel_rfl) (by rw [HR.out.2.2.2.2.2.1]; rfl) HR.out.2.2.2.2.2.2.1 ?_; generalize hw3 : World.setRow _ _ _ = w3)
    | fail)
  have H3 := Lib.hid (show Below w.heap.size w w3 ∧ RowAt w3 Z 26 #[.int .i64 res, .slice S.t.sp nT S.t.c, .slice S.m.sp nM S.m.c, .slice (some ⟨S.e.b, S.e.o, none⟩) nE S.e.c] ∧ RowAt w3 w2.heap.size 66 cs.toArray by
    rw [← hw3]
    have ha := alloc_row w2 #[.int .i64 0, .int .i64 0, .int .i64 0, .int .i64 0, .int .i64 0, .int .i64 0, .int .i64 0, .int .i64 0, .int .i64 0, .int .i64 0, .int .i64 0, .int .i64 0, .int .i64 0, .int .i64 0, .int .i64 0, .int .i64 0, .int .i64 0, .int .i64 0, .int .i64 0, .int .i64 0, .int .i64 0, .int .i64 0, .int .i64 0] cs.toArray 66
    exact ⟨HZ2.out.1.trans (ha.1.mono HZ2.out.1.size), HZ2.out.2.1.new ha.1, ha.2⟩)
  obtain ⟨E, hE⟩ : ∃ E, E = w2.heap.size := ⟨_, rfl⟩
  rw [← hE] at H3 ⊢
  clear hw3 hE HZ2 c3
  have c2 : w3.cell? ⟨Z, 2, none⟩ = some (.slice S.m.sp nM S.m.c) := H3.out.2.1.cell 2
  have e0 : w3.cell? ⟨E, 0, none⟩ = some (.int .i64 f) := (H3.out.2.2.cell 0).trans (by simpa using HR.out.2.1)
  have e1 : w3.cell? ⟨E, 1, none⟩ = some (.int .i64 t) := (H3.out.2.2.cell 1).trans (by simpa using HR.out.2.2.1)
  have e2 : w3.cell? ⟨E, 2, none⟩ = some (.int .i64 prot) := (H3.out.2.2.cell 2).trans (by simpa using HR.out.2.2.2.1)
  have HE4 := Lib.hid (fun (j : Nat) (hj : j < 4) (wx : World) (hr : RowAt wx E 66 cs.toArray) => show wx.cell? ⟨E, 19 + j, none⟩ = some (.int .i64 (mp.getD j 0)) from (hr.cell (19 + j)).trans (HR.out.2.2.2.2.2.2.2.1 j hj))
  have HE16 := Lib.hid (fun (j : Nat) (hj : j < 16) (wx : World) (hr : RowAt wx E 66 cs.toArray) => show wx.cell? ⟨E, 3 + j, none⟩ = some (.int .i64 (offs.getD j 0)) from (hr.cell (3 + j)).trans (HR.out.2.2.2.2.2.2.2.2 j hj))
  cases h1 : inB f 0 ((nM : Int) - 1)
  · have HV := Lib.hid (show v = false by rw [HO.out]; unfold redgeB; rw [h1]; rfl)
    clear HO
    go_wp2_with (first | (go_at_call 76; refine (rin_any _ _ _ _).mono ?_; rintro e w' ⟨rfl, rfl⟩) | fail)
    go_ret
    exact ⟨by rw [HV.out]; rfl, H3.out.1⟩
  cases h2 : inB t 0 ((nM : Int) - 1)
  · have HV := Lib.hid (show v = false by rw [HO.out]; unfold redgeB; rw [h1, h2]; rfl)
    clear HO
    go_wp2_with (first | (go_at_call 76; refine (rin_any _ _ _ _).mono ?_; rintro e w' ⟨rfl, rfl⟩) | fail)
    go_ret
    exact ⟨by rw [HV.out]; rfl, H3.out.1⟩
  cases h3 : f == t
  case true =>
    have HV := Lib.hid (show v = false by rw [HO.out]; unfold redgeB; rw [h1, h2, h3]; rfl)
    clear HO
    go_wp2_with (first | (go_at_call 76; refine (rin_any _ _ _ _).mono ?_; rintro e w' ⟨rfl, rfl⟩) | fail)
    go_ret
    exact ⟨by rw [HV.out]; rfl, H3.out.1⟩
  cases h4 : inB prot 1 3
  · have HV := Lib.hid (show v = false by rw [HO.out]; unfold redgeB; rw [h1, h2, h3, h4]; rfl)
    clear HO
    go_wp2_with (first | (go_at_call 76; refine (rin_any _ _ _ _).mono ?_; rintro e w' ⟨rfl, rfl⟩) | fail)
    go_ret
    exact ⟨by rw [HV.out]; rfl, H3.out.1⟩
  have HO1 := Lib.hid (show v = _ from HO.out.trans (by unfold redgeB; rw [h1, h2, h3, h4, Bool.not_false, Bool.true_and, Bool.true_and, Bool.true_and, Bool.true_and]))
  clear HO
  go_wp2_with (first | (go_at_call 76; refine (rin_any _ _ _ _).mono ?_; rintro e w' ⟨rfl, rfl⟩) | fail)
  clear c2 e2 e0 e1
  go_loopg [6] k (fun g u wr => ∃ i : Nat, i + g = k ∧ u = .int .i64 (i : Nat) ∧ Aside ((Below w.heap.size w wr ∧ RowAt wr Z 26 #[.int .i64 res, .slice S.t.sp nT S.t.c, .slice S.m.sp nM S.m.c, .slice (some ⟨S.e.b, S.e.o, none⟩) nE S.e.c] ∧ RowAt wr E 66 cs.toArray) ∧ ∀ j, j < i → (!isE x f t j) = true))
  case atStart => exact ⟨0, by omega, rfl, H3.out, fun j hj => absurd hj (Nat.not_lt_zero j)⟩

  case round =>
    obtain ⟨i, hig, rfl, HQ⟩ := hrel
    have H3 := Lib.hid HQ.out.1
    have HQ2 := Lib.hid HQ.out.2
    clear HQ
    have c3 : wr.cell? ⟨Z, 3, none⟩ = some (.slice (some ⟨S.e.b, S.e.o, none⟩) nE S.e.c) := H3.out.2.1.cell 3
    have e0 : wr.cell? ⟨E, 0, none⟩ = some (.int .i64 f) := (H3.out.2.2.cell 0).trans (by simpa using HR.out.2.1)
    have e1 : wr.cell? ⟨E, 1, none⟩ = some (.int .i64 t) := (H3.out.2.2.cell 1).trans (by simpa using HR.out.2.2.1)
    cases gk with
    | succ g1 =>
      have hi : i < k := by omega
      have hi2 : (i : Int) < (k : Int) := by omega
      have hi3 : (i : Int) < (nE : Int) := by omega
      obtain ⟨d0, d1⟩ := HEc.out wr i (by omega) H3.out.1
      obtain ⟨fj, hfj⟩ : ∃ a, (x.e i).frm = a := ⟨_, rfl⟩
      obtain ⟨tj, htj⟩ : ∃ a, (x.e i).dst = a := ⟨_, rfl⟩
      have hii := HIs.out f t i
      rw [hfj] at d0 hii
      rw [htj] at d1 hii
      have HII := Lib.hid hii
      have HF := Lib.hid (fun (hb : isE x f t i = true) => show v = false from HO1.out.trans (by rw [rangeAll_no hi (by rw [hb]; rfl)]; rfl))
      have HY := Lib.hid (fun (hb : isE x f t i = false) => show ∀ j, j < i + 1 → (!isE x f t j) = true from fun j hj => by
        rcases Nat.lt_or_ge j i with h5 | h5
        · exact HQ2.out j h5
        · obtain rfl : j = i := by omega
          rw [hb]; rfl)
      have HGk := Lib.hid hig
      clear hig hfj htj hii HMd HSm HQl HEc HO1 HQ0 HIs HE4 HE16 HQ2 h1 h2 h3 h4
      cases g1' : fj == f
      · have HC := Lib.hid (HY.out (by rw [HII.out, g1']; rfl))
        go_wp2
        go_quiet (fail)
        go_wp2
        go_roundg g1
        case measure => omega
        case rel => exact ⟨i + 1, by have := HGk.out; omega, by go_num, ⟨below_dn H3.out.1 nq, H3.out.2⟩, HC.out⟩
      · cases g2' : tj == t
        · have HC := Lib.hid (HY.out (by rw [HII.out, g1', g2']; rfl))
          go_wp2
          go_quiet (fail)
          go_wp2
          go_roundg g1
          case measure => omega
          case rel => exact ⟨i + 1, by have := HGk.out; omega, by go_num, ⟨below_dn H3.out.1 nq, H3.out.2⟩, HC.out⟩
        · have HC := Lib.hid (HF.out (by rw [HII.out, g1', g2']; rfl))
          go_wp2
          go_quiet (fail)
          go_wp2
          go_ret
          exact ⟨by rw [HC.out]; rfl, below_dn H3.out.1 _⟩
    | zero =>
      obtain rfl : i = k := by omega
      have HV1 := Lib.hid (show v = ((List.range 4).all (rM mp (qlen x f : Int) (qlen x t : Int)) && (List.range 16).all (rO offs prot (x.m f.toNat).tasks (x.m t.toNat).tasks)) from HO1.out.trans (by rw [rangeAll_yes HQ2.out, Bool.true_and]))
      clear HO1 HQ2 HEc HIs c3 hig
      have hf1 : 0 ≤ f ∧ f ≤ (nM : Int) - 1 := by simpa [inB] using h1
      have ht1 : 0 ≤ t ∧ t ≤ (nM : Int) - 1 := by simpa [inB] using h2
      obtain ⟨fa, rfl⟩ := Int.eq_ofNat_of_zero_le hf1.1
      obtain ⟨ta, rfl⟩ := Int.eq_ofNat_of_zero_le ht1.1
      have hfa : fa < nM := by omega
      have hta : ta < nM := by omega
      have hfa2 : (fa : Int) < (nM : Int) := by omega
      have hta2 : (ta : Int) < (nM : Int) := by omega
      have HMf := Lib.hid (fun wx hb => HMd.out wx fa hfa hb)
      have HMt := Lib.hid (fun wx hb => HMd.out wx ta hta hb)
      have hqf := HQ0.out fa
      have hqt := HQ0.out ta
      have hnf := HQl.out fa hfa
      have hnt := HQl.out ta hta
      rw [Int.toNat_natCast] at hqf hqt HV1
      rw [Int.toNat_natCast] at HV1
      rw [hqf, hqt] at HV1
      obtain ⟨A, hA⟩ : ∃ A, (x.m fa).tasks = A := ⟨_, rfl⟩
      obtain ⟨B, hB⟩ : ∃ A, (x.m ta).tasks = A := ⟨_, rfl⟩
      obtain ⟨la, hla⟩ : ∃ A, (x.m fa).qs.length = A := ⟨_, rfl⟩
      obtain ⟨lb, hlb⟩ : ∃ A, (x.m ta).qs.length = A := ⟨_, rfl⟩
      rw [hA, hla] at HMf
      rw [hB, hlb] at HMt
      rw [hla] at hnf
      rw [hlb] at hnt
      rw [hA, hB, hla, hlb] at HV1
      have hsp2 := HSm.out (by omega)
      rw [hsp2] at H3
      have c2 : wr.cell? ⟨Z, 2, none⟩ = some (.slice (some ⟨S.m.b, S.m.o, none⟩) nM S.m.c) := H3.out.2.1.cell 2
      have HL := Lib.hid (And.intro (HMf.out wr H3.out.1) (HMt.out wr H3.out.1))
      have m0 : wr.cell? ⟨S.m.b, S.m.o + fa * 2, none⟩ = some (.int .u32 (w32 A)) := HL.out.1 0 _ rfl
      have m1 : wr.cell? ⟨S.m.b, S.m.o + fa * 2 + 1, none⟩ = some (.slice (S.q fa).sp la (S.q fa).c) := HL.out.1 1 _ rfl
      have n0 : wr.cell? ⟨S.m.b, S.m.o + ta * 2, none⟩ = some (.int .u32 (w32 B)) := HL.out.2 0 _ rfl
      have n1 : wr.cell? ⟨S.m.b, S.m.o + ta * 2 + 1, none⟩ = some (.slice (S.q ta).sp lb (S.q ta).c) := HL.out.2 1 _ rfl
      clear hqf hqt hA hB hla hlb hsp2 HMd HQ0 HQl hf1 ht1 HSm h1 h2 h3 h4 hfa hta
      have HFf := Lib.hid (show ∀ wx, RowAt wx E 66 cs.toArray → wx.cell? ⟨E, 0, none⟩ = some (.int .i64 (fa : Int)) ∧ wx.cell? ⟨E, 1, none⟩ = some (.int .i64 (ta : Int)) ∧ wx.cell? ⟨E, 2, none⟩ = some (.int .i64 prot) from fun wx hr => ⟨(hr.cell 0).trans (by simpa using HR.out.2.1), (hr.cell 1).trans (by simpa using HR.out.2.2.1), (hr.cell 2).trans (by simpa using HR.out.2.2.2.1)⟩)
      have HZE := Lib.hid (show w.heap.size ≤ Z ∧ Z < wr.heap.size ∧ E < wr.heap.size from ⟨HZw.out, H3.out.2.1.lt, H3.out.2.2.lt⟩)
      go_upto_region 9 with fail
      clear c2 e0 e1 m0 m1 n0 n1 HL HR
      obtain ⟨wd, hwd⟩ : ∃ wd, wr.drew = wd := ⟨_, rfl⟩
      have HG1 := Lib.hid (show Below w.heap.size w wd ∧ RowAt wd Z 26 #[.int .i64 res, .slice S.t.sp nT S.t.c, .slice (some ⟨S.m.b, S.m.o, none⟩) nM S.m.c, .slice (some ⟨S.e.b, S.e.o, none⟩) nE S.e.c] ∧ RowAt wd E 66 cs.toArray by rw [← hwd]; exact ⟨below_dn H3.out.1 1, H3.out.2⟩)
      clear H3
      go_cut [7, 8] from 75 to 86 (fun s7 s8 wx => ∃ b7 b8 : Nat, s7 = .pointer (some ⟨b7, 0, none⟩) ∧ s8 = .pointer (some ⟨b8, 0, none⟩) ∧ Aside (Below w.heap.size w wx ∧ RowAt wx Z 26 #[.int .i64 res, .slice S.t.sp nT S.t.c, .slice (some ⟨S.m.b, S.m.o, none⟩) nM S.m.c, .slice (some ⟨S.e.b, S.e.o, none⟩) nE S.e.c] ∧ RowAt wx E 66 cs.toArray ∧ RowAt wx b7 100 #[.int .u32 (w32 A), .slice (S.q fa).sp la (S.q fa).c] ∧ RowAt wx b8 100 #[.int .u32 (w32 B), .slice (S.q ta).sp lb (S.q ta).c]))
      case first => as_aux_lemma =>
        refine wp_region_held_drew (S := fun w' => Below w.heap.size w w' ∧ RowAt w' Z 26 #[.int .i64 res, .slice S.t.sp nT S.t.c, .slice (some ⟨S.m.b, S.m.o, none⟩) nM S.m.c, .slice (some ⟨S.e.b, S.e.o, none⟩) nE S.e.c] ∧ RowAt w' E 66 cs.toArray) (by kernel_rfl) (by rw [hwd]; exact HG1.out) (fun hS => ?_)
        rw [hwd] at hS ⊢
        clear hwd
        refine wpAnyH_take (i := 0) (oi := { dst := some 75, op := .fieldAddr 26 (.tmp 2) 2, type := 0, pos := "ref.go:50", after := #[], guard := none }) (v := ?_) rfl (by kernel_rfl) (by kernel_rfl) (by kernel_rfl) (fun _ _ _ h => h) (Or.inl ⟨by rfl, ?_⟩) hS ?_
        rotate_left 1
        · intro w hw; obtain ⟨s0, s1, s2⟩ := hw; go_simp; try (with_reducible rfl)
        simp only [Act.put, List.setIfInBounds_toArray, List.set_cons_zero, List.set_cons_succ]
        refine wpAnyH_take (i := 1) (oi := { dst := some 76, op := .load 23 (.tmp 75), type := 23, pos := "ref.go:50", after := #[{ on := 0, ground := .data }], guard := none }) (v := ?_) rfl (by kernel_rfl) (by kernel_rfl) (by kernel_rfl) (fun _ _ _ h => h) (Or.inl ⟨by rfl, ?_⟩) hS ?_
        rotate_left 1
        · intro w hw; obtain ⟨s0, s1, s2⟩ := hw; have k0 := s1.cell 2; simp at k0; go_simp; try (with_reducible rfl)
        simp only [Act.put, List.setIfInBounds_toArray, List.set_cons_zero, List.set_cons_succ]
        refine wpAnyH_take (i := 2) (oi := { dst := some 77, op := .fieldAddr 66 (.tmp 5) 0, type := 0, pos := "ref.go:50", after := #[], guard := none }) (v := ?_) rfl (by kernel_rfl) (by kernel_rfl) (by kernel_rfl) (fun _ _ _ h => h) (Or.inl ⟨by rfl, ?_⟩) hS ?_
        rotate_left 1
        · intro w hw; obtain ⟨s0, s1, s2⟩ := hw; go_simp; try (with_reducible rfl)
        simp only [Act.put, List.setIfInBounds_toArray, List.set_cons_zero, List.set_cons_succ]
        refine wpAnyH_take (i := 3) (oi := { dst := some 78, op := .load 3 (.tmp 77), type := 3, pos := "ref.go:50", after := #[{ on := 2, ground := .data }], guard := none }) (v := ?_) rfl (by kernel_rfl) (by kernel_rfl) (by kernel_rfl) (fun _ _ _ h => h) (Or.inl ⟨by rfl, ?_⟩) hS ?_
        rotate_left 1
        · intro w hw; obtain ⟨s0, s1, s2⟩ := hw; have k0 := (HFf.out _ s2).1; go_simp; try (with_reducible rfl)
        simp only [Act.put, List.setIfInBounds_toArray, List.set_cons_zero, List.set_cons_succ]
        refine wpAnyH_take (i := 4) (oi := { dst := some 79, op := .indexAddr 23 (.tmp 76) (.tmp 78), type := 0, pos := "ref.go:50", after := #[{ on := 1, ground := .data }, { on := 3, ground := .data }], guard := none }) (v := ?_) rfl (by kernel_rfl) (by kernel_rfl) (by kernel_rfl) (fun _ _ _ h => h) (Or.inl ⟨by rfl, ?_⟩) hS ?_
        rotate_left 1
        · intro w hw; obtain ⟨s0, s1, s2⟩ := hw; go_simp; try (with_reducible rfl)
        simp only [Act.put, List.setIfInBounds_toArray, List.set_cons_zero, List.set_cons_succ]
        refine wpAnyH_take (i := 5) (oi := { dst := some 80, op := .load 100 (.tmp 79), type := 100, pos := "ref.go:50", after := #[{ on := 4, ground := .data }], guard := none }) (v := (.agg #[.int .u32 (w32 A), .slice (S.q fa).sp la (S.q fa).c])) rfl (by kernel_rfl) (by kernel_rfl) (by kernel_rfl) (fun _ _ _ h => h) (Or.inl ⟨by rfl, ?_⟩) hS ?_
        · intro w hw; obtain ⟨s0, s1, s2⟩ := hw; exact exec_load_mid 100 (.tmp 79) (by exact rfl) S.m.b (S.m.o + fa * 2) (by exact rfl) _ _ (HMf.out _ s0) Tryd.underlying100 rfl (by kernel_rfl)
        simp only [Act.put, List.setIfInBounds_toArray, List.set_cons_zero, List.set_cons_succ]
        refine wpAnyH_take (i := 6) (oi := { dst := some 81, op := .fieldAddr 26 (.tmp 2) 2, type := 0, pos := "ref.go:50", after := #[{ on := 14, ground := .gcOnly Go.Departure.lateStores }], guard := none }) (v := ?_) rfl (by kernel_rfl) (by kernel_rfl) (by kernel_rfl) (fun _ _ _ h => h) (Or.inl ⟨by rfl, ?_⟩) hS ?_
        rotate_left 1
        · intro w hw; obtain ⟨s0, s1, s2⟩ := hw; go_simp; try (with_reducible rfl)
        simp only [Act.put, List.setIfInBounds_toArray, List.set_cons_zero, List.set_cons_succ]
        refine wpAnyH_take (i := 7) (oi := { dst := some 82, op := .load 23 (.tmp 81), type := 23, pos := "ref.go:50", after := #[{ on := 6, ground := .data }, { on := 14, ground := .gcOnly Go.Departure.lateStores }], guard := none }) (v := ?_) rfl (by kernel_rfl) (by kernel_rfl) (by kernel_rfl) (fun _ _ _ h => h) (Or.inl ⟨by rfl, ?_⟩) hS ?_
        rotate_left 1
        · intro w hw; obtain ⟨s0, s1, s2⟩ := hw; have k0 := s1.cell 2; simp at k0; go_simp; try (with_reducible rfl)
        simp only [Act.put, List.setIfInBounds_toArray, List.set_cons_zero, List.set_cons_succ]
        refine wpAnyH_take (i := 8) (oi := { dst := some 83, op := .fieldAddr 66 (.tmp 5) 1, type := 0, pos := "ref.go:50", after := #[{ on := 14, ground := .gcOnly Go.Departure.lateStores }], guard := none }) (v := ?_) rfl (by kernel_rfl) (by kernel_rfl) (by kernel_rfl) (fun _ _ _ h => h) (Or.inl ⟨by rfl, ?_⟩) hS ?_
        rotate_left 1
        · intro w hw; obtain ⟨s0, s1, s2⟩ := hw; go_simp; try (with_reducible rfl)
        simp only [Act.put, List.setIfInBounds_toArray, List.set_cons_zero, List.set_cons_succ]
        refine wpAnyH_take (i := 9) (oi := { dst := some 84, op := .load 3 (.tmp 83), type := 3, pos := "ref.go:50", after := #[{ on := 8, ground := .data }, { on := 14, ground := .gcOnly Go.Departure.lateStores }], guard := none }) (v := ?_) rfl (by kernel_rfl) (by kernel_rfl) (by kernel_rfl) (fun _ _ _ h => h) (Or.inl ⟨by rfl, ?_⟩) hS ?_
        rotate_left 1
        · intro w hw; obtain ⟨s0, s1, s2⟩ := hw; have k0 := (HFf.out _ s2).2.1; go_simp; try (with_reducible rfl)
        simp only [Act.put, List.setIfInBounds_toArray, List.set_cons_zero, List.set_cons_succ]
        refine wpAnyH_take (i := 10) (oi := { dst := some 85, op := .indexAddr 23 (.tmp 82) (.tmp 84), type := 0, pos := "ref.go:50", after := #[{ on := 7, ground := .data }, { on := 9, ground := .data }, { on := 14, ground := .gcOnly Go.Departure.lateStores }], guard := none }) (v := ?_) rfl (by kernel_rfl) (by kernel_rfl) (by kernel_rfl) (fun _ _ _ h => h) (Or.inl ⟨by rfl, ?_⟩) hS ?_
        rotate_left 1
        · intro w hw; obtain ⟨s0, s1, s2⟩ := hw; go_simp; try (with_reducible rfl)
        simp only [Act.put, List.setIfInBounds_toArray, List.set_cons_zero, List.set_cons_succ]
        refine wpAnyH_take (i := 11) (oi := { dst := some 86, op := .load 100 (.tmp 85), type := 100, pos := "ref.go:50", after := #[{ on := 10, ground := .data }, { on := 14, ground := .gcOnly Go.Departure.lateStores }], guard := none }) (v := (.agg #[.int .u32 (w32 B), .slice (S.q ta).sp lb (S.q ta).c])) rfl (by kernel_rfl) (by kernel_rfl) (by kernel_rfl) (fun _ _ _ h => h) (Or.inl ⟨by rfl, ?_⟩) hS ?_
        · intro w hw; obtain ⟨s0, s1, s2⟩ := hw; exact exec_load_mid 100 (.tmp 85) (by exact rfl) S.m.b (S.m.o + ta * 2) (by exact rfl) _ _ (HMt.out _ s0) Tryd.underlying100 rfl (by kernel_rfl)
        simp only [Act.put, List.setIfInBounds_toArray, List.set_cons_zero, List.set_cons_succ]
        refine wpAnyH_ready (rs := [12, 13]) (by kernel_rfl) (by simp) (AllReadyH.cons (o := { dst := some 7, op := .alloc 100, type := 0, pos := "ref.go:50", after := #[], guard := none }) rfl (fun K hK => ?_) (AllReadyH.cons (o := { dst := some 8, op := .alloc 100, type := 0, pos := "ref.go:50", after := #[], guard := none }) rfl (fun K hK => ?_) AllReadyH.nil))
        · go_simp
          obtain ⟨b7, hb7⟩ : ∃ b, b = (wd).heap.size := ⟨_, rfl⟩
          rw [← hb7]
          generalize hwg101 : World.alloc _ _ = wg101
          have bwg101 : Below (wd).heap.size (wd) wg101 := by rw [← hwg101]; exact (Below.refl _ _).alloc (Nat.le_refl _) _
          have rwg101 : RowAt wg101 b7 100 (#[.int .u32 0, .slice none 0 0]) := by rw [← hwg101, hb7]; exact RowAt.mk _ _ _
          have HG102 := Lib.hid (show Below w.heap.size w wg101 ∧ RowAt wg101 Z 26 #[.int .i64 res, .slice S.t.sp nT S.t.c, .slice (some ⟨S.m.b, S.m.o, none⟩) nM S.m.c, .slice (some ⟨S.e.b, S.e.o, none⟩) nE S.e.c] ∧ RowAt wg101 E 66 cs.toArray ∧ RowAt wg101 b7 100 (#[.int .u32 0, .slice none 0 0]) ∧ Z < b7 ∧ E < b7 from ⟨(HG1.out.1.trans ((bwg101).mono HG1.out.1.size)), (HG1.out.2.1.new (bwg101)), (HG1.out.2.2.new (bwg101)), rwg101, (by have := HG1.out.2.1.lt; omega), (by have := HG1.out.2.2.lt; omega)⟩)
          clear hwg101 bwg101 rwg101 hb7
          refine hK.out _ _ ⟨HG102.out.1, HG102.out.2.1, HG102.out.2.2.1⟩ (fun hHeld => ?_)
          clear hK K
          try simp only [Act.put, List.setIfInBounds_toArray, List.set_cons_zero, List.set_cons_succ]
          refine wpAnyH_ready (rs := [13]) (by kernel_rfl) (by simp) (AllReadyH.cons (o := { dst := some 8, op := .alloc 100, type := 0, pos := "ref.go:50", after := #[], guard := none }) rfl (fun K hK => ?_) AllReadyH.nil)
          go_simp
          obtain ⟨b8, hb8⟩ : ∃ b, b = (wg101).heap.size := ⟨_, rfl⟩
          rw [← hb8]
          generalize hwg103 : World.alloc _ _ = wg103
          have bwg103 : Below (wg101).heap.size (wg101) wg103 := by rw [← hwg103]; exact (Below.refl _ _).alloc (Nat.le_refl _) _
          have rwg103 : RowAt wg103 b8 100 (#[.int .u32 0, .slice none 0 0]) := by rw [← hwg103, hb8]; exact RowAt.mk _ _ _
          have HG104 := Lib.hid (show Below w.heap.size w wg103 ∧ RowAt wg103 Z 26 #[.int .i64 res, .slice S.t.sp nT S.t.c, .slice (some ⟨S.m.b, S.m.o, none⟩) nM S.m.c, .slice (some ⟨S.e.b, S.e.o, none⟩) nE S.e.c] ∧ RowAt wg103 E 66 cs.toArray ∧ RowAt wg103 b7 100 (#[.int .u32 0, .slice none 0 0]) ∧ Z < b7 ∧ E < b7 ∧ RowAt wg103 b8 100 (#[.int .u32 0, .slice none 0 0]) ∧ Z < b8 ∧ E < b8 ∧ b7 ≠ b8 from ⟨(HG102.out.1.trans ((bwg103).mono HG102.out.1.size)), (HG102.out.2.1.new (bwg103)), (HG102.out.2.2.1.new (bwg103)), (HG102.out.2.2.2.1.new (bwg103)), HG102.out.2.2.2.2.1, HG102.out.2.2.2.2.2, rwg103, (by have := HG102.out.2.1.lt; omega), (by have := HG102.out.2.2.1.lt; omega), (by have := HG102.out.2.2.2.1.lt; omega)⟩)
          clear hwg103 bwg103 rwg103 hb8
          refine hK.out _ _ ⟨HG104.out.1, HG104.out.2.1, HG104.out.2.2.1⟩ (fun hHeld => ?_)
          clear hK K
          try simp only [Act.put, List.setIfInBounds_toArray, List.set_cons_zero, List.set_cons_succ]
          refine wpAnyH_ready (rs := [14]) (by kernel_rfl) (by simp) (AllReadyH.cons (o := { dst := none, op := .store 100 (.tmp 7) (.tmp 80), type := 0, pos := "ref.go:50", after := #[{ on := 12, ground := .data }, { on := 5, ground := .data }, { on := 0, ground := .phase }, { on := 1, ground := .phase }, { on := 2, ground := .phase }, { on := 3, ground := .phase }, { on := 4, ground := .phase }, { on := 5, ground := .phase }, { on := 6, ground := .textOnly Go.Departure.lateStores }, { on := 7, ground := .textOnly Go.Departure.lateStores }, { on := 8, ground := .textOnly Go.Departure.lateStores }, { on := 9, ground := .textOnly Go.Departure.lateStores }, { on := 10, ground := .textOnly Go.Departure.lateStores }, { on := 11, ground := .textOnly Go.Departure.lateStores }, { on := 12, ground := .phase }, { on := 13, ground := .phase }], guard := none }) rfl (fun K hK => ?_) AllReadyH.nil)
          rw [if_pos (by rfl)]
          refine wp_store_row 100 (.tmp 7) (.tmp 80) rfl b7 #[.int .u32 (w32 A), .slice (S.q fa).sp la (S.q fa).c] rfl rfl 100 (#[.int .u32 0, .slice none 0 0]) HG104.out.2.2.2.1 (by kernel_rfl) (by rfl) (by simp [Value.oneCell']) ?_
          generalize hwg105 : World.setRow _ _ _ = wg105
          have HG106 := Lib.hid (show Below w.heap.size w wg105 ∧ RowAt wg105 Z 26 #[.int .i64 res, .slice S.t.sp nT S.t.c, .slice (some ⟨S.m.b, S.m.o, none⟩) nM S.m.c, .slice (some ⟨S.e.b, S.e.o, none⟩) nE S.e.c] ∧ RowAt wg105 E 66 cs.toArray ∧ RowAt wg105 b7 100 #[.int .u32 (w32 A), .slice (S.q fa).sp la (S.q fa).c] ∧ Z < b7 ∧ E < b7 ∧ RowAt wg105 b8 100 (#[.int .u32 0, .slice none 0 0]) ∧ Z < b8 ∧ E < b8 ∧ b7 ≠ b8 by rw [← hwg105]; exact ⟨below_row HG104.out.1 (Nat.le_refl _) (by have := HG104.out.2.2.2.2.1; have := HZE.out; omega) _, HG104.out.2.1.keep (ch_setRow _ _ _) (fun e => by have := HG104.out.2.2.2.2.1; omega), HG104.out.2.2.1.keep (ch_setRow _ _ _) (fun e => by have := HG104.out.2.2.2.2.2.1; omega), HG104.out.2.2.2.1.put, HG104.out.2.2.2.2.1, HG104.out.2.2.2.2.2.1, HG104.out.2.2.2.2.2.2.1.keep (ch_setRow _ _ _) (fun e => HG104.out.2.2.2.2.2.2.2.2.2 e.symm), HG104.out.2.2.2.2.2.2.2.1, HG104.out.2.2.2.2.2.2.2.2.1, HG104.out.2.2.2.2.2.2.2.2.2⟩)
          clear hwg105
          refine hK.out _ _ ⟨HG106.out.1, HG106.out.2.1, HG106.out.2.2.1⟩ (fun hHeld => ?_)
          clear hK K
          try simp only [Act.put]
          refine wpAnyH_ready (rs := [15]) (by kernel_rfl) (by simp) (AllReadyH.cons (o := { dst := none, op := .store 100 (.tmp 8) (.tmp 86), type := 0, pos := "ref.go:50", after := #[{ on := 13, ground := .data }, { on := 11, ground := .data }, { on := 14, ground := .chain }, { on := 0, ground := .phase }, { on := 1, ground := .phase }, { on := 2, ground := .phase }, { on := 3, ground := .phase }, { on := 4, ground := .phase }, { on := 5, ground := .phase }, { on := 6, ground := .phase }, { on := 7, ground := .phase }, { on := 8, ground := .phase }, { on := 9, ground := .phase }, { on := 10, ground := .phase }, { on := 11, ground := .phase }, { on := 12, ground := .phase }, { on := 13, ground := .phase }, { on := 14, ground := .phase }], guard := none }) rfl (fun K hK => ?_) AllReadyH.nil)
          rw [if_pos (by rfl)]
          refine wp_store_row 100 (.tmp 8) (.tmp 86) rfl b8 #[.int .u32 (w32 B), .slice (S.q ta).sp lb (S.q ta).c] rfl rfl 100 (#[.int .u32 0, .slice none 0 0]) HG106.out.2.2.2.2.2.2.1 (by kernel_rfl) (by rfl) (by simp [Value.oneCell']) ?_
          generalize hwg107 : World.setRow _ _ _ = wg107
          have HG108 := Lib.hid (show Below w.heap.size w wg107 ∧ RowAt wg107 Z 26 #[.int .i64 res, .slice S.t.sp nT S.t.c, .slice (some ⟨S.m.b, S.m.o, none⟩) nM S.m.c, .slice (some ⟨S.e.b, S.e.o, none⟩) nE S.e.c] ∧ RowAt wg107 E 66 cs.toArray ∧ RowAt wg107 b7 100 #[.int .u32 (w32 A), .slice (S.q fa).sp la (S.q fa).c] ∧ Z < b7 ∧ E < b7 ∧ RowAt wg107 b8 100 #[.int .u32 (w32 B), .slice (S.q ta).sp lb (S.q ta).c] ∧ Z < b8 ∧ E < b8 ∧ b7 ≠ b8 by rw [← hwg107]; exact ⟨below_row HG106.out.1 (Nat.le_refl _) (by have := HG106.out.2.2.2.2.2.2.2.1; have := HZE.out; omega) _, HG106.out.2.1.keep (ch_setRow _ _ _) (fun e => by have := HG106.out.2.2.2.2.2.2.2.1; omega), HG106.out.2.2.1.keep (ch_setRow _ _ _) (fun e => by have := HG106.out.2.2.2.2.2.2.2.2.1; omega), HG106.out.2.2.2.1.keep (ch_setRow _ _ _) (fun e => HG106.out.2.2.2.2.2.2.2.2.2 e), HG106.out.2.2.2.2.1, HG106.out.2.2.2.2.2.1, HG106.out.2.2.2.2.2.2.1.put, HG106.out.2.2.2.2.2.2.2.1, HG106.out.2.2.2.2.2.2.2.2.1, HG106.out.2.2.2.2.2.2.2.2.2⟩)
          clear hwg107
          refine hK.out _ _ ⟨HG108.out.1, HG108.out.2.1, HG108.out.2.2.1⟩ (fun hHeld => ?_)
          clear hK K
          try simp only [Act.put]
          refine wpAnyH_done (by kernel_rfl) ?_ _
          go_wp2
          go_meet
          case rel => exact ⟨b7, b8, rfl, rfl, HG108.out.1, HG108.out.2.1, HG108.out.2.2.1, HG108.out.2.2.2.1, HG108.out.2.2.2.2.2.2.1⟩
        · go_simp
          obtain ⟨b8, hb8⟩ : ∃ b, b = (wd).heap.size := ⟨_, rfl⟩
          rw [← hb8]
          generalize hwg109 : World.alloc _ _ = wg109
          have bwg109 : Below (wd).heap.size (wd) wg109 := by rw [← hwg109]; exact (Below.refl _ _).alloc (Nat.le_refl _) _
          have rwg109 : RowAt wg109 b8 100 (#[.int .u32 0, .slice none 0 0]) := by rw [← hwg109, hb8]; exact RowAt.mk _ _ _
          have HG110 := Lib.hid (show Below w.heap.size w wg109 ∧ RowAt wg109 Z 26 #[.int .i64 res, .slice S.t.sp nT S.t.c, .slice (some ⟨S.m.b, S.m.o, none⟩) nM S.m.c, .slice (some ⟨S.e.b, S.e.o, none⟩) nE S.e.c] ∧ RowAt wg109 E 66 cs.toArray ∧ RowAt wg109 b8 100 (#[.int .u32 0, .slice none 0 0]) ∧ Z < b8 ∧ E < b8 from ⟨(HG1.out.1.trans ((bwg109).mono HG1.out.1.size)), (HG1.out.2.1.new (bwg109)), (HG1.out.2.2.new (bwg109)), rwg109, (by have := HG1.out.2.1.lt; omega), (by have := HG1.out.2.2.lt; omega)⟩)
          clear hwg109 bwg109 rwg109 hb8
          refine hK.out _ _ ⟨HG110.out.1, HG110.out.2.1, HG110.out.2.2.1⟩ (fun hHeld => ?_)
          clear hK K
          try simp only [Act.put, List.setIfInBounds_toArray, List.set_cons_zero, List.set_cons_succ]
          refine wpAnyH_ready (rs := [12]) (by kernel_rfl) (by simp) (AllReadyH.cons (o := { dst := some 7, op := .alloc 100, type := 0, pos := "ref.go:50", after := #[], guard := none }) rfl (fun K hK => ?_) AllReadyH.nil)
          go_simp
          obtain ⟨b7, hb7⟩ : ∃ b, b = (wg109).heap.size := ⟨_, rfl⟩
          rw [← hb7]
          generalize hwg111 : World.alloc _ _ = wg111
          have bwg111 : Below (wg109).heap.size (wg109) wg111 := by rw [← hwg111]; exact (Below.refl _ _).alloc (Nat.le_refl _) _
          have rwg111 : RowAt wg111 b7 100 (#[.int .u32 0, .slice none 0 0]) := by rw [← hwg111, hb7]; exact RowAt.mk _ _ _
          have HG112 := Lib.hid (show Below w.heap.size w wg111 ∧ RowAt wg111 Z 26 #[.int .i64 res, .slice S.t.sp nT S.t.c, .slice (some ⟨S.m.b, S.m.o, none⟩) nM S.m.c, .slice (some ⟨S.e.b, S.e.o, none⟩) nE S.e.c] ∧ RowAt wg111 E 66 cs.toArray ∧ RowAt wg111 b8 100 (#[.int .u32 0, .slice none 0 0]) ∧ Z < b8 ∧ E < b8 ∧ RowAt wg111 b7 100 (#[.int .u32 0, .slice none 0 0]) ∧ Z < b7 ∧ E < b7 ∧ b7 ≠ b8 from ⟨(HG110.out.1.trans ((bwg111).mono HG110.out.1.size)), (HG110.out.2.1.new (bwg111)), (HG110.out.2.2.1.new (bwg111)), (HG110.out.2.2.2.1.new (bwg111)), HG110.out.2.2.2.2.1, HG110.out.2.2.2.2.2, rwg111, (by have := HG110.out.2.1.lt; omega), (by have := HG110.out.2.2.1.lt; omega), (by have := HG110.out.2.2.2.1.lt; omega)⟩)
          clear hwg111 bwg111 rwg111 hb7
          refine hK.out _ _ ⟨HG112.out.1, HG112.out.2.1, HG112.out.2.2.1⟩ (fun hHeld => ?_)
          clear hK K
          try simp only [Act.put, List.setIfInBounds_toArray, List.set_cons_zero, List.set_cons_succ]
          refine wpAnyH_ready (rs := [14]) (by kernel_rfl) (by simp) (AllReadyH.cons (o := { dst := none, op := .store 100 (.tmp 7) (.tmp 80), type := 0, pos := "ref.go:50", after := #[{ on := 12, ground := .data }, { on := 5, ground := .data }, { on := 0, ground := .phase }, { on := 1, ground := .phase }, { on := 2, ground := .phase }, { on := 3, ground := .phase }, { on := 4, ground := .phase }, { on := 5, ground := .phase }, { on := 6, ground := .textOnly Go.Departure.lateStores }, { on := 7, ground := .textOnly Go.Departure.lateStores }, { on := 8, ground := .textOnly Go.Departure.lateStores }, { on := 9, ground := .textOnly Go.Departure.lateStores }, { on := 10, ground := .textOnly Go.Departure.lateStores }, { on := 11, ground := .textOnly Go.Departure.lateStores }, { on := 12, ground := .phase }, { on := 13, ground := .phase }], guard := none }) rfl (fun K hK => ?_) AllReadyH.nil)
          rw [if_pos (by rfl)]
          refine wp_store_row 100 (.tmp 7) (.tmp 80) rfl b7 #[.int .u32 (w32 A), .slice (S.q fa).sp la (S.q fa).c] rfl rfl 100 (#[.int .u32 0, .slice none 0 0]) HG112.out.2.2.2.2.2.2.1 (by kernel_rfl) (by rfl) (by simp [Value.oneCell']) ?_
          generalize hwg113 : World.setRow _ _ _ = wg113
          have HG114 := Lib.hid (show Below w.heap.size w wg113 ∧ RowAt wg113 Z 26 #[.int .i64 res, .slice S.t.sp nT S.t.c, .slice (some ⟨S.m.b, S.m.o, none⟩) nM S.m.c, .slice (some ⟨S.e.b, S.e.o, none⟩) nE S.e.c] ∧ RowAt wg113 E 66 cs.toArray ∧ RowAt wg113 b8 100 (#[.int .u32 0, .slice none 0 0]) ∧ Z < b8 ∧ E < b8 ∧ RowAt wg113 b7 100 #[.int .u32 (w32 A), .slice (S.q fa).sp la (S.q fa).c] ∧ Z < b7 ∧ E < b7 ∧ b7 ≠ b8 by rw [← hwg113]; exact ⟨below_row HG112.out.1 (Nat.le_refl _) (by have := HG112.out.2.2.2.2.2.2.2.1; have := HZE.out; omega) _, HG112.out.2.1.keep (ch_setRow _ _ _) (fun e => by have := HG112.out.2.2.2.2.2.2.2.1; omega), HG112.out.2.2.1.keep (ch_setRow _ _ _) (fun e => by have := HG112.out.2.2.2.2.2.2.2.2.1; omega), HG112.out.2.2.2.1.keep (ch_setRow _ _ _) (fun e => HG112.out.2.2.2.2.2.2.2.2.2 e.symm), HG112.out.2.2.2.2.1, HG112.out.2.2.2.2.2.1, HG112.out.2.2.2.2.2.2.1.put, HG112.out.2.2.2.2.2.2.2.1, HG112.out.2.2.2.2.2.2.2.2.1, HG112.out.2.2.2.2.2.2.2.2.2⟩)
          clear hwg113
          refine hK.out _ _ ⟨HG114.out.1, HG114.out.2.1, HG114.out.2.2.1⟩ (fun hHeld => ?_)
          clear hK K
          try simp only [Act.put]
          refine wpAnyH_ready (rs := [15]) (by kernel_rfl) (by simp) (AllReadyH.cons (o := { dst := none, op := .store 100 (.tmp 8) (.tmp 86), type := 0, pos := "ref.go:50", after := #[{ on := 13, ground := .data }, { on := 11, ground := .data }, { on := 14, ground := .chain }, { on := 0, ground := .phase }, { on := 1, ground := .phase }, { on := 2, ground := .phase }, { on := 3, ground := .phase }, { on := 4, ground := .phase }, { on := 5, ground := .phase }, { on := 6, ground := .phase }, { on := 7, ground := .phase }, { on := 8, ground := .phase }, { on := 9, ground := .phase }, { on := 10, ground := .phase }, { on := 11, ground := .phase }, { on := 12, ground := .phase }, { on := 13, ground := .phase }, { on := 14, ground := .phase }], guard := none }) rfl (fun K hK => ?_) AllReadyH.nil)
          rw [if_pos (by rfl)]
          refine wp_store_row 100 (.tmp 8) (.tmp 86) rfl b8 #[.int .u32 (w32 B), .slice (S.q ta).sp lb (S.q ta).c] rfl rfl 100 (#[.int .u32 0, .slice none 0 0]) HG114.out.2.2.2.1 (by kernel_rfl) (by rfl) (by simp [Value.oneCell']) ?_
          generalize hwg115 : World.setRow _ _ _ = wg115
          have HG116 := Lib.hid (show Below w.heap.size w wg115 ∧ RowAt wg115 Z 26 #[.int .i64 res, .slice S.t.sp nT S.t.c, .slice (some ⟨S.m.b, S.m.o, none⟩) nM S.m.c, .slice (some ⟨S.e.b, S.e.o, none⟩) nE S.e.c] ∧ RowAt wg115 E 66 cs.toArray ∧ RowAt wg115 b8 100 #[.int .u32 (w32 B), .slice (S.q ta).sp lb (S.q ta).c] ∧ Z < b8 ∧ E < b8 ∧ RowAt wg115 b7 100 #[.int .u32 (w32 A), .slice (S.q fa).sp la (S.q fa).c] ∧ Z < b7 ∧ E < b7 ∧ b7 ≠ b8 by rw [← hwg115]; exact ⟨below_row HG114.out.1 (Nat.le_refl _) (by have := HG114.out.2.2.2.2.1; have := HZE.out; omega) _, HG114.out.2.1.keep (ch_setRow _ _ _) (fun e => by have := HG114.out.2.2.2.2.1; omega), HG114.out.2.2.1.keep (ch_setRow _ _ _) (fun e => by have := HG114.out.2.2.2.2.2.1; omega), HG114.out.2.2.2.1.put, HG114.out.2.2.2.2.1, HG114.out.2.2.2.2.2.1, HG114.out.2.2.2.2.2.2.1.keep (ch_setRow _ _ _) (fun e => HG114.out.2.2.2.2.2.2.2.2.2 e), HG114.out.2.2.2.2.2.2.2.1, HG114.out.2.2.2.2.2.2.2.2.1, HG114.out.2.2.2.2.2.2.2.2.2⟩)
          clear hwg115
          refine hK.out _ _ ⟨HG116.out.1, HG116.out.2.1, HG116.out.2.2.1⟩ (fun hHeld => ?_)
          clear hK K
          try simp only [Act.put]
          refine wpAnyH_done (by kernel_rfl) ?_ _
          go_wp2
          go_meet
          case rel => exact ⟨b7, b8, rfl, rfl, HG116.out.1, HG116.out.2.1, HG116.out.2.2.1, HG116.out.2.2.2.2.2.2.1, HG116.out.2.2.2.1⟩

      case rest =>
        obtain ⟨b7, b8, rfl, rfl, HQ⟩ := hcut
        clear hwd HG1
        have p0 : wc.cell? ⟨b7, 0, none⟩ = some (.int .u32 (w32 A)) := HQ.out.2.2.2.1.cell 0
        have p1 : wc.cell? ⟨b7, 1, none⟩ = some (.slice (S.q fa).sp la (S.q fa).c) := HQ.out.2.2.2.1.cell 1
        have q0 : wc.cell? ⟨b8, 0, none⟩ = some (.int .u32 (w32 B)) := HQ.out.2.2.2.2.cell 0
        have q1 : wc.cell? ⟨b8, 1, none⟩ = some (.slice (S.q ta).sp lb (S.q ta).c) := HQ.out.2.2.2.2.cell 1
        have e2 := (HFf.out wc HQ.out.2.2.1).2.2
        clear HMf HMt HFf HZE hk2 hfa2 hta2 hsm
        go_wp2
        go_loopg [9] 4 (fun g u wr => ∃ kk : Nat, kk + g = 4 ∧ u = .int .i64 (kk : Nat) ∧ Aside (wc = wr ∧ ∀ j, j < kk → rM mp (la : Int) (lb : Int) j = true))
        case atStart => exact ⟨0, by omega, rfl, rfl, fun j hj => absurd hj (Nat.not_lt_zero j)⟩
        case round =>
          obtain ⟨kk, hkg, rfl, HP⟩ := hrel
          obtain ⟨rfl, hp⟩ := HP.out
          have HP1 := Lib.hid hp
          clear HP hp
          cases gk with
          | succ g1 =>
            have hk4 : kk < 4 := by omega
            have hk5 : (kk : Int) < 4 := by omega
            have hm := HE4.out kk hk4 wc HQ.out.2.2.1
            have hrm : rM mp (la : Int) (lb : Int) kk = (inB (mp.getD kk 0) 0 (lb : Int) && ((decide (mp.getD kk 0 = 0) || decide ((kk : Int) < (la : Int))) && (List.range kk).all fun j => decide (mp.getD kk 0 = 0) || !decide (mp.getD j 0 = mp.getD kk 0))) := rfl
            obtain ⟨n, hn⟩ : ∃ n, mp.getD kk 0 = n := ⟨_, rfl⟩
            rw [hn] at hm hrm
            clear hn
            have HF := Lib.hid (fun (hb : rM mp (la : Int) (lb : Int) kk = false) => show v = false from HV1.out.trans (by rw [rangeAll_no hk4 hb]; rfl))
            have HY := Lib.hid (fun (hb : rM mp (la : Int) (lb : Int) kk = true) => show ∀ j, j < kk + 1 → rM mp (la : Int) (lb : Int) j = true from fun j hj => by
              rcases Nat.lt_or_ge j kk with h5 | h5
              · exact HP1.out j h5
              · obtain rfl : j = kk := by omega
                exact hb)
            have HRM := Lib.hid hrm
            clear hrm
            cases a1 : inB n 0 (lb : Int)
            · have HV := Lib.hid (HF.out (by rw [HRM.out, a1]; rfl))
              go_wp2_with (first | (go_at_call 76; refine (rin_any _ _ _ _).mono ?_; rintro e w' ⟨rfl, rfl⟩) | fail)
              go_ret
              exact ⟨by rw [HV.out]; rfl, HQ.out.1⟩
            by_cases a2 : n = 0
            · have HZ0 := Lib.hid a2
              have HNEXT := Lib.hid (fun (hb : ((List.range kk).all fun j => decide (n = 0) || !decide (mp.getD j 0 = n)) = true) => HY.out (by rw [HRM.out, a1, hb, decide_eq_true a2]; rfl))
              have a3 : (n != 0) = false := by simpa using a2
              clear a2 HRM HF HY
              go_wp2_with (first | (go_at_call 76; refine (rin_any _ _ _ _).mono ?_; rintro e w' ⟨rfl, rfl⟩) | fail)
              go_loopg [11] kk (fun g u wr => ∃ j : Nat, j + g = kk ∧ u = .int .i64 (j : Nat) ∧ Aside (wc = wr ∧ ∀ q, q < j → (decide (n = 0) || !decide (mp.getD q 0 = n)) = true))
              case atStart => exact ⟨0, by omega, rfl, rfl, fun q hq => absurd hq (Nat.not_lt_zero q)⟩
              case round =>
                obtain ⟨j, hjg, rfl, HP⟩ := hrel
                obtain ⟨rfl, hp⟩ := HP.out
                have HP2 := Lib.hid hp
                clear HP hp
                cases gk with
                | zero =>
                  obtain rfl : j = kk := by omega
                  have HN := Lib.hid (HNEXT.out (rangeAll_yes HP2.out))
                  go_wp2
                  go_roundg g1
                  case measure => omega
                  case rel => exact ⟨j + 1, by omega, by go_num, rfl, HN.out⟩
                | succ g2 =>
                  have hj : j < kk := by omega
                  have hj2 : (j : Int) < (kk : Int) := by omega
                  have hj4 : (j : Int) < 4 := by omega
                  have cj := HE4.out j (by omega) wc HQ.out.2.2.1
                  obtain ⟨nj, hnj⟩ : ∃ a, mp.getD j 0 = a := ⟨_, rfl⟩
                  rw [hnj] at cj
                  have HNj := Lib.hid hnj
                  clear hnj
                  have HS := Lib.hid (show ∀ q, q < j + 1 → (decide (n = 0) || !decide (mp.getD q 0 = n)) = true from fun q _ => by rw [decide_eq_true HZ0.out, Bool.true_or])
                  go_wp2
                  go_roundg g2
                  case measure => omega
                  case rel => exact ⟨j + 1, by omega, by go_num, rfl, HS.out⟩
            · have a3 : (n != 0) = true := by simpa using a2
              by_cases a6 : kk < la
              · have HNEXT := Lib.hid (fun (hb : ((List.range kk).all fun j => decide (n = 0) || !decide (mp.getD j 0 = n)) = true) => HY.out (by rw [HRM.out, a1, hb, decide_eq_true (show (kk : Int) < (la : Int) by omega)]; simp))
                have HBAD := Lib.hid (fun (j : Nat) (hj : j < kk) (he : mp.getD j 0 = n) => HF.out (by rw [HRM.out, rangeAll_no hj (by rw [decide_eq_true he, decide_eq_false a2]; rfl)]; simp))
                have a7 : ¬ (la : Int) ≤ (kk : Int) := by omega
                clear a2 a6 HRM HF HY
                go_wp2_with (first | (go_at_call 76; refine (rin_any _ _ _ _).mono ?_; rintro e w' ⟨rfl, rfl⟩) | fail)
                go_loopg [11] kk (fun g u wr => ∃ j : Nat, j + g = kk ∧ u = .int .i64 (j : Nat) ∧ Aside (wc = wr ∧ ∀ q, q < j → (decide (n = 0) || !decide (mp.getD q 0 = n)) = true))
                case atStart => exact ⟨0, by omega, rfl, rfl, fun q hq => absurd hq (Nat.not_lt_zero q)⟩
                case round =>
                  obtain ⟨j, hjg, rfl, HP⟩ := hrel
                  obtain ⟨rfl, hp⟩ := HP.out
                  have HP2 := Lib.hid hp
                  clear HP hp
                  cases gk with
                  | zero =>
                    obtain rfl : j = kk := by omega
                    have HN := Lib.hid (HNEXT.out (rangeAll_yes HP2.out))
                    go_wp2
                    go_roundg g1
                    case measure => omega
                    case rel => exact ⟨j + 1, by omega, by go_num, rfl, HN.out⟩
                  | succ g2 =>
                    have hj : j < kk := by omega
                    have hj2 : (j : Int) < (kk : Int) := by omega
                    have hj4 : (j : Int) < 4 := by omega
                    have cj := HE4.out j (by omega) wc HQ.out.2.2.1
                    obtain ⟨nj, hnj⟩ : ∃ a, mp.getD j 0 = a := ⟨_, rfl⟩
                    rw [hnj] at cj
                    have HNj := Lib.hid hnj
                    clear hnj
                    by_cases a4 : nj = n
                    · have HV := Lib.hid (HBAD.out j hj (by rw [HNj.out]; exact a4))
                      have a5 : (nj == n) = true := by simpa using a4
                      subst a4
                      go_wp2
                      go_ret
                      exact ⟨by rw [HV.out]; rfl, HQ.out.1⟩
                    · have HS := Lib.hid (show ∀ q, q < j + 1 → (decide (n = 0) || !decide (mp.getD q 0 = n)) = true from fun q hq => by
                        rcases Nat.lt_or_ge q j with h5 | h5
                        · exact HP2.out q h5
                        · obtain rfl : q = j := by omega
                          rw [HNj.out, decide_eq_false a4]; simp)
                      have a5 : (nj == n) = false := by simpa using a4
                      clear a4
                      go_wp2
                      go_roundg g2
                      case measure => omega
                      case rel => exact ⟨j + 1, by omega, by go_num, rfl, HS.out⟩
              · have HV := Lib.hid (HF.out (by rw [HRM.out, a1, decide_eq_false a2, decide_eq_false (show ¬ (kk : Int) < (la : Int) by omega)]; simp))
                have a7 : (la : Int) ≤ (kk : Int) := by omega
                clear a2 a6
                go_wp2_with (first | (go_at_call 76; refine (rin_any _ _ _ _).mono ?_; rintro e w' ⟨rfl, rfl⟩) | fail)
                go_ret
                exact ⟨by rw [HV.out]; rfl, HQ.out.1⟩
          | zero =>
            obtain rfl : kk = 4 := by omega
            have HV2 := Lib.hid (show v = (List.range 16).all (rO offs prot A B) from HV1.out.trans (by rw [rangeAll_yes HP1.out, Bool.true_and]))
            clear HV1 HP1 p1 q1 HE4
            go_wp2
            go_loopg [12] 16 (fun g u wr => ∃ kk : Nat, kk + g = 16 ∧ u = .int .i64 (kk : Nat) ∧ Aside (wc = wr ∧ ∀ j, j < kk → rO offs prot A B j = true))
            case atStart => exact ⟨0, by omega, rfl, rfl, fun j hj => absurd hj (Nat.not_lt_zero j)⟩
            case round =>
              obtain ⟨kk, hkg, rfl, HP⟩ := hrel
              obtain ⟨rfl, hp⟩ := HP.out
              have HP1 := Lib.hid hp
              clear HP hp
              cases gk with
              | zero =>
                obtain rfl : kk = 16 := by omega
                have HV := Lib.hid (show v = true from HV2.out.trans (rangeAll_yes HP1.out))
                go_wp2
                go_ret
                exact ⟨by rw [HV.out]; rfl, HQ.out.1⟩
              | succ g1 =>
                have hk4 : kk < 16 := by omega
                have hk5 : (kk : Int) < 16 := by omega
                have hm := HE16.out kk hk4 wc HQ.out.2.2.1
                have hrm : rO offs prot A B kk = (inB (offs.getD kk 0) 0 16384 && (decide (offs.getD kk 0 = 0) || (prot == 3 && (hasB B (kk : Int) && !hasB A (kk : Int))))) := rfl
                obtain ⟨n, hn⟩ : ∃ n, offs.getD kk 0 = n := ⟨_, rfl⟩
                rw [hn] at hm hrm
                clear hn
                have HF := Lib.hid (fun (hb : rO offs prot A B kk = false) => show v = false from HV2.out.trans (by rw [rangeAll_no hk4 hb]))
                have HY := Lib.hid (fun (hb : rO offs prot A B kk = true) => show ∀ j, j < kk + 1 → rO offs prot A B j = true from fun j hj => by
                  rcases Nat.lt_or_ge j kk with h5 | h5
                  · exact HP1.out j h5
                  · obtain rfl : j = kk := by omega
                    exact hb)
                have HHA := Lib.hid (fun wx => has10_any A (kk : Int) wx)
                have HHB := Lib.hid (fun wx => has10_any B (kk : Int) wx)
                generalize hasB A (kk : Int) = fa1 at HHA hrm
                generalize hasB B (kk : Int) = fb1 at HHB hrm
                obtain ⟨fr, hfr⟩ : ∃ fr, (prot == 3 && (fb1 && !fa1)) = fr := ⟨_, rfl⟩
                rw [hfr] at hrm
                have HRM := Lib.hid hrm
                have HFR := Lib.hid hfr
                clear hrm hfr HV2 HE16
                go_upto_region 24 with fail
                go_cut [13] from 127 to 163 (fun s13 wx => s13 = .bool fr ∧ Aside (wc = wx))
                case first => as_aux_lemma =>
                  cases b3 : prot == 3
                  · go_wp2_with (first | (go_at_call 41; refine (HHB.out _).mono ?_; rintro e w' ⟨rfl, rfl⟩; clear HHB) | (go_at_call 41; refine (HHA.out _).mono ?_; rintro e w' ⟨rfl, rfl⟩; clear HHA) | fail)
                    go_meet
                    case rel => exact ⟨by rw [← HFR.out, b3]; rfl, rfl⟩
                  · cases fb1
                    · go_wp2_with (first | (go_at_call 41; refine (HHB.out _).mono ?_; rintro e w' ⟨rfl, rfl⟩; clear HHB) | (go_at_call 41; refine (HHA.out _).mono ?_; rintro e w' ⟨rfl, rfl⟩; clear HHA) | fail)
                      go_meet
                      case rel => exact ⟨by rw [← HFR.out, b3]; rfl, rfl⟩
                    · go_wp2_with (first | (go_at_call 41; refine (HHB.out _).mono ?_; rintro e w' ⟨rfl, rfl⟩; clear HHB) | (go_at_call 41; refine (HHA.out _).mono ?_; rintro e w' ⟨rfl, rfl⟩; clear HHA) | fail)
                      go_meet
                      case rel => exact ⟨by rw [← HFR.out, b3]; simp, rfl⟩
                case rest =>
                  obtain ⟨rfl, HW⟩ := hcut
                  obtain rfl := HW.out
                  clear HHA HHB HFR HW p0 q0 e2
                  cases a1 : inB n 0 16384
                  · have HV := Lib.hid (HF.out (by rw [HRM.out, a1]; rfl))
                    go_wp2_with (first | (go_at_call 76; refine (rin_any _ _ _ _).mono ?_; rintro e w' ⟨rfl, rfl⟩) | fail)
                    go_ret
                    exact ⟨by rw [HV.out]; rfl, HQ.out.1⟩
                  by_cases a2 : n = 0
                  · have HN := Lib.hid (HY.out (by rw [HRM.out, a1, decide_eq_true a2]; rfl))
                    have a3 : (n != 0) = false := by simpa using a2
                    clear a2
                    go_wp2_with (first | (go_at_call 76; refine (rin_any _ _ _ _).mono ?_; rintro e w' ⟨rfl, rfl⟩) | fail)
                    go_roundg g1
                    case measure => omega
                    case rel => exact ⟨kk + 1, by omega, by go_num, rfl, HN.out⟩
                  · have a3 : (n != 0) = true := by simpa using a2
                    cases fr
                    · have HV := Lib.hid (HF.out (by rw [HRM.out, a1, decide_eq_false a2]; rfl))
                      clear a2
                      go_wp2_with (first | (go_at_call 76; refine (rin_any _ _ _ _).mono ?_; rintro e w' ⟨rfl, rfl⟩) | fail)
                      go_ret
                      exact ⟨by rw [HV.out]; rfl, HQ.out.1⟩
                    · have HN := Lib.hid (HY.out (by rw [HRM.out, a1]; simp))
                      clear a2
                      go_wp2_with (first | (go_at_call 76; refine (rin_any _ _ _ _).mono ?_; rintro e w' ⟨rfl, rfl⟩) | fail)
                      go_roundg g1
                      case measure => omega
                      case rel => exact ⟨kk + 1, by omega, by go_num, rfl, HN.out⟩
end Go.Proofs.YtchmdnmifpjfkaaDoor
/- ref10's edge asks what image's edgeMayBe asks, where the modes have few queues: plain facts, no statement about the program's functions. -/
namespace Go.Proofs.YtchmdnmifpjfkaaDoor
open Go.RowKit

theorem inB_true {n a b : Int} : inB n a b = true ↔ a ≤ n ∧ n ≤ b := by simp [inB]
theorem all_congr {n : Nat} {p q : Nat → Bool} (h : ∀ k, k < n → p k = q k) : (List.range n).all p = (List.range n).all q := by
  induction n with
  | zero => rfl
  | succ n ih => rw [List.range_succ, List.all_append, List.all_append, ih fun k hk => h k (by omega)]; simp [h n (by omega)]
theorem taken_has (l : List Int) (n : Int) (h0 : n ≠ 0) (h1 : 0 ≤ n) (h2 : n < 32) : ∀ k, hasB (takenB l k) n = !((List.range k).all fun j => !decide (l.getD j 0 = n)) := by
  intro k
  obtain ⟨m, rfl⟩ := Int.eq_ofNat_of_zero_le h1
  have hm : m < 32 := by omega
  rw [hasB_nat _ _ hm]
  induction k with
  | zero => simp [takenB]
  | succ k ih =>
    rw [List.range_succ, List.all_append, List.all_cons, List.all_nil, Bool.and_true]
    unfold takenB
    by_cases hz : l.getD k 0 = 0
    · rw [if_pos hz, ih]
      have : ¬ l.getD k 0 = (m : Int) := by omega
      rw [decide_eq_false this, Bool.not_false, Bool.and_true]
    · rw [if_neg hz, BitVec.getLsbD_or, ih, onl_bit _ _ hm]
      by_cases he : l.getD k 0 = (m : Int)
      · rw [decide_eq_true he, decide_eq_true he.symm, Bool.or_true, Bool.not_true, Bool.and_false, Bool.not_false]
      · have : ¬ (m : Int) = l.getD k 0 := fun e => he e.symm
        rw [decide_eq_false he, decide_eq_false this, Bool.or_false, Bool.not_false, Bool.and_true]
theorem rM_eq (l : List Int) (la lb k : Nat) (hb : lb < 32) : rM l (la : Int) (lb : Int) k = mapK l (la : Int) (lb : Int) k := by
  unfold rM mapK
  cases hi : inB (l.getD k 0) 0 (lb : Int)
  · rfl
  · obtain ⟨h1, h2⟩ := inB_true.1 hi
    by_cases h0 : l.getD k 0 = 0
    · have : (List.range k).all (fun j => decide (l.getD k 0 = 0) || !decide (l.getD j 0 = l.getD k 0)) = true := by
        rw [List.all_eq_true]; intro j _; rw [decide_eq_true h0]; rfl
      rw [this, decide_eq_true h0]; rfl
    · rw [taken_has l _ h0 h1 (by omega) k, decide_eq_false h0]
      simp
theorem rO_eq (l : List Int) (prot : Int) (a b : BitVec 32) (k : Nat) (hk : k < 16) : rO l prot a b k = offK l prot (b &&& ~~~a) k := by
  unfold rO offK mostO
  have hh : hasB (b &&& ~~~a) (k : Int) = (hasB b (k : Int) && !hasB a (k : Int)) := by
    rw [hasB_nat _ _ (by omega), hasB_nat _ _ (by omega), hasB_nat _ _ (by omega)]
    simp [show k < 32 by omega]
  rw [hh]
  obtain ⟨q, hq⟩ : ∃ q, (prot == 3 && (hasB b (k : Int) && !hasB a (k : Int))) = q := ⟨_, rfl⟩
  rw [hq]
  cases q
  · rw [if_neg (by simp)]
    simp only [Bool.or_false]
    unfold inB
    rw [← Bool.decide_and]
    congr 1
    apply propext
    constructor <;> intro h <;> omega
  · rw [if_pos rfl]; simp
theorem ix_first {x : Img} {k : Nat} (hk : k < x.edges.length) : (List.range k).all (fun j => !isE x (x.e k).frm (x.e k).dst j) = decide ((ixE x (x.e k).frm (x.e k).dst).getD 0 = k) := by
  have hs : isE x (x.e k).frm (x.e k).dst k = true := by simp [isE]
  generalize (x.e k).frm = f at hs ⊢
  generalize (x.e k).dst = t at hs ⊢
  cases ho : ixE x f t with
  | none =>
    unfold ixE at ho
    rw [List.find?_eq_none] at ho
    exact absurd hs (ho k (List.mem_range.2 hk))
  | some i =>
    have ho2 := ho
    unfold ixE at ho2
    rw [List.find?_range_eq_some] at ho2
    obtain ⟨h1, -, h2⟩ := ho2
    have hik : i ≤ k := by
      rcases Nat.lt_or_ge k i with h3 | h3
      · have := h2 k h3
        rw [hs] at this; simp at this
      · exact h3
    show _ = decide (i = k)
    by_cases he : i = k
    · subst he
      rw [decide_eq_true rfl]
      exact rangeAll_yes fun j hj => h2 j hj
    · rw [decide_eq_false he]
      exact rangeAll_no (k := i) (by omega) (by rw [h1]; rfl)
/-- The reference asks the same. -/
theorem redge_eq {x : Img} (k : Nat) (hk : k < x.edges.length) (hq : ∀ m, m < x.modes.length → (x.m m).qs.length ≤ 4) : redgeOK x k = edgeOK x k := by
  unfold redgeOK redgeB edgeOK
  have hm : ∀ m, inB m 0 ((x.modes.length : Int) - 1) = isMode x m := fun m => by
    unfold inB isMode
    congr 1
    apply propext
    constructor <;> intro h <;> omega
  rw [hm, hm, ix_first hk]
  cases h1 : isMode x (x.e k).frm
  · simp
  cases h2 : isMode x (x.e k).dst
  · simp
  have g1 : 0 ≤ (x.e k).frm ∧ (x.e k).frm < (x.modes.length : Int) := by simpa [isMode] using h1
  have g2 : 0 ≤ (x.e k).dst ∧ (x.e k).dst < (x.modes.length : Int) := by simpa [isMode] using h2
  have hlb : qlen x (x.e k).dst < 32 := by
    have := hq (x.e k).dst.toNat (by omega)
    unfold qlen; omega
  have e1 : tasksM x (x.e k).frm = (x.m (x.e k).frm.toNat).tasks := if_pos g1
  have e2 : tasksM x (x.e k).dst = (x.m (x.e k).dst.toNat).tasks := if_pos g2
  rw [e1, e2]
  have e3 : (List.range 4).all (rM (x.e k).map (qlen x (x.e k).frm : Int) (qlen x (x.e k).dst : Int)) = mapOK (x.e k).map (qlen x (x.e k).frm : Int) (qlen x (x.e k).dst : Int) := all_congr fun j _ => rM_eq _ _ _ j hlb
  have e4 : (List.range 16).all (rO (x.e k).offs (x.e k).prot (x.m (x.e k).frm.toNat).tasks (x.m (x.e k).dst.toNat).tasks) = offOK (x.e k).offs (x.e k).prot ((x.m (x.e k).dst.toNat).tasks &&& ~~~(x.m (x.e k).frm.toNat).tasks) := all_congr fun j hj => rO_eq _ _ _ _ j hj
  rw [e3, e4]
  rfl
end Go.Proofs.YtchmdnmifpjfkaaDoor
/- The contract of image's checkEdges. -/
namespace Go.Proofs.YtchmdnmifpjfkaaDoor
open Go.RowKit

/-- What is said of an image's edges. -/
def codeE (x : Img) : Int × Int := if 24 < x.edges.length then ((x.edges.length : Int), 102) else codeOf (firstNo x.edges.length (edgeOK x)) 102
end Go.Proofs.YtchmdnmifpjfkaaDoor
/- The contract of image's Check. -/
namespace Go.Proofs.YtchmdnmifpjfkaaDoor
open Go.RowKit

/-- What is said of an image. -/
def codeAll (x : Img) : Int × Int := if inB x.res 0 8 = true then (if (codeT x).2 = 0 then (if (codeM x).2 = 0 then codeE x else codeM x) else codeT x) else (0, 103)
end Go.Proofs.YtchmdnmifpjfkaaDoor
