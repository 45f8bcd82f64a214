/- The contract of image's edgeMayBe. -/
import Derived.Test.YtandehdgpbflmaaJG
namespace Go.Proofs.Ytandehdgpbflmaa
open Go.RowKit

theorem exec_load_mid {P : Program} {o : Oper} {a : Act} {w : World} (ty : TypeId) (x : Operand) (ho : o.op = .load ty x) (b off : Nat) (hx : a.eval x = .pointer (some ⟨b, off, none⟩)) (cs : List Value) (d : TypeDesc)
    (hc : At w b off cs) (hu : P.underlying ty = some d) (hd : d.isRow = true) (hi : (P.info? ty).map (·.size) = some cs.length) :
    (execOp a.eval o).run P w = .ok (Next.value (.agg cs.toArray)) w := by
  unfold execOp
  simp only [ho, hx, Instr.loadAt, Instr.sureAddr, Sem.run_bind, Sem.run_pure, Result.andThen_ok, run_loadVar_mid w b off ty cs d hc hu hd hi]
theorem exec_row_load {P : Program} {o : Oper} {a : Act} {w : World} (ty : TypeId) (x : Operand) (ho : o.op = .load ty x) (g : Nat) (hx : a.eval x = .pointer (some ⟨g, 0, none⟩)) (t : TypeId) (cs : Array Value) (fr : Nat × Nat) (d : TypeDesc)
    (hg : w.heap[g]? = some (.cells cs t fr)) (hu : P.underlying ty = some d) (hd : (match d with | .struct _ | .array _ _ => true | _ => false) = true) (hi : (P.info? ty).map (·.size) = some cs.size) :
    (execOp a.eval o).run P w = .ok (Next.value (.agg cs)) w := by
  unfold execOp
  simp only [ho, hx, Instr.loadAt, Instr.sureAddr, Sem.run_bind, Sem.run_pure, Result.andThen_ok, run_loadVar_row w g t ty cs fr d hg hu hd hi]
theorem edgeC_offs (e : EdgeM) (j : Nat) (u : Value) (h : (rowZ e.offs)[j]? = some u) : (edgeC e).toArray[3 + j]? = some u := by
  have hl : j < (rowZ e.offs).length := by
    rcases Nat.lt_or_ge j (rowZ e.offs).length with h1 | h1
    · exact h1
    · rw [List.getElem?_eq_none h1] at h; simp at h
  unfold edgeC
  rw [show 3 + j = j + 3 by omega]
  simp [List.getElem?_append_left hl, h]
theorem edgeC_map (e : EdgeM) (h16 : e.offs.length = 16) (j : Nat) (u : Value) (h : (rowZ e.map)[j]? = some u) : (edgeC e).toArray[19 + j]? = some u := by
  have hl : (rowZ e.offs).length = 16 := by rw [rowZ_len, h16]
  unfold edgeC
  rw [show 19 + j = (16 + j) + 3 by omega]
  simp [List.getElem?_append_right (show (rowZ e.offs).length ≤ 16 + j by omega), hl, h]
/-- Is there such a mode? -/
def isMode (x : Img) (m : Int) : Bool := decide (0 ≤ m ∧ m < (x.modes.length : Int))
def qlen (x : Img) (m : Int) : Nat := (x.m m.toNat).qs.length
/-- May an image's k-th edge be? -/
def edgeOK (x : Img) (k : Nat) : Bool :=
  !(decide ((x.e k).frm = (x.e k).dst)) && (isMode x (x.e k).frm && (isMode x (x.e k).dst && (inB (x.e k).prot 1 3 && (decide ((ixE x (x.e k).frm (x.e k).dst).getD 0 = k) &&
    (mapOK (x.e k).map (qlen x (x.e k).frm : Int) (qlen x (x.e k).dst : Int) && offOK (x.e k).offs (x.e k).prot (tasksM x (x.e k).dst &&& ~~~tasksM x (x.e k).frm))))))
set_option maxHeartbeats 8000000 in
set_option maxRecDepth 100000 in
theorem iedgeMayBe_any {w : World} {V : Nat → Prop} {x : Img} {S : ImgS} (h : ImgAt w V x S) (k : Nat) (hk : k < x.edges.length) :
    Calls Try.prog 64 #[.agg #[.int .i64 x.res, .slice S.t.sp x.tasks.length S.t.c, .slice S.m.sp x.modes.length S.m.c, .slice S.e.sp x.edges.length S.e.c], .int .i64 (k : Int)] w fun e w' => e = .returned (.bool (edgeOK x k)) ∧ Below w.heap.size w w' := by
  have HI := Lib.hid h
  obtain ⟨hcs, hl1, hl2⟩ := h.ed k hk
  have hlen := edgeC_len hl1 hl2
  have hone := edgeC_one (x.e k)
  obtain ⟨hsp, hbl, -⟩ := h.se.at_ (by omega)
  have HO := Lib.hid (show edgeOK x k = (!(decide ((x.e k).frm = (x.e k).dst)) && (isMode x (x.e k).frm && (isMode x (x.e k).dst && (inB (x.e k).prot 1 3 && (decide ((ixE x (x.e k).frm (x.e k).dst).getD 0 = k) && (mapOK (x.e k).map (qlen x (x.e k).frm : Int) (qlen x (x.e k).dst : Int) && offOK (x.e k).offs (x.e k).prot (tasksM x (x.e k).dst &&& ~~~tasksM x (x.e k).frm))))))) from rfl)
  have HTk := Lib.hid (show ∀ wx (m : Int), Below w.heap.size w wx → _ from fun wx m hb => iTasks_any (h.new hb) m)
  have HEd := Lib.hid (show ∀ wx, Below w.heap.size w wx → _ from fun wx hb => iEdge_any (h.new hb) (x.e k).frm (x.e k).dst)
  have HHm := Lib.hid (fun (m : Int) (wx : World) => show Calls Try.prog 44 #[.agg #[.int .i64 x.res, .slice S.t.sp x.tasks.length S.t.c, .slice S.m.sp x.modes.length S.m.c, .slice S.e.sp x.edges.length S.e.c], .int .i64 m] wx fun e w' => e = .returned (.bool (isMode x m)) ∧ Below wx.heap.size wx w' from hasMode_any x.res S.t.sp S.m.sp S.e.sp x.tasks.length S.t.c x.modes.length S.m.c x.edges.length S.e.c m wx)
  have HMp := Lib.hid (fun (a b : Int) (wx : World) => imapMayBe_any (x.e k).map hl2 a b wx)
  have HOf := Lib.hid (fun (b : BitVec 32) (wx : World) => ioffsetsMayBe_any (edgeC (x.e k)).toArray (x.e k).prot (x.e k).offs hl1 rfl (edgeC_offs _) b wx)
  have HMc := Lib.hid (fun (wx : World) (a : Nat) (ha : a < x.modes.length) (hb : Below w.heap.size w wx) => ((h.new hb).md a ha).2.1)
  have HSm := Lib.hid (fun (h0 : 0 < x.modes.length) => (h.sm.at_ h0).1)
  have hrow : At w S.e.b (S.e.o + k * 23) (edgeC (x.e k)) ∧ (edgeC (x.e k))[0]? = some (.int .i64 (x.e k).frm) ∧ (edgeC (x.e k))[1]? = some (.int .i64 (x.e k).dst) ∧ (edgeC (x.e k))[2]? = some (.int .i64 (x.e k).prot) ∧ (edgeC (x.e k)).length = 23 ∧ (edgeC (x.e k)).toArray.size = 23 ∧ (edgeC (x.e k)).toArray.all (·.oneCell') = true ∧ ∀ (j : Nat) (u : Value), (rowZ (x.e k).map)[j]? = some u → (edgeC (x.e k)).toArray[19 + j]? = some u :=
    ⟨hcs, rfl, rfl, rfl, hlen, by simpa using hlen, by simpa using hone, edgeC_map _ hl1⟩
  have HML := Lib.hid (show (rowZ (x.e k).map).length = 4 by rw [rowZ_len, hl2])
  obtain ⟨f, hf⟩ : ∃ f, (x.e k).frm = f := ⟨_, rfl⟩
  obtain ⟨t, ht⟩ : ∃ t, (x.e k).dst = t := ⟨_, rfl⟩
  obtain ⟨prot, hpr⟩ : ∃ t, (x.e k).prot = t := ⟨_, rfl⟩
  obtain ⟨offs, hofs⟩ : ∃ t, (x.e k).offs = t := ⟨_, rfl⟩
  obtain ⟨mp, hmp⟩ : ∃ t, (x.e k).map = t := ⟨_, rfl⟩
  obtain ⟨cs, hcc⟩ : ∃ cs, edgeC (x.e k) = cs := ⟨_, rfl⟩
  rw [hf, ht, hpr, hofs, hmp] at HO
  rw [hf, ht] at HEd
  rw [hmp] at HMp HML
  rw [hpr, hofs, hcc] at HOf
  rw [hf, ht, hpr, hmp, hcc] at hrow
  obtain ⟨v, hv⟩ : ∃ v, edgeOK x k = v := ⟨_, rfl⟩
  rw [hv] at HO ⊢
  obtain ⟨g, hg⟩ : ∃ g, (ixE x f t).getD 0 = g := ⟨_, rfl⟩
  obtain ⟨gb, hgb⟩ : ∃ g, (ixE x f t).isSome = g := ⟨_, rfl⟩
  rw [hg, hgb] at HEd
  rw [hg] at HO
  obtain ⟨res, hres⟩ : ∃ n, x.res = n := ⟨_, rfl⟩
  obtain ⟨nT, hnT⟩ : ∃ n, x.tasks.length = n := ⟨_, rfl⟩
  obtain ⟨nM, hnM⟩ : ∃ n, x.modes.length = n := ⟨_, rfl⟩
  obtain ⟨nE, hnE⟩ : ∃ n, x.edges.length = n := ⟨_, rfl⟩
  have HIs := Lib.hid (show ∀ m, isMode x m = decide (0 ≤ m ∧ m < (nM : Int)) from fun m => by rw [← hnM]; rfl)
  rw [hres, hnT, hnM, hnE, hsp] at HTk HEd HHm
  rw [hnM] at HMc HSm
  rw [hnE] at hk
  rw [hres, hnT, hnM, hnE, hsp]
  have hk2 : (k : Int) < (nE : Int) := by omega
  have HR := Lib.hid hrow
  obtain ⟨Z, hZ⟩ : ∃ Z, Z = w.heap.size := ⟨_, rfl⟩
  have HZ := Lib.hid (show ∀ w2, w.alloc (.cells #[.int .i64 res, .slice S.t.sp nT S.t.c, .slice S.m.sp nM S.m.c, .slice (some ⟨S.e.b, S.e.o, none⟩) nE S.e.c] 26) = w2 → Below w.heap.size w w2 ∧ RowAt w2 Z 26 #[.int .i64 res, .slice S.t.sp nT S.t.c, .slice S.m.sp nM S.m.c, .slice (some ⟨S.e.b, S.e.o, none⟩) nE S.e.c] ∧ At w2 S.e.b (S.e.o + k * 23) cs from fun w2 hw => by
    have b1 : Below w.heap.size w w2 := by rw [← hw]; exact (Below.refl _ _).alloc (Nat.le_refl _) _
    exact ⟨b1, by rw [← hw, hZ]; exact RowAt.mk _ _ _, fun j u hu => (b1.cell (p := ⟨S.e.b, S.e.o + k * 23 + j, none⟩) hbl).trans (hrow.1 j u hu)⟩)
  clear h hcs hl1 hl2 hlen hone hsp hbl hf ht hpr hofs hmp hcc hv hg hgb hres hnT hnM hnE hrow
  go_enter Try.func64, Try.ntmps64
  go_upto_region 1 with fail
  rw [← hZ]
  generalize hw2 : World.alloc _ _ = w2
  have HZ2 := Lib.hid (HZ.out w2 hw2)
  clear hw2 hZ HZ
  have c3 : w2.cell? ⟨Z, 3, none⟩ = some (.slice (some ⟨S.e.b, S.e.o, none⟩) nE S.e.c) := HZ2.out.2.1.cell 3
  go_upto_region 2 with (first
    | (refine wpList_load_mid rfl 45 (.tmp 11) rfl S.e.b (S.e.o + k * 23) rfl cs _ HZ2.out.2.2 Try.underlying45 rfl (by rw [HR.out.2.2.2.2.1]; kernel_rfl) ?_)
    | (refine wpList_store_row rfl 45 (.tmp 5) (.tmp 12) rfl w2.heap.size cs.toArray (by rfl) (by rfl) 45 _ (heap_alloc_new w2 _) (by rw [HR.out.2.2.2.2.2.1]; kernel_rfl) (by rw [HR.out.2.2.2.2.2.1]; rfl) HR.out.2.2.2.2.2.2.1 ?_; generalize hw3 : World.setRow _ _ _ = w3)
    | fail)
  have H3 := Lib.hid (show Below w.heap.size w w3 ∧ RowAt w3 Z 26 #[.int .i64 res, .slice S.t.sp nT S.t.c, .slice S.m.sp nM S.m.c, .slice (some ⟨S.e.b, S.e.o, none⟩) nE S.e.c] ∧ RowAt w3 w2.heap.size 45 cs.toArray by
    rw [← hw3]
    have ha := alloc_row w2 #[.int .i64 0, .int .i64 0, .int .i64 0, .int .i64 0, .int .i64 0, .int .i64 0, .int .i64 0, .int .i64 0, .int .i64 0, .int .i64 0, .int .i64 0, .int .i64 0, .int .i64 0, .int .i64 0, .int .i64 0, .int .i64 0, .int .i64 0, .int .i64 0, .int .i64 0, .int .i64 0, .int .i64 0, .int .i64 0, .int .i64 0] cs.toArray 45
    exact ⟨HZ2.out.1.trans (ha.1.mono HZ2.out.1.size), HZ2.out.2.1.new ha.1, ha.2⟩)
  obtain ⟨E, hE⟩ : ∃ E, E = w2.heap.size := ⟨_, rfl⟩
  rw [← hE] at H3 ⊢
  clear hw3 hE HZ2 c3
  have HE0 := Lib.hid (show ∀ wx, RowAt wx E 45 cs.toArray → wx.cell? ⟨E, 0, none⟩ = some (.int .i64 f) ∧ wx.cell? ⟨E, 1, none⟩ = some (.int .i64 t) ∧ wx.cell? ⟨E, 2, none⟩ = some (.int .i64 prot) ∧ At wx E 19 (rowZ mp) from fun wx hr => ⟨(hr.cell 0).trans (by simpa using HR.out.2.1), (hr.cell 1).trans (by simpa using HR.out.2.2.1), (hr.cell 2).trans (by simpa using HR.out.2.2.2.1), fun j u hu => (hr.cell (19 + j)).trans (HR.out.2.2.2.2.2.2.2 j u hu)⟩)
  have c0 : w3.cell? ⟨Z, 0, none⟩ = some (.int .i64 res) := H3.out.2.1.cell 0; have c1 : w3.cell? ⟨Z, 1, none⟩ = some (.slice S.t.sp nT S.t.c) := H3.out.2.1.cell 1; have c2 : w3.cell? ⟨Z, 2, none⟩ = some (.slice S.m.sp nM S.m.c) := H3.out.2.1.cell 2; have c3 : w3.cell? ⟨Z, 3, none⟩ = some (.slice (some ⟨S.e.b, S.e.o, none⟩) nE S.e.c) := H3.out.2.1.cell 3; obtain ⟨e0, e1, e2, -⟩ := HE0.out w3 H3.out.2.2
  by_cases hft : f = t
  · have HV := Lib.hid (show v = false by rw [HO.out, decide_eq_true hft]; rfl)
    subst hft
    clear HO HEd HMp HOf HMc HSm HTk HHm HIs
    go_wp2
    go_ret
    exact ⟨by rw [HV.out]; rfl, H3.out.1⟩
  have HO1 := Lib.hid (show v = _ from HO.out.trans (by rw [decide_eq_false hft]))
  clear HO
  have HHf := Lib.hid (HHm.out f)
  have HHt := Lib.hid (HHm.out t)
  have HIf := Lib.hid (HIs.out f)
  have HIt := Lib.hid (HIs.out t)
  obtain ⟨bf, hbf⟩ : ∃ b, isMode x f = b := ⟨_, rfl⟩
  obtain ⟨bt, hbt⟩ : ∃ b, isMode x t = b := ⟨_, rfl⟩
  rw [hbf] at HHf HIf HO1
  rw [hbt] at HHt HIt HO1
  clear hbf hbt HHm HIs
  cases bf with
  | false =>
    have HV := Lib.hid (show v = false from HO1.out.trans (by rfl))
    clear HO1 HEd HMp HOf HMc HSm HTk HHt
    go_wp2_with (first | (go_at_call 44; refine (HHf.out _).mono ?_; rintro e w4 ⟨rfl, b4⟩; have H4 := Lib.hid (rrKeep H3.out b4); clear b4 c0 c1 c2 c3 e0 e1 e2 HHf; have c0 : w4.cell? ⟨Z, 0, none⟩ = some (.int .i64 res) := H4.out.2.1.cell 0; have c1 : w4.cell? ⟨Z, 1, none⟩ = some (.slice S.t.sp nT S.t.c) := H4.out.2.1.cell 1; have c2 : w4.cell? ⟨Z, 2, none⟩ = some (.slice S.m.sp nM S.m.c) := H4.out.2.1.cell 2; have c3 : w4.cell? ⟨Z, 3, none⟩ = some (.slice (some ⟨S.e.b, S.e.o, none⟩) nE S.e.c) := H4.out.2.1.cell 3; obtain ⟨e0, e1, e2, -⟩ := HE0.out w4 H4.out.2.2) | fail)
    go_ret
    exact ⟨by rw [HV.out]; rfl, H4.out.1⟩
  | true =>
  cases bt with
  | false =>
    have HV := Lib.hid (show v = false from HO1.out.trans (by rfl))
    clear HO1 HEd HMp HOf HMc HSm HTk
    go_wp2_with (first | (go_at_call 44; refine (HHf.out _).mono ?_; rintro e w4 ⟨rfl, b4⟩; have H4 := Lib.hid (rrKeep H3.out b4); clear b4 c0 c1 c2 c3 e0 e1 e2 HHf; have c0 : w4.cell? ⟨Z, 0, none⟩ = some (.int .i64 res) := H4.out.2.1.cell 0; have c1 : w4.cell? ⟨Z, 1, none⟩ = some (.slice S.t.sp nT S.t.c) := H4.out.2.1.cell 1; have c2 : w4.cell? ⟨Z, 2, none⟩ = some (.slice S.m.sp nM S.m.c) := H4.out.2.1.cell 2; have c3 : w4.cell? ⟨Z, 3, none⟩ = some (.slice (some ⟨S.e.b, S.e.o, none⟩) nE S.e.c) := H4.out.2.1.cell 3; obtain ⟨e0, e1, e2, -⟩ := HE0.out w4 H4.out.2.2) | (go_at_call 44; refine (HHt.out _).mono ?_; rintro e w5 ⟨rfl, b5⟩; have H5 := Lib.hid (rrKeep H4.out b5); clear b5 c0 c1 c2 c3 e0 e1 e2 HHt; have c0 : w5.cell? ⟨Z, 0, none⟩ = some (.int .i64 res) := H5.out.2.1.cell 0; have c1 : w5.cell? ⟨Z, 1, none⟩ = some (.slice S.t.sp nT S.t.c) := H5.out.2.1.cell 1; have c2 : w5.cell? ⟨Z, 2, none⟩ = some (.slice S.m.sp nM S.m.c) := H5.out.2.1.cell 2; have c3 : w5.cell? ⟨Z, 3, none⟩ = some (.slice (some ⟨S.e.b, S.e.o, none⟩) nE S.e.c) := H5.out.2.1.cell 3; obtain ⟨e0, e1, e2, -⟩ := HE0.out w5 H5.out.2.2) | fail)
    go_ret
    exact ⟨by rw [HV.out]; rfl, H5.out.1⟩
  | true =>
  have HWp := Lib.hid (fun wx => within_any prot 1 3 wx)
  obtain ⟨bp, hbp⟩ : ∃ b, inB prot 1 3 = b := ⟨_, rfl⟩
  rw [hbp] at HWp HO1
  clear hbp
  cases bp with
  | false =>
    have HV := Lib.hid (show v = false from HO1.out.trans (by rfl))
    clear HO1 HEd HMp HOf HMc HSm HTk
    go_wp2_with (first | (go_at_call 44; refine (HHf.out _).mono ?_; rintro e w4 ⟨rfl, b4⟩; have H4 := Lib.hid (rrKeep H3.out b4); clear b4 c0 c1 c2 c3 e0 e1 e2 HHf; have c0 : w4.cell? ⟨Z, 0, none⟩ = some (.int .i64 res) := H4.out.2.1.cell 0; have c1 : w4.cell? ⟨Z, 1, none⟩ = some (.slice S.t.sp nT S.t.c) := H4.out.2.1.cell 1; have c2 : w4.cell? ⟨Z, 2, none⟩ = some (.slice S.m.sp nM S.m.c) := H4.out.2.1.cell 2; have c3 : w4.cell? ⟨Z, 3, none⟩ = some (.slice (some ⟨S.e.b, S.e.o, none⟩) nE S.e.c) := H4.out.2.1.cell 3; obtain ⟨e0, e1, e2, -⟩ := HE0.out w4 H4.out.2.2) | (go_at_call 44; refine (HHt.out _).mono ?_; rintro e w5 ⟨rfl, b5⟩; have H5 := Lib.hid (rrKeep H4.out b5); clear b5 c0 c1 c2 c3 e0 e1 e2 HHt; have c0 : w5.cell? ⟨Z, 0, none⟩ = some (.int .i64 res) := H5.out.2.1.cell 0; have c1 : w5.cell? ⟨Z, 1, none⟩ = some (.slice S.t.sp nT S.t.c) := H5.out.2.1.cell 1; have c2 : w5.cell? ⟨Z, 2, none⟩ = some (.slice S.m.sp nM S.m.c) := H5.out.2.1.cell 2; have c3 : w5.cell? ⟨Z, 3, none⟩ = some (.slice (some ⟨S.e.b, S.e.o, none⟩) nE S.e.c) := H5.out.2.1.cell 3; obtain ⟨e0, e1, e2, -⟩ := HE0.out w5 H5.out.2.2) | (go_at_call 32; refine (HWp.out _).mono ?_; rintro e w' ⟨rfl, rfl⟩; clear HWp) | fail)
    go_ret
    exact ⟨by rw [HV.out]; rfl, H5.out.1⟩
  | true =>
  go_upto_region 5 with (first | (go_at_call 44; refine (HHf.out _).mono ?_; rintro e w4 ⟨rfl, b4⟩; have H4 := Lib.hid (rrKeep H3.out b4); clear b4 c0 c1 c2 c3 e0 e1 e2 HHf; have c0 : w4.cell? ⟨Z, 0, none⟩ = some (.int .i64 res) := H4.out.2.1.cell 0; have c1 : w4.cell? ⟨Z, 1, none⟩ = some (.slice S.t.sp nT S.t.c) := H4.out.2.1.cell 1; have c2 : w4.cell? ⟨Z, 2, none⟩ = some (.slice S.m.sp nM S.m.c) := H4.out.2.1.cell 2; have c3 : w4.cell? ⟨Z, 3, none⟩ = some (.slice (some ⟨S.e.b, S.e.o, none⟩) nE S.e.c) := H4.out.2.1.cell 3; obtain ⟨e0, e1, e2, -⟩ := HE0.out w4 H4.out.2.2) | (go_at_call 44; refine (HHt.out _).mono ?_; rintro e w5 ⟨rfl, b5⟩; have H5 := Lib.hid (rrKeep H4.out b5); clear b5 c0 c1 c2 c3 e0 e1 e2 HHt; have c0 : w5.cell? ⟨Z, 0, none⟩ = some (.int .i64 res) := H5.out.2.1.cell 0; have c1 : w5.cell? ⟨Z, 1, none⟩ = some (.slice S.t.sp nT S.t.c) := H5.out.2.1.cell 1; have c2 : w5.cell? ⟨Z, 2, none⟩ = some (.slice S.m.sp nM S.m.c) := H5.out.2.1.cell 2; have c3 : w5.cell? ⟨Z, 3, none⟩ = some (.slice (some ⟨S.e.b, S.e.o, none⟩) nE S.e.c) := H5.out.2.1.cell 3; obtain ⟨e0, e1, e2, -⟩ := HE0.out w5 H5.out.2.2) | (go_at_call 32; refine (HWp.out _).mono ?_; rintro e w' ⟨rfl, rfl⟩; clear HWp) | (go_at_call 13; refine (HEd.out _ H5.out.1).mono ?_; rintro e w6 ⟨rfl, b6⟩; have H6 := Lib.hid (rrKeep H5.out b6); clear b6 c0 c1 c2 c3 e0 e1 e2 HEd; have c0 : w6.cell? ⟨Z, 0, none⟩ = some (.int .i64 res) := H6.out.2.1.cell 0; have c1 : w6.cell? ⟨Z, 1, none⟩ = some (.slice S.t.sp nT S.t.c) := H6.out.2.1.cell 1; have c2 : w6.cell? ⟨Z, 2, none⟩ = some (.slice S.m.sp nM S.m.c) := H6.out.2.1.cell 2; have c3 : w6.cell? ⟨Z, 3, none⟩ = some (.slice (some ⟨S.e.b, S.e.o, none⟩) nE S.e.c) := H6.out.2.1.cell 3; obtain ⟨e0, e1, e2, -⟩ := HE0.out w6 H6.out.2.2) | fail)
  by_cases hgk : g = k
  case neg =>
    have HV := Lib.hid (show v = false from HO1.out.trans (by rw [decide_eq_false hgk]; rfl))
    have hgk2 : ¬ (g : Int) = (k : Int) := by omega
    clear HO1 HMp HOf HMc HSm HTk hgk
    go_wp2
    go_ret
    exact ⟨by rw [HV.out]; rfl, H6.out.1⟩
  subst hgk
  have HO2 := Lib.hid (show v = _ from HO1.out.trans (by rw [decide_eq_true (rfl : g = g)]))
  clear HO1
  have hf2 := of_decide_eq_true HIf.out.symm
  have ht2 := of_decide_eq_true HIt.out.symm
  obtain ⟨fa, rfl⟩ := Int.eq_ofNat_of_zero_le hf2.1
  obtain ⟨ta, rfl⟩ := Int.eq_ofNat_of_zero_le ht2.1
  have hsm0 := HSm.out (by omega)
  rw [hsm0] at H6 HTk c2 ⊢
  go_upto_region 7 with fail
  clear c0 c1 c2 c3 e0 e1 e2 H3 H4 H5 hsm0 HIf HIt
  have HMm := Lib.hid (fun wx => HMp.out ((x.m fa).qs.length : Int) ((x.m ta).qs.length : Int) wx)
  have HO3 := Lib.hid (show v = (mapOK mp ((x.m fa).qs.length : Int) ((x.m ta).qs.length : Int) && offOK offs prot (tasksM x (ta : Int) &&& ~~~tasksM x (fa : Int))) from HO2.out.trans (by simp only [Bool.not_false, Bool.true_and]; rfl))
  have HCa := Lib.hid (fun wx hb => HMc.out wx fa (by omega) hb)
  have HCb := Lib.hid (fun wx hb => HMc.out wx ta (by omega) hb)
  have HTt := Lib.hid (fun wx hb => HTk.out wx (ta : Int) hb)
  have HTf := Lib.hid (fun wx hb => HTk.out wx (fa : Int) hb)
  obtain ⟨na, hna⟩ : ∃ n, (x.m fa).qs.length = n := ⟨_, rfl⟩
  obtain ⟨nb, hnb⟩ : ∃ n, (x.m ta).qs.length = n := ⟨_, rfl⟩
  rw [hna] at HMm HO3 HCa
  rw [hnb] at HMm HO3 HCb
  obtain ⟨mo, hmo⟩ : ∃ m, mapOK mp (na : Int) (nb : Int) = m := ⟨_, rfl⟩
  rw [hmo] at HMm HO3
  obtain ⟨A, hA⟩ : ∃ A, tasksM x (ta : Int) = A := ⟨_, rfl⟩
  obtain ⟨B, hB⟩ : ∃ B, tasksM x (fa : Int) = B := ⟨_, rfl⟩
  rw [hA] at HTt HO3
  rw [hB] at HTf HO3
  have HOo := Lib.hid (fun wx => HOf.out (A &&& ~~~B) wx)
  obtain ⟨oo, hoo⟩ : ∃ o, offOK offs prot (A &&& ~~~B) = o := ⟨_, rfl⟩
  rw [hoo] at HOo HO3
  have la := hf2.2
  have lb := ht2.2
  have h1 := andNot32 A B
  clear hna hnb hmo hA hB hoo HO2 HMp HMc HTk HOf hf2 ht2 HI
  cases mo with
  | false =>
    refine wp_region_held_drew (S := fun w' => Below w.heap.size w w' ∧ RowAt w' Z 26 #[.int .i64 res, .slice S.t.sp nT S.t.c, .slice (some ⟨S.m.b, S.m.o, none⟩) nM S.m.c, .slice (some ⟨S.e.b, S.e.o, none⟩) nE S.e.c] ∧ RowAt w' E 45 cs.toArray) (by kernel_rfl) (rrD H6.out) (fun hS => ?_)
    refine wpAnyH_take (i := 0) (oi := { dst := some 50, op := .fieldAddr 45 (.tmp 5) 4, type := 0, pos := "image.go:142", after := #[], guard := none }) (v := ?_) rfl (by kernel_rfl) (by kernel_rfl) (by kernel_rfl) (fun _ _ _ h => h) (Or.inl ⟨by rfl, ?_⟩) hS ?_
    rotate_left 1
    · intro w hw; obtain ⟨s0, s1, s2⟩ := hw; go_simp; try (with_reducible rfl)
    simp only [Act.put, List.setIfInBounds_toArray, List.set_cons_zero, List.set_cons_succ]
    refine wpAnyH_take (i := 1) (oi := { dst := some 51, op := .load 43 (.tmp 50), type := 43, pos := "image.go:142", after := #[{ on := 0, ground := .data }], guard := none }) (v := (.agg (rowZ mp).toArray)) rfl (by kernel_rfl) (by kernel_rfl) (by kernel_rfl) (fun _ _ _ h => h) (Or.inl ⟨by rfl, ?_⟩) hS ?_
    · intro w hw; obtain ⟨s0, s1, s2⟩ := hw; exact exec_load_mid 43 (.tmp 50) (by exact rfl) E 19 (by exact rfl) (rowZ mp) _ (HE0.out _ s2).2.2.2 Try.underlying43 rfl (by rw [HML.out]; kernel_rfl)
    simp only [Act.put, List.setIfInBounds_toArray, List.set_cons_zero, List.set_cons_succ]
    refine wpAnyH_take (i := 2) (oi := { dst := some 52, op := .fieldAddr 26 (.tmp 2) 2, type := 0, pos := "image.go:142", after := #[], guard := none }) (v := ?_) rfl (by kernel_rfl) (by kernel_rfl) (by kernel_rfl) (fun _ _ _ h => h) (Or.inl ⟨by rfl, ?_⟩) hS ?_
    rotate_left 1
    · intro w hw; obtain ⟨s0, s1, s2⟩ := hw; go_simp; try (with_reducible rfl)
    simp only [Act.put, List.setIfInBounds_toArray, List.set_cons_zero, List.set_cons_succ]
    refine wpAnyH_take (i := 3) (oi := { dst := some 53, op := .load 23 (.tmp 52), type := 23, pos := "image.go:142", after := #[{ on := 2, ground := .data }], guard := none }) (v := ?_) rfl (by kernel_rfl) (by kernel_rfl) (by kernel_rfl) (fun _ _ _ h => h) (Or.inl ⟨by rfl, ?_⟩) hS ?_
    rotate_left 1
    · intro w hw; obtain ⟨s0, s1, s2⟩ := hw; have k0 := s1.cell 0; have k1 := s1.cell 1; have k2 := s1.cell 2; have k3 := s1.cell 3; simp at k0 k1 k2 k3; go_simp; try (with_reducible rfl)
    simp only [Act.put, List.setIfInBounds_toArray, List.set_cons_zero, List.set_cons_succ]
    refine wpAnyH_take (i := 4) (oi := { dst := some 54, op := .fieldAddr 45 (.tmp 5) 0, type := 0, pos := "image.go:142", after := #[], guard := none }) (v := ?_) rfl (by kernel_rfl) (by kernel_rfl) (by kernel_rfl) (fun _ _ _ h => h) (Or.inl ⟨by rfl, ?_⟩) hS ?_
    rotate_left 1
    · intro w hw; obtain ⟨s0, s1, s2⟩ := hw; go_simp; try (with_reducible rfl)
    simp only [Act.put, List.setIfInBounds_toArray, List.set_cons_zero, List.set_cons_succ]
    refine wpAnyH_take (i := 5) (oi := { dst := some 55, op := .load 3 (.tmp 54), type := 3, pos := "image.go:142", after := #[{ on := 4, ground := .data }], guard := none }) (v := ?_) rfl (by kernel_rfl) (by kernel_rfl) (by kernel_rfl) (fun _ _ _ h => h) (Or.inl ⟨by rfl, ?_⟩) hS ?_
    rotate_left 1
    · intro w hw; obtain ⟨s0, s1, s2⟩ := hw; have k0 := (HE0.out _ s2).1; go_simp; try (with_reducible rfl)
    simp only [Act.put, List.setIfInBounds_toArray, List.set_cons_zero, List.set_cons_succ]
    refine wpAnyH_take (i := 6) (oi := { dst := some 56, op := .indexAddr 23 (.tmp 53) (.tmp 55), type := 0, pos := "image.go:142", after := #[{ on := 3, ground := .data }, { on := 5, ground := .data }], guard := none }) (v := ?_) rfl (by kernel_rfl) (by kernel_rfl) (by kernel_rfl) (fun _ _ _ h => h) (Or.inl ⟨by rfl, ?_⟩) hS ?_
    rotate_left 1
    · intro w hw; obtain ⟨s0, s1, s2⟩ := hw; go_simp; try (with_reducible rfl)
    simp only [Act.put, List.setIfInBounds_toArray, List.set_cons_zero, List.set_cons_succ]
    refine wpAnyH_take (i := 7) (oi := { dst := some 57, op := .fieldAddr 48 (.tmp 56) 1, type := 0, pos := "image.go:142", after := #[{ on := 6, ground := .data }], guard := none }) (v := ?_) rfl (by kernel_rfl) (by kernel_rfl) (by kernel_rfl) (fun _ _ _ h => h) (Or.inl ⟨by rfl, ?_⟩) hS ?_
    rotate_left 1
    · intro w hw; obtain ⟨s0, s1, s2⟩ := hw; go_simp; try (with_reducible rfl)
    simp only [Act.put, List.setIfInBounds_toArray, List.set_cons_zero, List.set_cons_succ]
    refine wpAnyH_take (i := 8) (oi := { dst := some 58, op := .load 46 (.tmp 57), type := 46, pos := "image.go:142", after := #[{ on := 7, ground := .data }], guard := none }) (v := ?_) rfl (by kernel_rfl) (by kernel_rfl) (by kernel_rfl) (fun _ _ _ h => h) (Or.inl ⟨by rfl, ?_⟩) hS ?_
    rotate_left 1
    · intro w hw; obtain ⟨s0, s1, s2⟩ := hw; have k0 := HCa.out _ s0; go_simp; try (with_reducible rfl)
    simp only [Act.put, List.setIfInBounds_toArray, List.set_cons_zero, List.set_cons_succ]
    refine wpAnyH_take (i := 9) (oi := { dst := some 59, op := .call { callee := .builtin .len, args := #[.tmp 58], argTypes := #[46] }, type := 3, pos := "image.go:142", after := #[{ on := 8, ground := .data }], guard := none }) (v := ?_) rfl (by kernel_rfl) (by kernel_rfl) (by kernel_rfl) (fun _ _ _ h => h) (Or.inl ⟨by rfl, ?_⟩) hS ?_
    rotate_left 1
    · intro w hw; obtain ⟨s0, s1, s2⟩ := hw; go_simp; try (with_reducible rfl)
    simp only [Act.put, List.setIfInBounds_toArray, List.set_cons_zero, List.set_cons_succ]
    refine wpAnyH_take (i := 10) (oi := { dst := some 60, op := .fieldAddr 26 (.tmp 2) 2, type := 0, pos := "image.go:142", after := #[], guard := none }) (v := ?_) rfl (by kernel_rfl) (by kernel_rfl) (by kernel_rfl) (fun _ _ _ h => h) (Or.inl ⟨by rfl, ?_⟩) hS ?_
    rotate_left 1
    · intro w hw; obtain ⟨s0, s1, s2⟩ := hw; go_simp; try (with_reducible rfl)
    simp only [Act.put, List.setIfInBounds_toArray, List.set_cons_zero, List.set_cons_succ]
    refine wpAnyH_take (i := 11) (oi := { dst := some 61, op := .load 23 (.tmp 60), type := 23, pos := "image.go:142", after := #[{ on := 10, ground := .data }], guard := none }) (v := ?_) rfl (by kernel_rfl) (by kernel_rfl) (by kernel_rfl) (fun _ _ _ h => h) (Or.inl ⟨by rfl, ?_⟩) hS ?_
    rotate_left 1
    · intro w hw; obtain ⟨s0, s1, s2⟩ := hw; have k0 := s1.cell 0; have k1 := s1.cell 1; have k2 := s1.cell 2; have k3 := s1.cell 3; simp at k0 k1 k2 k3; go_simp; try (with_reducible rfl)
    simp only [Act.put, List.setIfInBounds_toArray, List.set_cons_zero, List.set_cons_succ]
    refine wpAnyH_take (i := 12) (oi := { dst := some 62, op := .fieldAddr 45 (.tmp 5) 1, type := 0, pos := "image.go:142", after := #[], guard := none }) (v := ?_) rfl (by kernel_rfl) (by kernel_rfl) (by kernel_rfl) (fun _ _ _ h => h) (Or.inl ⟨by rfl, ?_⟩) hS ?_
    rotate_left 1
    · intro w hw; obtain ⟨s0, s1, s2⟩ := hw; go_simp; try (with_reducible rfl)
    simp only [Act.put, List.setIfInBounds_toArray, List.set_cons_zero, List.set_cons_succ]
    refine wpAnyH_take (i := 13) (oi := { dst := some 63, op := .load 3 (.tmp 62), type := 3, pos := "image.go:142", after := #[{ on := 12, ground := .data }], guard := none }) (v := ?_) rfl (by kernel_rfl) (by kernel_rfl) (by kernel_rfl) (fun _ _ _ h => h) (Or.inl ⟨by rfl, ?_⟩) hS ?_
    rotate_left 1
    · intro w hw; obtain ⟨s0, s1, s2⟩ := hw; have k0 := (HE0.out _ s2).2.1; go_simp; try (with_reducible rfl)
    simp only [Act.put, List.setIfInBounds_toArray, List.set_cons_zero, List.set_cons_succ]
    refine wpAnyH_take (i := 14) (oi := { dst := some 64, op := .indexAddr 23 (.tmp 61) (.tmp 63), type := 0, pos := "image.go:142", after := #[{ on := 11, ground := .data }, { on := 13, ground := .data }], guard := none }) (v := ?_) rfl (by kernel_rfl) (by kernel_rfl) (by kernel_rfl) (fun _ _ _ h => h) (Or.inl ⟨by rfl, ?_⟩) hS ?_
    rotate_left 1
    · intro w hw; obtain ⟨s0, s1, s2⟩ := hw; go_simp; try (with_reducible rfl)
    simp only [Act.put, List.setIfInBounds_toArray, List.set_cons_zero, List.set_cons_succ]
    refine wpAnyH_take (i := 15) (oi := { dst := some 65, op := .fieldAddr 48 (.tmp 64) 1, type := 0, pos := "image.go:142", after := #[{ on := 14, ground := .data }], guard := none }) (v := ?_) rfl (by kernel_rfl) (by kernel_rfl) (by kernel_rfl) (fun _ _ _ h => h) (Or.inl ⟨by rfl, ?_⟩) hS ?_
    rotate_left 1
    · intro w hw; obtain ⟨s0, s1, s2⟩ := hw; go_simp; try (with_reducible rfl)
    simp only [Act.put, List.setIfInBounds_toArray, List.set_cons_zero, List.set_cons_succ]
    refine wpAnyH_take (i := 16) (oi := { dst := some 66, op := .load 46 (.tmp 65), type := 46, pos := "image.go:142", after := #[{ on := 15, ground := .data }], guard := none }) (v := ?_) rfl (by kernel_rfl) (by kernel_rfl) (by kernel_rfl) (fun _ _ _ h => h) (Or.inl ⟨by rfl, ?_⟩) hS ?_
    rotate_left 1
    · intro w hw; obtain ⟨s0, s1, s2⟩ := hw; have k0 := HCb.out _ s0; go_simp; try (with_reducible rfl)
    simp only [Act.put, List.setIfInBounds_toArray, List.set_cons_zero, List.set_cons_succ]
    refine wpAnyH_take (i := 17) (oi := { dst := some 67, op := .call { callee := .builtin .len, args := #[.tmp 66], argTypes := #[46] }, type := 3, pos := "image.go:142", after := #[{ on := 16, ground := .data }], guard := none }) (v := ?_) rfl (by kernel_rfl) (by kernel_rfl) (by kernel_rfl) (fun _ _ _ h => h) (Or.inl ⟨by rfl, ?_⟩) hS ?_
    rotate_left 1
    · intro w hw; obtain ⟨s0, s1, s2⟩ := hw; go_simp; try (with_reducible rfl)
    simp only [Act.put, List.setIfInBounds_toArray, List.set_cons_zero, List.set_cons_succ]
    refine wpAnyH_ready (rs := [18]) (by kernel_rfl) (by simp) (AllReadyH.cons (o := { dst := some 68, op := .call { callee := .value (.func 88), args := #[.tmp 51, .tmp 59, .tmp 67], argTypes := #[43, 3, 3] }, type := 4, pos := "image.go:142", after := #[{ on := 1, ground := .data }, { on := 9, ground := .data }, { on := 17, ground := .data }], guard := none }) rfl (fun K hK => ?_) AllReadyH.nil)
    go_simp
    go_at_call 88
    refine (HMm.out _).mono ?_
    rintro e w7 ⟨rfl, b7⟩
    have H7 := Lib.hid (show Below w.heap.size w w7 ∧ RowAt w7 Z 26 #[.int .i64 res, .slice S.t.sp nT S.t.c, .slice (some ⟨S.m.b, S.m.o, none⟩) nM S.m.c, .slice (some ⟨S.e.b, S.e.o, none⟩) nE S.e.c] ∧ RowAt w7 E 45 cs.toArray from rrKeep (rrD H6.out) b7)
    clear b7
    try dsimp only
    refine hK.out _ _ H7.out (fun hHeld => ?_)
    clear hK K
    try simp only [Act.put, List.setIfInBounds_toArray, List.set_cons_zero, List.set_cons_succ]
    refine wpAnyH_take (i := 19) (oi := { dst := some 69, op := .move (.tmp 68), type := 4, pos := "image.go:142", after := #[{ on := 18, ground := .data }, { on := 18, ground := .chain }], guard := none }) (v := ?_) rfl (by kernel_rfl) (by kernel_rfl) (by kernel_rfl) (fun _ _ _ h => h) (Or.inl ⟨by rfl, ?_⟩) H7.out ?_
    rotate_left 1
    · intro w hw; obtain ⟨s0, s1, s2⟩ := hw; go_simp; try (with_reducible rfl)
    simp only [Act.put, List.setIfInBounds_toArray, List.set_cons_zero, List.set_cons_succ]
    refine wpAnyH_take (i := 20) (oi := { dst := some 70, op := .load 45 (.tmp 5), type := 45, pos := "image.go:142", after := #[{ on := 19, ground := .guard }], guard := some (19, true) }) (v := undef) rfl (by kernel_rfl) (by kernel_rfl) (by kernel_rfl) (fun _ _ _ h => h) (Or.inr ⟨by rfl, rfl⟩) H7.out ?_
    simp only [Act.put, List.setIfInBounds_toArray, List.set_cons_zero, List.set_cons_succ]
    refine wpAnyH_take (i := 21) (oi := { dst := some 71, op := .load 26 (.tmp 2), type := 26, pos := "image.go:142", after := #[{ on := 19, ground := .guard }], guard := some (19, true) }) (v := undef) rfl (by kernel_rfl) (by kernel_rfl) (by kernel_rfl) (fun _ _ _ h => h) (Or.inr ⟨by rfl, rfl⟩) H7.out ?_
    simp only [Act.put, List.setIfInBounds_toArray, List.set_cons_zero, List.set_cons_succ]
    refine wpAnyH_take (i := 22) (oi := { dst := some 72, op := .fieldAddr 45 (.tmp 5) 1, type := 0, pos := "image.go:142", after := #[{ on := 19, ground := .guard }], guard := some (19, true) }) (v := undef) rfl (by kernel_rfl) (by kernel_rfl) (by kernel_rfl) (fun _ _ _ h => h) (Or.inr ⟨by rfl, rfl⟩) H7.out ?_
    simp only [Act.put, List.setIfInBounds_toArray, List.set_cons_zero, List.set_cons_succ]
    refine wpAnyH_take (i := 23) (oi := { dst := some 73, op := .load 3 (.tmp 72), type := 3, pos := "image.go:142", after := #[{ on := 22, ground := .data }, { on := 19, ground := .guard }], guard := some (19, true) }) (v := undef) rfl (by kernel_rfl) (by kernel_rfl) (by kernel_rfl) (fun _ _ _ h => h) (Or.inr ⟨by rfl, rfl⟩) H7.out ?_
    simp only [Act.put, List.setIfInBounds_toArray, List.set_cons_zero, List.set_cons_succ]
    refine wpAnyH_take (i := 25) (oi := { dst := some 75, op := .load 26 (.tmp 2), type := 26, pos := "image.go:142", after := #[{ on := 19, ground := .guard }], guard := some (19, true) }) (v := undef) rfl (by kernel_rfl) (by kernel_rfl) (by kernel_rfl) (fun _ _ _ h => h) (Or.inr ⟨by rfl, rfl⟩) H7.out ?_
    simp only [Act.put, List.setIfInBounds_toArray, List.set_cons_zero, List.set_cons_succ]
    refine wpAnyH_take (i := 26) (oi := { dst := some 76, op := .fieldAddr 45 (.tmp 5) 0, type := 0, pos := "image.go:142", after := #[{ on := 19, ground := .guard }], guard := some (19, true) }) (v := undef) rfl (by kernel_rfl) (by kernel_rfl) (by kernel_rfl) (fun _ _ _ h => h) (Or.inr ⟨by rfl, rfl⟩) H7.out ?_
    simp only [Act.put, List.setIfInBounds_toArray, List.set_cons_zero, List.set_cons_succ]
    refine wpAnyH_take (i := 27) (oi := { dst := some 77, op := .load 3 (.tmp 76), type := 3, pos := "image.go:142", after := #[{ on := 26, ground := .data }, { on := 19, ground := .guard }], guard := some (19, true) }) (v := undef) rfl (by kernel_rfl) (by kernel_rfl) (by kernel_rfl) (fun _ _ _ h => h) (Or.inr ⟨by rfl, rfl⟩) H7.out ?_
    simp only [Act.put, List.setIfInBounds_toArray, List.set_cons_zero, List.set_cons_succ]
    refine wpAnyH_ready (rs := [24]) (by kernel_rfl) (by simp) (AllReadyH.cons (o := { dst := some 74, op := .call { callee := .value (.func 15), args := #[.tmp 71, .tmp 73], argTypes := #[26, 3] }, type := 51, pos := "image.go:142", after := #[{ on := 21, ground := .data }, { on := 23, ground := .data }, { on := 19, ground := .chain }, { on := 19, ground := .guard }], guard := some (19, true) }) rfl (fun K hK => ?_) AllReadyH.nil)
    go_simp
    refine hK.out _ _ H7.out (fun hHeld => ?_)
    clear hK K
    try simp only [Act.put, List.setIfInBounds_toArray, List.set_cons_zero, List.set_cons_succ]
    refine wpAnyH_ready (rs := [28]) (by kernel_rfl) (by simp) (AllReadyH.cons (o := { dst := some 78, op := .call { callee := .value (.func 15), args := #[.tmp 75, .tmp 77], argTypes := #[26, 3] }, type := 51, pos := "image.go:142", after := #[{ on := 25, ground := .data }, { on := 27, ground := .data }, { on := 24, ground := .chain }, { on := 19, ground := .guard }], guard := some (19, true) }) rfl (fun K hK => ?_) AllReadyH.nil)
    go_simp
    refine hK.out _ _ H7.out (fun hHeld => ?_)
    clear hK K
    try simp only [Act.put, List.setIfInBounds_toArray, List.set_cons_zero, List.set_cons_succ]
    refine wpAnyH_take (i := 29) (oi := { dst := some 79, op := .binOp .andNot 51 (.tmp 74) (.tmp 78) 51, type := 51, pos := "image.go:142", after := #[{ on := 24, ground := .data }, { on := 28, ground := .data }, { on := 19, ground := .guard }], guard := some (19, true) }) (v := undef) rfl (by kernel_rfl) (by kernel_rfl) (by kernel_rfl) (fun _ _ _ h => h) (Or.inr ⟨by rfl, rfl⟩) H7.out ?_
    simp only [Act.put, List.setIfInBounds_toArray, List.set_cons_zero, List.set_cons_succ]
    refine wpAnyH_ready (rs := [30]) (by kernel_rfl) (by simp) (AllReadyH.cons (o := { dst := some 80, op := .call { callee := .value (.func 89), args := #[.tmp 70, .tmp 79], argTypes := #[45, 51] }, type := 4, pos := "image.go:142", after := #[{ on := 20, ground := .data }, { on := 29, ground := .data }, { on := 28, ground := .chain }, { on := 19, ground := .guard }], guard := some (19, true) }) rfl (fun K hK => ?_) AllReadyH.nil)
    go_simp
    refine hK.out _ _ H7.out (fun hHeld => ?_)
    clear hK K
    try simp only [Act.put, List.setIfInBounds_toArray, List.set_cons_zero, List.set_cons_succ]
    refine wpAnyH_take (i := 31) (oi := { dst := some 81, op := .pick (.tmp 69) (.tmp 80) (.const (.bool false)), type := 4, pos := "image.go:142", after := #[{ on := 19, ground := .data }, { on := 30, ground := .data }], guard := none }) (v := ?_) rfl (by kernel_rfl) (by kernel_rfl) (by kernel_rfl) (fun _ _ _ h => h) (Or.inl ⟨by rfl, ?_⟩) H7.out ?_
    rotate_left 1
    · intro w hw; obtain ⟨s0, s1, s2⟩ := hw; go_simp; try (with_reducible rfl)
    simp only [Act.put, List.setIfInBounds_toArray, List.set_cons_zero, List.set_cons_succ]
    refine wpAnyH_take (i := 32) (oi := { dst := some 4, op := .assign (.tmp 81), type := 4, pos := "image.go:142", after := #[{ on := 31, ground := .data }, { on := 30, ground := .chain }, { on := 0, ground := .phase }, { on := 1, ground := .phase }, { on := 2, ground := .phase }, { on := 3, ground := .phase }, { on := 4, ground := .phase }, { on := 5, ground := .phase }, { on := 6, ground := .phase }, { on := 7, ground := .phase }, { on := 8, ground := .phase }, { on := 9, ground := .phase }, { on := 10, ground := .phase }, { on := 11, ground := .phase }, { on := 12, ground := .phase }, { on := 13, ground := .phase }, { on := 14, ground := .phase }, { on := 15, ground := .phase }, { on := 16, ground := .phase }, { on := 17, ground := .phase }, { on := 18, ground := .phase }, { on := 19, ground := .phase }, { on := 20, ground := .phase }, { on := 21, ground := .phase }, { on := 22, ground := .phase }, { on := 23, ground := .phase }, { on := 24, ground := .phase }, { on := 25, ground := .phase }, { on := 26, ground := .phase }, { on := 27, ground := .phase }, { on := 28, ground := .phase }, { on := 29, ground := .phase }, { on := 30, ground := .phase }, { on := 31, ground := .phase }], guard := none }) (v := ?_) rfl (by kernel_rfl) (by kernel_rfl) (by kernel_rfl) (fun _ _ _ h => h) (Or.inl ⟨by rfl, ?_⟩) H7.out ?_
    rotate_left 1
    · intro w hw; obtain ⟨s0, s1, s2⟩ := hw; go_simp; try (with_reducible rfl)
    simp only [Act.put, List.setIfInBounds_toArray, List.set_cons_zero, List.set_cons_succ]
    refine wpAnyH_done (by kernel_rfl) ?_ _

    go_wp2
    go_ret
    exact ⟨by rw [HO3.out]; rfl, H7.out.1⟩
  | true =>
    refine wp_region_held_drew (S := fun w' => Below w.heap.size w w' ∧ RowAt w' Z 26 #[.int .i64 res, .slice S.t.sp nT S.t.c, .slice (some ⟨S.m.b, S.m.o, none⟩) nM S.m.c, .slice (some ⟨S.e.b, S.e.o, none⟩) nE S.e.c] ∧ RowAt w' E 45 cs.toArray) (by kernel_rfl) (rrD H6.out) (fun hS => ?_)
    refine wpAnyH_take (i := 0) (oi := { dst := some 50, op := .fieldAddr 45 (.tmp 5) 4, type := 0, pos := "image.go:142", after := #[], guard := none }) (v := ?_) rfl (by kernel_rfl) (by kernel_rfl) (by kernel_rfl) (fun _ _ _ h => h) (Or.inl ⟨by rfl, ?_⟩) hS ?_
    rotate_left 1
    · intro w hw; obtain ⟨s0, s1, s2⟩ := hw; go_simp; try (with_reducible rfl)
    simp only [Act.put, List.setIfInBounds_toArray, List.set_cons_zero, List.set_cons_succ]
    refine wpAnyH_take (i := 1) (oi := { dst := some 51, op := .load 43 (.tmp 50), type := 43, pos := "image.go:142", after := #[{ on := 0, ground := .data }], guard := none }) (v := (.agg (rowZ mp).toArray)) rfl (by kernel_rfl) (by kernel_rfl) (by kernel_rfl) (fun _ _ _ h => h) (Or.inl ⟨by rfl, ?_⟩) hS ?_
    · intro w hw; obtain ⟨s0, s1, s2⟩ := hw; exact exec_load_mid 43 (.tmp 50) (by exact rfl) E 19 (by exact rfl) (rowZ mp) _ (HE0.out _ s2).2.2.2 Try.underlying43 rfl (by rw [HML.out]; kernel_rfl)
    simp only [Act.put, List.setIfInBounds_toArray, List.set_cons_zero, List.set_cons_succ]
    refine wpAnyH_take (i := 2) (oi := { dst := some 52, op := .fieldAddr 26 (.tmp 2) 2, type := 0, pos := "image.go:142", after := #[], guard := none }) (v := ?_) rfl (by kernel_rfl) (by kernel_rfl) (by kernel_rfl) (fun _ _ _ h => h) (Or.inl ⟨by rfl, ?_⟩) hS ?_
    rotate_left 1
    · intro w hw; obtain ⟨s0, s1, s2⟩ := hw; go_simp; try (with_reducible rfl)
    simp only [Act.put, List.setIfInBounds_toArray, List.set_cons_zero, List.set_cons_succ]
    refine wpAnyH_take (i := 3) (oi := { dst := some 53, op := .load 23 (.tmp 52), type := 23, pos := "image.go:142", after := #[{ on := 2, ground := .data }], guard := none }) (v := ?_) rfl (by kernel_rfl) (by kernel_rfl) (by kernel_rfl) (fun _ _ _ h => h) (Or.inl ⟨by rfl, ?_⟩) hS ?_
    rotate_left 1
    · intro w hw; obtain ⟨s0, s1, s2⟩ := hw; have k0 := s1.cell 0; have k1 := s1.cell 1; have k2 := s1.cell 2; have k3 := s1.cell 3; simp at k0 k1 k2 k3; go_simp; try (with_reducible rfl)
    simp only [Act.put, List.setIfInBounds_toArray, List.set_cons_zero, List.set_cons_succ]
    refine wpAnyH_take (i := 4) (oi := { dst := some 54, op := .fieldAddr 45 (.tmp 5) 0, type := 0, pos := "image.go:142", after := #[], guard := none }) (v := ?_) rfl (by kernel_rfl) (by kernel_rfl) (by kernel_rfl) (fun _ _ _ h => h) (Or.inl ⟨by rfl, ?_⟩) hS ?_
    rotate_left 1
    · intro w hw; obtain ⟨s0, s1, s2⟩ := hw; go_simp; try (with_reducible rfl)
    simp only [Act.put, List.setIfInBounds_toArray, List.set_cons_zero, List.set_cons_succ]
    refine wpAnyH_take (i := 5) (oi := { dst := some 55, op := .load 3 (.tmp 54), type := 3, pos := "image.go:142", after := #[{ on := 4, ground := .data }], guard := none }) (v := ?_) rfl (by kernel_rfl) (by kernel_rfl) (by kernel_rfl) (fun _ _ _ h => h) (Or.inl ⟨by rfl, ?_⟩) hS ?_
    rotate_left 1
    · intro w hw; obtain ⟨s0, s1, s2⟩ := hw; have k0 := (HE0.out _ s2).1; go_simp; try (with_reducible rfl)
    simp only [Act.put, List.setIfInBounds_toArray, List.set_cons_zero, List.set_cons_succ]
    refine wpAnyH_take (i := 6) (oi := { dst := some 56, op := .indexAddr 23 (.tmp 53) (.tmp 55), type := 0, pos := "image.go:142", after := #[{ on := 3, ground := .data }, { on := 5, ground := .data }], guard := none }) (v := ?_) rfl (by kernel_rfl) (by kernel_rfl) (by kernel_rfl) (fun _ _ _ h => h) (Or.inl ⟨by rfl, ?_⟩) hS ?_
    rotate_left 1
    · intro w hw; obtain ⟨s0, s1, s2⟩ := hw; go_simp; try (with_reducible rfl)
    simp only [Act.put, List.setIfInBounds_toArray, List.set_cons_zero, List.set_cons_succ]
    refine wpAnyH_take (i := 7) (oi := { dst := some 57, op := .fieldAddr 48 (.tmp 56) 1, type := 0, pos := "image.go:142", after := #[{ on := 6, ground := .data }], guard := none }) (v := ?_) rfl (by kernel_rfl) (by kernel_rfl) (by kernel_rfl) (fun _ _ _ h => h) (Or.inl ⟨by rfl, ?_⟩) hS ?_
    rotate_left 1
    · intro w hw; obtain ⟨s0, s1, s2⟩ := hw; go_simp; try (with_reducible rfl)
    simp only [Act.put, List.setIfInBounds_toArray, List.set_cons_zero, List.set_cons_succ]
    refine wpAnyH_take (i := 8) (oi := { dst := some 58, op := .load 46 (.tmp 57), type := 46, pos := "image.go:142", after := #[{ on := 7, ground := .data }], guard := none }) (v := ?_) rfl (by kernel_rfl) (by kernel_rfl) (by kernel_rfl) (fun _ _ _ h => h) (Or.inl ⟨by rfl, ?_⟩) hS ?_
    rotate_left 1
    · intro w hw; obtain ⟨s0, s1, s2⟩ := hw; have k0 := HCa.out _ s0; go_simp; try (with_reducible rfl)
    simp only [Act.put, List.setIfInBounds_toArray, List.set_cons_zero, List.set_cons_succ]
    refine wpAnyH_take (i := 9) (oi := { dst := some 59, op := .call { callee := .builtin .len, args := #[.tmp 58], argTypes := #[46] }, type := 3, pos := "image.go:142", after := #[{ on := 8, ground := .data }], guard := none }) (v := ?_) rfl (by kernel_rfl) (by kernel_rfl) (by kernel_rfl) (fun _ _ _ h => h) (Or.inl ⟨by rfl, ?_⟩) hS ?_
    rotate_left 1
    · intro w hw; obtain ⟨s0, s1, s2⟩ := hw; go_simp; try (with_reducible rfl)
    simp only [Act.put, List.setIfInBounds_toArray, List.set_cons_zero, List.set_cons_succ]
    refine wpAnyH_take (i := 10) (oi := { dst := some 60, op := .fieldAddr 26 (.tmp 2) 2, type := 0, pos := "image.go:142", after := #[], guard := none }) (v := ?_) rfl (by kernel_rfl) (by kernel_rfl) (by kernel_rfl) (fun _ _ _ h => h) (Or.inl ⟨by rfl, ?_⟩) hS ?_
    rotate_left 1
    · intro w hw; obtain ⟨s0, s1, s2⟩ := hw; go_simp; try (with_reducible rfl)
    simp only [Act.put, List.setIfInBounds_toArray, List.set_cons_zero, List.set_cons_succ]
    refine wpAnyH_take (i := 11) (oi := { dst := some 61, op := .load 23 (.tmp 60), type := 23, pos := "image.go:142", after := #[{ on := 10, ground := .data }], guard := none }) (v := ?_) rfl (by kernel_rfl) (by kernel_rfl) (by kernel_rfl) (fun _ _ _ h => h) (Or.inl ⟨by rfl, ?_⟩) hS ?_
    rotate_left 1
    · intro w hw; obtain ⟨s0, s1, s2⟩ := hw; have k0 := s1.cell 0; have k1 := s1.cell 1; have k2 := s1.cell 2; have k3 := s1.cell 3; simp at k0 k1 k2 k3; go_simp; try (with_reducible rfl)
    simp only [Act.put, List.setIfInBounds_toArray, List.set_cons_zero, List.set_cons_succ]
    refine wpAnyH_take (i := 12) (oi := { dst := some 62, op := .fieldAddr 45 (.tmp 5) 1, type := 0, pos := "image.go:142", after := #[], guard := none }) (v := ?_) rfl (by kernel_rfl) (by kernel_rfl) (by kernel_rfl) (fun _ _ _ h => h) (Or.inl ⟨by rfl, ?_⟩) hS ?_
    rotate_left 1
    · intro w hw; obtain ⟨s0, s1, s2⟩ := hw; go_simp; try (with_reducible rfl)
    simp only [Act.put, List.setIfInBounds_toArray, List.set_cons_zero, List.set_cons_succ]
    refine wpAnyH_take (i := 13) (oi := { dst := some 63, op := .load 3 (.tmp 62), type := 3, pos := "image.go:142", after := #[{ on := 12, ground := .data }], guard := none }) (v := ?_) rfl (by kernel_rfl) (by kernel_rfl) (by kernel_rfl) (fun _ _ _ h => h) (Or.inl ⟨by rfl, ?_⟩) hS ?_
    rotate_left 1
    · intro w hw; obtain ⟨s0, s1, s2⟩ := hw; have k0 := (HE0.out _ s2).2.1; go_simp; try (with_reducible rfl)
    simp only [Act.put, List.setIfInBounds_toArray, List.set_cons_zero, List.set_cons_succ]
    refine wpAnyH_take (i := 14) (oi := { dst := some 64, op := .indexAddr 23 (.tmp 61) (.tmp 63), type := 0, pos := "image.go:142", after := #[{ on := 11, ground := .data }, { on := 13, ground := .data }], guard := none }) (v := ?_) rfl (by kernel_rfl) (by kernel_rfl) (by kernel_rfl) (fun _ _ _ h => h) (Or.inl ⟨by rfl, ?_⟩) hS ?_
    rotate_left 1
    · intro w hw; obtain ⟨s0, s1, s2⟩ := hw; go_simp; try (with_reducible rfl)
    simp only [Act.put, List.setIfInBounds_toArray, List.set_cons_zero, List.set_cons_succ]
    refine wpAnyH_take (i := 15) (oi := { dst := some 65, op := .fieldAddr 48 (.tmp 64) 1, type := 0, pos := "image.go:142", after := #[{ on := 14, ground := .data }], guard := none }) (v := ?_) rfl (by kernel_rfl) (by kernel_rfl) (by kernel_rfl) (fun _ _ _ h => h) (Or.inl ⟨by rfl, ?_⟩) hS ?_
    rotate_left 1
    · intro w hw; obtain ⟨s0, s1, s2⟩ := hw; go_simp; try (with_reducible rfl)
    simp only [Act.put, List.setIfInBounds_toArray, List.set_cons_zero, List.set_cons_succ]
    refine wpAnyH_take (i := 16) (oi := { dst := some 66, op := .load 46 (.tmp 65), type := 46, pos := "image.go:142", after := #[{ on := 15, ground := .data }], guard := none }) (v := ?_) rfl (by kernel_rfl) (by kernel_rfl) (by kernel_rfl) (fun _ _ _ h => h) (Or.inl ⟨by rfl, ?_⟩) hS ?_
    rotate_left 1
    · intro w hw; obtain ⟨s0, s1, s2⟩ := hw; have k0 := HCb.out _ s0; go_simp; try (with_reducible rfl)
    simp only [Act.put, List.setIfInBounds_toArray, List.set_cons_zero, List.set_cons_succ]
    refine wpAnyH_take (i := 17) (oi := { dst := some 67, op := .call { callee := .builtin .len, args := #[.tmp 66], argTypes := #[46] }, type := 3, pos := "image.go:142", after := #[{ on := 16, ground := .data }], guard := none }) (v := ?_) rfl (by kernel_rfl) (by kernel_rfl) (by kernel_rfl) (fun _ _ _ h => h) (Or.inl ⟨by rfl, ?_⟩) hS ?_
    rotate_left 1
    · intro w hw; obtain ⟨s0, s1, s2⟩ := hw; go_simp; try (with_reducible rfl)
    simp only [Act.put, List.setIfInBounds_toArray, List.set_cons_zero, List.set_cons_succ]
    refine wpAnyH_ready (rs := [18]) (by kernel_rfl) (by simp) (AllReadyH.cons (o := { dst := some 68, op := .call { callee := .value (.func 88), args := #[.tmp 51, .tmp 59, .tmp 67], argTypes := #[43, 3, 3] }, type := 4, pos := "image.go:142", after := #[{ on := 1, ground := .data }, { on := 9, ground := .data }, { on := 17, ground := .data }], guard := none }) rfl (fun K hK => ?_) AllReadyH.nil)
    go_simp
    go_at_call 88
    refine (HMm.out _).mono ?_
    rintro e w7 ⟨rfl, b7⟩
    have H7 := Lib.hid (show Below w.heap.size w w7 ∧ RowAt w7 Z 26 #[.int .i64 res, .slice S.t.sp nT S.t.c, .slice (some ⟨S.m.b, S.m.o, none⟩) nM S.m.c, .slice (some ⟨S.e.b, S.e.o, none⟩) nE S.e.c] ∧ RowAt w7 E 45 cs.toArray from rrKeep (rrD H6.out) b7)
    clear b7
    try dsimp only
    refine hK.out _ _ H7.out (fun hHeld => ?_)
    clear hK K
    try simp only [Act.put, List.setIfInBounds_toArray, List.set_cons_zero, List.set_cons_succ]
    refine wpAnyH_take (i := 19) (oi := { dst := some 69, op := .move (.tmp 68), type := 4, pos := "image.go:142", after := #[{ on := 18, ground := .data }, { on := 18, ground := .chain }], guard := none }) (v := ?_) rfl (by kernel_rfl) (by kernel_rfl) (by kernel_rfl) (fun _ _ _ h => h) (Or.inl ⟨by rfl, ?_⟩) H7.out ?_
    rotate_left 1
    · intro w hw; obtain ⟨s0, s1, s2⟩ := hw; go_simp; try (with_reducible rfl)
    simp only [Act.put, List.setIfInBounds_toArray, List.set_cons_zero, List.set_cons_succ]
    refine wpAnyH_take (i := 20) (oi := { dst := some 70, op := .load 45 (.tmp 5), type := 45, pos := "image.go:142", after := #[{ on := 19, ground := .guard }], guard := some (19, true) }) (v := (.agg cs.toArray)) rfl (by kernel_rfl) (by kernel_rfl) (by kernel_rfl) (fun _ _ _ h => h) (Or.inl ⟨by rfl, ?_⟩) H7.out ?_
    · intro w hw; obtain ⟨s0, s1, s2⟩ := hw; exact exec_row_load 45 (.tmp 5) (by exact rfl) E (by exact rfl) 45 cs.toArray (0, 0) _ s2 Try.underlying45 rfl (by rw [HR.out.2.2.2.2.2.1]; kernel_rfl)
    simp only [Act.put, List.setIfInBounds_toArray, List.set_cons_zero, List.set_cons_succ]
    refine wpAnyH_take (i := 21) (oi := { dst := some 71, op := .load 26 (.tmp 2), type := 26, pos := "image.go:142", after := #[{ on := 19, ground := .guard }], guard := some (19, true) }) (v := ?_) rfl (by kernel_rfl) (by kernel_rfl) (by kernel_rfl) (fun _ _ _ h => h) (Or.inl ⟨by rfl, ?_⟩) H7.out ?_
    rotate_left 1
    · intro w hw; obtain ⟨s0, s1, s2⟩ := hw; have k0 := s1.cell 0; have k1 := s1.cell 1; have k2 := s1.cell 2; have k3 := s1.cell 3; simp at k0 k1 k2 k3; go_simp; try (with_reducible rfl)
    simp only [Act.put, List.setIfInBounds_toArray, List.set_cons_zero, List.set_cons_succ]
    refine wpAnyH_take (i := 22) (oi := { dst := some 72, op := .fieldAddr 45 (.tmp 5) 1, type := 0, pos := "image.go:142", after := #[{ on := 19, ground := .guard }], guard := some (19, true) }) (v := ?_) rfl (by kernel_rfl) (by kernel_rfl) (by kernel_rfl) (fun _ _ _ h => h) (Or.inl ⟨by rfl, ?_⟩) H7.out ?_
    rotate_left 1
    · intro w hw; obtain ⟨s0, s1, s2⟩ := hw; go_simp; try (with_reducible rfl)
    simp only [Act.put, List.setIfInBounds_toArray, List.set_cons_zero, List.set_cons_succ]
    refine wpAnyH_take (i := 23) (oi := { dst := some 73, op := .load 3 (.tmp 72), type := 3, pos := "image.go:142", after := #[{ on := 22, ground := .data }, { on := 19, ground := .guard }], guard := some (19, true) }) (v := ?_) rfl (by kernel_rfl) (by kernel_rfl) (by kernel_rfl) (fun _ _ _ h => h) (Or.inl ⟨by rfl, ?_⟩) H7.out ?_
    rotate_left 1
    · intro w hw; obtain ⟨s0, s1, s2⟩ := hw; have k0 := (HE0.out _ s2).2.1; go_simp; try (with_reducible rfl)
    simp only [Act.put, List.setIfInBounds_toArray, List.set_cons_zero, List.set_cons_succ]
    refine wpAnyH_take (i := 25) (oi := { dst := some 75, op := .load 26 (.tmp 2), type := 26, pos := "image.go:142", after := #[{ on := 19, ground := .guard }], guard := some (19, true) }) (v := ?_) rfl (by kernel_rfl) (by kernel_rfl) (by kernel_rfl) (fun _ _ _ h => h) (Or.inl ⟨by rfl, ?_⟩) H7.out ?_
    rotate_left 1
    · intro w hw; obtain ⟨s0, s1, s2⟩ := hw; have k0 := s1.cell 0; have k1 := s1.cell 1; have k2 := s1.cell 2; have k3 := s1.cell 3; simp at k0 k1 k2 k3; go_simp; try (with_reducible rfl)
    simp only [Act.put, List.setIfInBounds_toArray, List.set_cons_zero, List.set_cons_succ]
    refine wpAnyH_take (i := 26) (oi := { dst := some 76, op := .fieldAddr 45 (.tmp 5) 0, type := 0, pos := "image.go:142", after := #[{ on := 19, ground := .guard }], guard := some (19, true) }) (v := ?_) rfl (by kernel_rfl) (by kernel_rfl) (by kernel_rfl) (fun _ _ _ h => h) (Or.inl ⟨by rfl, ?_⟩) H7.out ?_
    rotate_left 1
    · intro w hw; obtain ⟨s0, s1, s2⟩ := hw; go_simp; try (with_reducible rfl)
    simp only [Act.put, List.setIfInBounds_toArray, List.set_cons_zero, List.set_cons_succ]
    refine wpAnyH_take (i := 27) (oi := { dst := some 77, op := .load 3 (.tmp 76), type := 3, pos := "image.go:142", after := #[{ on := 26, ground := .data }, { on := 19, ground := .guard }], guard := some (19, true) }) (v := ?_) rfl (by kernel_rfl) (by kernel_rfl) (by kernel_rfl) (fun _ _ _ h => h) (Or.inl ⟨by rfl, ?_⟩) H7.out ?_
    rotate_left 1
    · intro w hw; obtain ⟨s0, s1, s2⟩ := hw; have k0 := (HE0.out _ s2).1; go_simp; try (with_reducible rfl)
    simp only [Act.put, List.setIfInBounds_toArray, List.set_cons_zero, List.set_cons_succ]
    refine wpAnyH_ready (rs := [24]) (by kernel_rfl) (by simp) (AllReadyH.cons (o := { dst := some 74, op := .call { callee := .value (.func 15), args := #[.tmp 71, .tmp 73], argTypes := #[26, 3] }, type := 51, pos := "image.go:142", after := #[{ on := 21, ground := .data }, { on := 23, ground := .data }, { on := 19, ground := .chain }, { on := 19, ground := .guard }], guard := some (19, true) }) rfl (fun K hK => ?_) AllReadyH.nil)
    go_simp
    go_at_call 15
    refine (HTt.out _ H7.out.1).mono ?_
    rintro e w8 ⟨rfl, b8⟩
    have H8 := Lib.hid (show Below w.heap.size w w8 ∧ RowAt w8 Z 26 #[.int .i64 res, .slice S.t.sp nT S.t.c, .slice (some ⟨S.m.b, S.m.o, none⟩) nM S.m.c, .slice (some ⟨S.e.b, S.e.o, none⟩) nE S.e.c] ∧ RowAt w8 E 45 cs.toArray from rrKeep H7.out b8)
    clear b8
    try dsimp only
    refine hK.out _ _ H8.out (fun hHeld => ?_)
    clear hK K
    try simp only [Act.put, List.setIfInBounds_toArray, List.set_cons_zero, List.set_cons_succ]
    refine wpAnyH_ready (rs := [28]) (by kernel_rfl) (by simp) (AllReadyH.cons (o := { dst := some 78, op := .call { callee := .value (.func 15), args := #[.tmp 75, .tmp 77], argTypes := #[26, 3] }, type := 51, pos := "image.go:142", after := #[{ on := 25, ground := .data }, { on := 27, ground := .data }, { on := 24, ground := .chain }, { on := 19, ground := .guard }], guard := some (19, true) }) rfl (fun K hK => ?_) AllReadyH.nil)
    go_simp
    go_at_call 15
    refine (HTf.out _ H8.out.1).mono ?_
    rintro e w9 ⟨rfl, b9⟩
    have H9 := Lib.hid (show Below w.heap.size w w9 ∧ RowAt w9 Z 26 #[.int .i64 res, .slice S.t.sp nT S.t.c, .slice (some ⟨S.m.b, S.m.o, none⟩) nM S.m.c, .slice (some ⟨S.e.b, S.e.o, none⟩) nE S.e.c] ∧ RowAt w9 E 45 cs.toArray from rrKeep H8.out b9)
    clear b9
    try dsimp only
    refine hK.out _ _ H9.out (fun hHeld => ?_)
    clear hK K
    try simp only [Act.put, List.setIfInBounds_toArray, List.set_cons_zero, List.set_cons_succ]
    refine wpAnyH_take (i := 29) (oi := { dst := some 79, op := .binOp .andNot 51 (.tmp 74) (.tmp 78) 51, type := 51, pos := "image.go:142", after := #[{ on := 24, ground := .data }, { on := 28, ground := .data }, { on := 19, ground := .guard }], guard := some (19, true) }) (v := ?_) rfl (by kernel_rfl) (by kernel_rfl) (by kernel_rfl) (fun _ _ _ h => h) (Or.inl ⟨by rfl, ?_⟩) H9.out ?_
    rotate_left 1
    · intro w hw; obtain ⟨s0, s1, s2⟩ := hw; go_simp; try (with_reducible rfl)
    simp only [Act.put, List.setIfInBounds_toArray, List.set_cons_zero, List.set_cons_succ]
    refine wpAnyH_ready (rs := [30]) (by kernel_rfl) (by simp) (AllReadyH.cons (o := { dst := some 80, op := .call { callee := .value (.func 89), args := #[.tmp 70, .tmp 79], argTypes := #[45, 51] }, type := 4, pos := "image.go:142", after := #[{ on := 20, ground := .data }, { on := 29, ground := .data }, { on := 28, ground := .chain }, { on := 19, ground := .guard }], guard := some (19, true) }) rfl (fun K hK => ?_) AllReadyH.nil)
    go_simp
    go_at_call 89
    refine (HOo.out _).mono ?_
    rintro e w10 ⟨rfl, b10⟩
    have H10 := Lib.hid (show Below w.heap.size w w10 ∧ RowAt w10 Z 26 #[.int .i64 res, .slice S.t.sp nT S.t.c, .slice (some ⟨S.m.b, S.m.o, none⟩) nM S.m.c, .slice (some ⟨S.e.b, S.e.o, none⟩) nE S.e.c] ∧ RowAt w10 E 45 cs.toArray from rrKeep H9.out b10)
    clear b10
    try dsimp only
    refine hK.out _ _ H10.out (fun hHeld => ?_)
    clear hK K
    try simp only [Act.put, List.setIfInBounds_toArray, List.set_cons_zero, List.set_cons_succ]
    refine wpAnyH_take (i := 31) (oi := { dst := some 81, op := .pick (.tmp 69) (.tmp 80) (.const (.bool false)), type := 4, pos := "image.go:142", after := #[{ on := 19, ground := .data }, { on := 30, ground := .data }], guard := none }) (v := ?_) rfl (by kernel_rfl) (by kernel_rfl) (by kernel_rfl) (fun _ _ _ h => h) (Or.inl ⟨by rfl, ?_⟩) H10.out ?_
    rotate_left 1
    · intro w hw; obtain ⟨s0, s1, s2⟩ := hw; go_simp; try (with_reducible rfl)
    simp only [Act.put, List.setIfInBounds_toArray, List.set_cons_zero, List.set_cons_succ]
    refine wpAnyH_take (i := 32) (oi := { dst := some 4, op := .assign (.tmp 81), type := 4, pos := "image.go:142", after := #[{ on := 31, ground := .data }, { on := 30, ground := .chain }, { on := 0, ground := .phase }, { on := 1, ground := .phase }, { on := 2, ground := .phase }, { on := 3, ground := .phase }, { on := 4, ground := .phase }, { on := 5, ground := .phase }, { on := 6, ground := .phase }, { on := 7, ground := .phase }, { on := 8, ground := .phase }, { on := 9, ground := .phase }, { on := 10, ground := .phase }, { on := 11, ground := .phase }, { on := 12, ground := .phase }, { on := 13, ground := .phase }, { on := 14, ground := .phase }, { on := 15, ground := .phase }, { on := 16, ground := .phase }, { on := 17, ground := .phase }, { on := 18, ground := .phase }, { on := 19, ground := .phase }, { on := 20, ground := .phase }, { on := 21, ground := .phase }, { on := 22, ground := .phase }, { on := 23, ground := .phase }, { on := 24, ground := .phase }, { on := 25, ground := .phase }, { on := 26, ground := .phase }, { on := 27, ground := .phase }, { on := 28, ground := .phase }, { on := 29, ground := .phase }, { on := 30, ground := .phase }, { on := 31, ground := .phase }], guard := none }) (v := ?_) rfl (by kernel_rfl) (by kernel_rfl) (by kernel_rfl) (fun _ _ _ h => h) (Or.inl ⟨by rfl, ?_⟩) H10.out ?_
    rotate_left 1
    · intro w hw; obtain ⟨s0, s1, s2⟩ := hw; go_simp; try (with_reducible rfl)
    simp only [Act.put, List.setIfInBounds_toArray, List.set_cons_zero, List.set_cons_succ]
    refine wpAnyH_done (by kernel_rfl) ?_ _

    go_wp2
    go_ret
    exact ⟨by rw [HO3.out]; rfl, H10.out.1⟩
end Go.Proofs.Ytandehdgpbflmaa
