/- Several texts in one: PJ. -/
import Derived.Test.YtchmdnmifpjfkaaDoorPk16
import Derived.Test.YtchmdnmifpjfkaaDoorPk02
import Derived.Handy
import Derived.Deep.MidRow
import Derived.Deep.RegionWith
import Derived.Deep.RegionHeld3
/- The chapter's shift along an edge. -/
namespace Go.Proofs.YtchmdnmifpjfkaaDoor
open Go.RowKit

def zF : Nat → Int := fun _ => 0
/-- The offsets, windows and times behind of a shift. -/
def nwO (n : BitVec 32) (l : Nat → Int) (j : Nat) : Int := if n.getLsbD j = true then l j else 0
def nwW (x : Img) (y : BitVec 32) (fo : Nat → Int) (j : Nat) : Int := if j < x.tasks.length ∧ y.getLsbD j = true then tT (winF x y fo j) else 0
def nwB (x : Img) (t y : BitVec 32) (j : Nat) : Int := if j < x.tasks.length ∧ t.getLsbD j = true then tT (rspF x t y (ceilF x y) j) else 0
/-- As far as a loop has come. -/
def upF (f : Nat → Int) (k j : Nat) : Int := if j < k then f j else 0
theorem upF_zero (f : Nat → Int) : upF f 0 = zF := by funext j; simp [upF, zF]
theorem upF_succ (f : Nat → Int) (k : Nat) : upF f (k + 1) = updF (upF f k) k (f k) := by
  funext j
  unfold upF updF
  by_cases e : j = k
  · subst e; simp
  · simp only [if_neg e]
    by_cases h : j < k
    · rw [if_pos h, if_pos (by omega)]
    · rw [if_neg h, if_neg (by omega)]
theorem upF_same {f : Nat → Int} {k : Nat} (h : f k = 0) : upF f (k + 1) = upF f k := by
  funext j
  unfold upF
  by_cases e : j = k
  · subst e; simp [h]
  · by_cases h : j < k
    · rw [if_pos h, if_pos (by omega)]
    · rw [if_neg h, if_neg (by omega)]
theorem tml_ext {f g : Nat → Int} (h : ∀ j, j < 16 → f j = g j) : tml f = tml g := by
  unfold tml
  apply List.map_congr_left
  intro j hj
  rw [h j (List.mem_range.1 hj)]
theorem shl_ext {o n s : BitVec 32} {fo fw fb go gw gb : Nat → Int} (h1 : ∀ j, j < 16 → fo j = go j) (h2 : ∀ j, j < 16 → fw j = gw j) (h3 : ∀ j, j < 16 → fb j = gb j) : shl_ o n s fo fw fb = shl_ o n s go gw gb := by
  unfold shl_
  rw [tml_ext h1, tml_ext h2, tml_ext h3]
theorem shl_setO (o n s : BitVec 32) (fo fw fb : Nat → Int) (k : Nat) (hk : k < 16) (v : Int) : (shl_ o n s fo fw fb).toArray.setIfInBounds (3 + k) (.int .i64 v) = (shl_ o n s (updF fo k v) fw fb).toArray := by
  rw [List.setIfInBounds_toArray]
  congr 1
  unfold shl_
  rw [List.set_append_right _ _ (by simp), List.set_append_left _ _ (by simp [tml_len]; omega)]
  simp only [List.length_cons, List.length_nil]
  rw [show 3 + k - (0 + 1 + 1 + 1) = k by omega, tml_set]
theorem shl_setW (o n s : BitVec 32) (fo fw fb : Nat → Int) (k : Nat) (hk : k < 16) (v : Int) : (shl_ o n s fo fw fb).toArray.setIfInBounds (19 + k) (.int .i64 v) = (shl_ o n s fo (updF fw k v) fb).toArray := by
  rw [List.setIfInBounds_toArray]
  congr 1
  unfold shl_
  rw [List.set_append_right _ _ (by simp; omega), List.set_append_right _ _ (by simp [tml_len]; omega), List.set_append_left _ _ (by simp [tml_len]; omega)]
  simp only [List.length_cons, List.length_nil, tml_len]
  rw [show 19 + k - (0 + 1 + 1 + 1) - 16 = k by omega, tml_set]
theorem shl_setB (o n s : BitVec 32) (fo fw fb : Nat → Int) (k : Nat) (hk : k < 16) (v : Int) : (shl_ o n s fo fw fb).toArray.setIfInBounds (35 + k) (.int .i64 v) = (shl_ o n s fo fw (updF fb k v)).toArray := by
  rw [List.setIfInBounds_toArray]
  congr 1
  unfold shl_
  rw [List.set_append_right _ _ (by simp; omega), List.set_append_right _ _ (by simp [tml_len]; omega), List.set_append_right _ _ (by simp [tml_len]; omega)]
  simp only [List.length_cons, List.length_nil, tml_len]
  rw [show 35 + k - (0 + 1 + 1 + 1) - 16 - 16 = k by omega, tml_set]
theorem wpList_build_is {P : Program} {ops : Array Oper} {rest : List Oper} {o : Oper} {a : Act} {w : World} {Q : Exit → Act → World → Prop} (hg : o.guard = none) (t : TypeId) (parts : List (Nat × Operand)) (ho : o.op = .build t parts.toArray) (cs : Array Value)
    (hf : P.built t (parts.map fun x => (x.1, a.eval x.2)) = some cs) (h : wpList P ops Q rest (a.put o.dst (.agg cs)) w) : wpList P ops Q (o :: rest) a w := by
  have e : (parts.toArray.map fun (i, x) => (i, a.eval x)).toList = parts.map fun x => (x.1, a.eval x.2) := by simp
  exact wpList_build hg t parts.toArray ho (by rw [e, hf]; rfl) (by rw [e, hf]; exact h)
theorem built_shift (o n s : BitVec 32) : Tryd.prog.built 36 [(0, .agg #[.int .u32 (w32 o), .int .u32 (w32 n), .int .u32 (w32 s)])] = some (shl_ o n s zF zF zF).toArray := by kernel_rfl
theorem shl_cells1 (o n s : BitVec 32) (fo fw fb : Nat → Int) : (shl_ o n s fo fw fb).toArray.all (·.oneCell') = true := by
  refine all_oneCell_toArray fun v hv => ?_
  unfold shl_ tml at hv
  simp only [List.mem_append, List.mem_cons, List.not_mem_nil, or_false, List.mem_map] at hv
  rcases hv with (rfl | rfl | rfl) | ⟨j, _, rfl⟩ | ⟨j, _, rfl⟩ | ⟨j, _, rfl⟩ <;> rfl
theorem run_index_tml (f : Nat → Int) (k : Nat) (hk : k < 16) (w : World) : (Instr.index 27 (.agg (tml f).toArray) (.int .i64 (k : Int))).run Tryd.prog w = .ok (.int .i64 (f k)) w := by
  have h1 := tml_at f k hk
  have hk2 : (k : Int) < 16 := by omega
  have hz := tml_len f
  simp [Instr.index, run_underlying Tryd.underlying27, go_sem, part, asIntOf, h1]
  omega
/-- Where New's boxes lie. -/
structure NwAt (w : World) (Z Bs : Nat) (I T cs : Array Value) (W : World) : Prop where
  b0 : Below w.heap.size w W
  im : RowAt W Z 26 I
  ar : RowAt W (Z + 1) 27 T
  rs : RowAt W (Z + 2) 36 (shl_ 0#32 0#32 0#32 zF zF zF).toArray
  sh : RowAt W Bs 36 cs
  ge : Z + 3 ≤ Bs
theorem NwAt.next {w W W' : World} {Z Bs : Nat} {I T cs : Array Value} (h : NwAt w Z Bs I T cs W) (hb : Below W.heap.size W W') : NwAt w Z Bs I T cs W' :=
  ⟨h.b0.trans (hb.mono h.b0.size), h.im.new hb, h.ar.new hb, h.rs.new hb, h.sh.new hb, h.ge⟩
theorem NwAt.set {w W : World} {Z Bs : Nat} {I T cs : Array Value} (h : NwAt w Z Bs I T cs W) (hw : w.heap.size ≤ Z + 3) (j : Nat) (v : Value) : NwAt w Z Bs I T (cs.setIfInBounds j v) (W.setCell ⟨Bs, j, none⟩ v) := by
  have hc : Ch (fun b => b = Bs) W (W.setCell ⟨Bs, j, none⟩ v) := (Ch.refl _ _).setCell _ v (.inl rfl)
  have hg := h.ge
  exact ⟨h.b0.setCell (by show w.heap.size ≤ Bs; omega) v, h.im.keep hc (by omega), h.ar.keep hc (by omega), h.rs.keep hc (by omega), h.sh.setC j v, h.ge⟩
theorem results_rowN {P : Program} {fn : Func} {p u : Tmp} {ty : TypeId} (h : fn.results = #[.cell p ty, .tmp u]) (tmps : Array Value) (w : World) (g : Nat) (t : TypeId) (cs : Array Value) (d : TypeDesc) (hp : tmps.getD p undef = .pointer (some ⟨g, 0, none⟩))
    (hg : w.heap[g]? = some (.cells cs t (0, 0))) (hu : P.underlying ty = some d) (hd : (match d with | .struct _ | .array _ _ => true | _ => false) = true) (hi : (P.info? ty).map (·.size) = some cs.size) :
    (results fn tmps).run P w = .ok (.tuple #[.agg cs, tmps.getD u undef]) w := by
  rw [results_cell_tmp h, hp]
  simp [asAddr, Result.andThen, run_loadVar_row w g t ty cs (0, 0) d hg hu hd hi]
/-- The cells of the shift that New makes. -/
def newL (x : Img) (A B : BitVec 32) (l : Nat → Int) : List Value :=
  shl_ (A &&& ~~~B) (B &&& ~~~A) (A &&& B) (nwO (B &&& ~~~A) l) (nwW x (A ||| B) (nwO (B &&& ~~~A) l)) (nwB x B (A ||| B))
theorem both_eq (a b : BitVec 32) : a &&& ~~~b ||| b &&& ~~~a ||| a &&& b = a ||| b := by
  apply BitVec.eq_of_getLsbD_eq
  intro i hi
  simp only [BitVec.getLsbD_or, BitVec.getLsbD_and, BitVec.getLsbD_not, hi, decide_true, Bool.true_and]
  cases a.getLsbD i <;> cases b.getLsbD i <;> rfl
theorem to_eq (a b : BitVec 32) : b &&& ~~~a ||| a &&& b = b := by
  apply BitVec.eq_of_getLsbD_eq
  intro i hi
  simp only [BitVec.getLsbD_or, BitVec.getLsbD_and, BitVec.getLsbD_not, hi, decide_true, Bool.true_and]
  cases a.getLsbD i <;> cases b.getLsbD i <;> rfl
theorem winF_own (x : Img) (y : BitVec 32) (fo : Nat → Int) (i : Nat) : tT (lookR ((x.t i).cost + blkF x y (ceilF x y) (i : Int)) ((x.t i).dl + fo i) (tmO x fo (lst y i))) = tT (winF x y fo i) := rfl
set_option maxHeartbeats 16000000 in
set_option maxRecDepth 100000 in
theorem wnNew_any {w : World} {V : Nat → Prop} {x : Img} {S : ImgS} (h : ImgAt w V x S) (ht : Tab w) (hG : GoodI x) (k : Nat) (hk : k < x.edges.length) (hcap : x.tasks.length ≤ S.t.c) (l : Nat → Int) (hl : ∀ j, j < 16 → 0 ≤ l j ∧ l j ≤ 16384) :
    Calls Tryd.prog 10 #[.agg #[.int .i64 x.res, .slice S.t.sp x.tasks.length S.t.c, .slice S.m.sp x.modes.length S.m.c, .slice S.e.sp x.edges.length S.e.c], .int .i64 (k : Nat), .agg (tml l).toArray] w fun e w' => e = .returned (.tuple #[.agg (newL x (edgeA x (k : Int)) (edgeB x (k : Int)) l).toArray, .bool true]) ∧ Below w.heap.size w w' := by
  have HE := Lib.hid (fun (wx : World) (hb : Below w.heap.size w wx) => clsEdge_any (h.new hb) (k : Int))
  obtain ⟨A, hA⟩ : ∃ A, edgeA x (k : Int) = A := ⟨_, rfl⟩
  obtain ⟨B, hB⟩ : ∃ B, edgeB x (k : Int) = B := ⟨_, rfl⟩
  rw [hA, hB] at HE ⊢
  clear hA hB
  have hnl : ∀ n : BitVec 32, ∀ j, j < 16 → 0 ≤ nwO n l j ∧ nwO n l j ≤ 16384 := fun n j hj => by
    unfold nwO
    split
    · exact hl j hj
    · omega
  have HCe := Lib.hid (fun (wx : World) (hb : Below w.heap.size w wx) => cOf_any (h.new hb) (ht.below ht.pos hb) (A ||| B))
  have HBk := Lib.hid (fun (wx : World) (hb : Below w.heap.size w wx) (i : Nat) => stBlock_any (h.new hb) (ht.below ht.pos hb) hG (A ||| B) (ceilF x (A ||| B)) (i : Int))
  have HSr := Lib.hid (fun (wx : World) (hb : Below w.heap.size w wx) (i : Nat) (hi : i < x.tasks.length) => stResp_any (h.new hb) (ht.below ht.pos hb) hG B (A ||| B) (ceilF x (A ||| B)) i hi)
  have HWn := Lib.hid (fun (wx : World) (hb : Below w.heap.size w wx) (fw fb : Nat → Int) (own : Int) (i : Nat) (hi : i < x.tasks.length) => wnwin_any (h.new hb) (ht.below ht.pos hb) hG (A &&& ~~~B) (B &&& ~~~A) (A &&& B) (nwO (B &&& ~~~A) l) fw fb (hnl _) own i hi)
  have HTk := Lib.hid (fun (wx : World) (hb : Below w.heap.size w wx) (i : Nat) (hi : i < x.tasks.length) => task_cells (h.new hb) hi)
  have HSp := Lib.hid (h.st.at_ (by have := hG.n1; omega)).1
  have HOw := Lib.hid (show ∀ i : Nat, i < x.tasks.length → (1 ≤ (x.t i).cost ∧ (x.t i).cost ≤ 4096) ∧ 0 ≤ blkF x (A ||| B) (ceilF x (A ||| B)) (i : Int) ∧ blkF x (A ||| B) (ceilF x (A ||| B)) (i : Int) ≤ 32768 from fun i hi => ⟨hG.cost i hi, blkF_rng hG _ _ (i : Int)⟩)
  have HBo := Lib.hid (fun wx => clsBoth_any (A &&& ~~~B) (B &&& ~~~A) (A &&& B) wx)
  have HTo := Lib.hid (fun wx => clsTo_any (A &&& ~~~B) (B &&& ~~~A) (A &&& B) wx)
  have HWF := Lib.hid (fun (i : Nat) => winF_own x (A ||| B) (nwO (B &&& ~~~A) l) i)
  rw [both_eq] at HWn HBo
  rw [to_eq] at HTo
  have hn16 := hG.n16
  have hn1 := hG.n1
  obtain ⟨CS, hCS⟩ : ∃ c, (newL x A B l).toArray = c := ⟨_, rfl⟩
  have HNew := Lib.hid (show CS = (shl_ (A &&& ~~~B) (B &&& ~~~A) (A &&& B) (nwO (B &&& ~~~A) l) (nwW x (A ||| B) (nwO (B &&& ~~~A) l)) (nwB x B (A ||| B))).toArray from hCS.symm)
  rw [hCS]
  clear hCS
  have HVW := Lib.hid (show ∀ i, i < x.tasks.length → nwW x (A ||| B) (nwO (B &&& ~~~A) l) i = if (A ||| B).getLsbD i = true then tT (winF x (A ||| B) (nwO (B &&& ~~~A) l) i) else 0 from fun i hi => by unfold nwW; simp only [hi, true_and])
  have HVB := Lib.hid (show ∀ i, i < x.tasks.length → nwB x B (A ||| B) i = if B.getLsbD i = true then tT (rspF x B (A ||| B) (ceilF x (A ||| B)) i) else 0 from fun i hi => by unfold nwB; simp only [hi, true_and])
  have HVW0 := Lib.hid (show ∀ i, ¬ i < x.tasks.length → nwW x (A ||| B) (nwO (B &&& ~~~A) l) i = 0 from fun i hi => by unfold nwW; rw [if_neg (by omega)])
  have HVB0 := Lib.hid (show ∀ i, ¬ i < x.tasks.length → nwB x B (A ||| B) i = 0 from fun i hi => by unfold nwB; rw [if_neg (by omega)])
  obtain ⟨nT, hnT⟩ : ∃ n, x.tasks.length = n := ⟨_, rfl⟩
  obtain ⟨nM, hnM⟩ : ∃ n, x.modes.length = n := ⟨_, rfl⟩
  obtain ⟨nE, hnE⟩ : ∃ n, x.edges.length = n := ⟨_, rfl⟩
  rw [hnE] at hk
  rw [hnT] at hn16 hn1 hcap HTk HOw HVW HVB HVW0 HVB0
  rw [hnT, hnM, hnE] at HE HCe HBk HSr HWn
  rw [hnT, hnM, hnE]
  obtain ⟨fc, hfc⟩ : ∃ f, ceilF x (A ||| B) = f := ⟨_, rfl⟩
  rw [hfc] at HCe HBk HSr HOw HWF HVB
  unfold tb at HCe HBk HSr
  clear hfc
  obtain ⟨Y, hY⟩ : ∃ y, A ||| B = y := ⟨_, rfl⟩
  rw [hY] at HBo HCe HBk HSr HWn HOw HWF HVW HVB HVW0 HVB0 HNew
  obtain ⟨o, ho⟩ : ∃ b, A &&& ~~~B = b := ⟨_, rfl⟩
  obtain ⟨n, hn⟩ : ∃ b, B &&& ~~~A = b := ⟨_, rfl⟩
  obtain ⟨s, hs⟩ : ∃ b, A &&& B = b := ⟨_, rfl⟩
  rw [ho, hn, hs] at HE HWn HBo HTo HNew
  rw [hn] at HWF HVW HVW0
  have hk2 : (k : Int) < (nE : Int) := by omega
  have HTl := Lib.hid (show (∀ j : Nat, j < 16 → ∀ wx, (Instr.index 27 (.agg (tml l).toArray) (.int .i64 (j : Int))).run Tryd.prog wx = .ok (.int .i64 (l j)) wx) ∧ (Tryd.prog.info? 27).map (·.size) = some (tml l).toArray.size from ⟨fun j hj wx => run_index_tml l j hj wx, by rw [show (tml l).toArray.size = 16 by simp [tml_len]]; kernel_rfl⟩)
  have HHas := Lib.hid (show ∀ (y : BitVec 32) (i : Nat) (hi : i < 32) (wx : World), Calls Tryd.prog 31 #[.int .u32 (w32 y), .int .i64 (i : Nat)] wx fun e w' => e = .returned (.bool (y.getLsbD i)) ∧ wx = w' from fun y i hi wx => by
    have := mhas_any y (i : Int) wx
    rw [show decide ((i : Int) ∈ ints (lst y 32)) = y.getLsbD i from hasB_nat y i hi] at this
    exact this)
  have HNl := Lib.hid (show ∀ j, nwO n l j = if n.getLsbD j = true then l j else 0 from fun j => rfl)
  have HInf := Lib.hid (show (Tryd.prog.info? 36).map (·.size) = some 51 by kernel_rfl)
  obtain ⟨T, hT⟩ : ∃ T, (tml l).toArray = T := ⟨_, rfl⟩
  rw [hT] at HTl ⊢
  obtain ⟨Z, hZ⟩ : ∃ Z, Z = w.heap.size := ⟨_, rfl⟩
  have HZ := Lib.hid hZ
  clear hT ho hn hs hnT hnM hnE h hY ht hG hl hnl
  go_enter Tryd.func10, Tryd.ntmps10
  go_upto_region 3 with fail
  rw [← hZ]
  generalize hw2 : World.alloc _ _ = w2
  have H2 := Lib.hid (show Below w.heap.size w w2 ∧ RowAt w2 Z 26 #[.int .i64 x.res, .slice S.t.sp nT S.t.c, .slice S.m.sp nM S.m.c, .slice S.e.sp nE S.e.c] ∧ RowAt w2 (Z + 1) 27 T ∧ RowAt w2 (Z + 2) 36 (shl_ 0#32 0#32 0#32 zF zF zF).toArray ∧ w2.heap.size = Z + 3 by
    rw [← hw2, hZ]
    have e1 := RowAt.mk w 26 #[.int .i64 x.res, .slice S.t.sp nT S.t.c, .slice S.m.sp nM S.m.c, .slice S.e.sp nE S.e.c]
    have e2 := row_next (w.alloc (.cells #[.int .i64 x.res, .slice S.t.sp nT S.t.c, .slice S.m.sp nM S.m.c, .slice S.e.sp nE S.e.c] 26)) (w.heap.size + 1) (by simp) 27 T
    refine ⟨(((Below.refl _ _).alloc (Nat.le_refl _) _).alloc (by simp) _).alloc (by simp; omega) _, row_keep (row_keep e1 _) _, row_keep e2 _, ?_, by simp⟩
    exact row_next ((w.alloc (.cells #[.int .i64 x.res, .slice S.t.sp nT S.t.c, .slice S.m.sp nM S.m.c, .slice S.e.sp nE S.e.c] 26)).alloc (.cells T 27)) (w.heap.size + 2) (by simp) 36 (shl_ 0#32 0#32 0#32 zF zF zF).toArray)
  clear hw2 hZ
  have a0 : w2.cell? ⟨Z, 0, none⟩ = some (.int .i64 x.res) := H2.out.2.1.cell 0
  have a1 : w2.cell? ⟨Z, 1, none⟩ = some (.slice S.t.sp nT S.t.c) := H2.out.2.1.cell 1
  have a2 : w2.cell? ⟨Z, 2, none⟩ = some (.slice S.m.sp nM S.m.c) := H2.out.2.1.cell 2
  have a3 : w2.cell? ⟨Z, 3, none⟩ = some (.slice S.e.sp nE S.e.c) := H2.out.2.1.cell 3
  go_upto_region 4 with (first
    | (go_at_call 30; refine (HE.out _ H2.out.1).mono ?_; rintro e w3 ⟨rfl, b3⟩; have H3 := Lib.hid b3; clear b3)
    | (refine wpList_build_is rfl 36 [(0, .tmp 28)] rfl (shl_ o n s zF zF zF).toArray (built_shift o n s) ?_)
    | (refine wpList_store_row rfl 36 (.tmp 8) (.tmp 29) rfl w3.heap.size (shl_ o n s zF zF zF).toArray rfl rfl 36 (shl_ 0#32 0#32 0#32 zF zF zF).toArray (RowAt.mk w3 _ _) (by kernel_rfl) (by simp [shl_len]) (shl_cells1 _ _ _ _ _ _) ?_; generalize hw4 : World.setRow _ _ _ = w4)
    | fail)
  simp only [Act.put]
  obtain ⟨Bs, hBs⟩ : ∃ B, B = w3.heap.size := ⟨_, rfl⟩
  rw [← hBs] at hw4 ⊢
  have HA := Lib.hid (show NwAt w Z Bs #[.int .i64 x.res, .slice S.t.sp nT S.t.c, .slice S.m.sp nM S.m.c, .slice S.e.sp nE S.e.c] T (shl_ o n s zF zF zF).toArray w4 by
    have b4 := alloc_row w3 (shl_ 0#32 0#32 0#32 zF zF zF).toArray (shl_ o n s zF zF zF).toArray 36
    rw [← hBs] at b4
    have hz4 : w3.heap.size = Bs := hBs.symm
    have b5 : Below w3.heap.size w3 w4 ∧ RowAt w4 Bs 36 (shl_ o n s zF zF zF).toArray := by rw [← hw4, hz4]; exact b4
    have bb : Below w2.heap.size w2 w4 := H3.out.trans (b5.1.mono H3.out.size)
    exact ⟨H2.out.1.trans (bb.mono H2.out.1.size), H2.out.2.1.new bb, H2.out.2.2.1.new bb, H2.out.2.2.2.1.new bb, b5.2, by have := H3.out.size; have := H2.out.2.2.2.2; omega⟩)
  clear hw4 hBs H3 a0 a1 a2 a3
  go_upto_region 5 with (first
    | (refine wpList_load_row rfl 27 (.tmp 5) rfl (Z + 1) rfl 27 T (0, 0) _ HA.out.ar Tryd.underlying27 rfl HTl.out.2 ?_)
    | fail)
  have hZw : w.heap.size ≤ Z + 3 := by have := HZ.out; omega
  have HZw := Lib.hid hZw
  clear hZw
  go_loopg [31] 16 (fun g i wr => ∃ j : Nat, j + g = 16 ∧ i = .int .i64 (j : Nat) ∧ Aside (NwAt w Z Bs #[.int .i64 x.res, .slice S.t.sp nT S.t.c, .slice S.m.sp nM S.m.c, .slice S.e.sp nE S.e.c] T (shl_ o n s (upF (nwO n l) j) zF zF).toArray wr))
  case atStart => exact ⟨0, by omega, rfl, by rw [upF_zero]; exact HA.out⟩
  case round =>
    obtain ⟨j, hjg, rfl, HQ⟩ := hrel
    cases gk with
    | zero =>
      obtain rfl : j = 16 := by omega
      obtain ⟨wo, rfl⟩ : ∃ wo : World, wo = wr := ⟨_, rfl⟩
      have HQ2 := Lib.hid (show NwAt w Z Bs #[.int .i64 x.res, .slice S.t.sp nT S.t.c, .slice S.m.sp nM S.m.c, .slice S.e.sp nE S.e.c] T (shl_ o n s (nwO n l) zF zF).toArray wo by
        rw [shl_ext (go := nwO n l) (gw := zF) (gb := zF) (fo := upF (nwO n l) 16) (fw := zF) (fb := zF) (fun j hj => by unfold upF; rw [if_pos hj]) (fun _ _ => rfl) (fun _ _ => rfl)] at HQ
        exact HQ.out)
      clear HQ
      obtain ⟨fo, hfo⟩ : ∃ f, nwO n l = f := ⟨_, rfl⟩
      rw [hfo] at HQ2 HWn HWF HVW HVW0 HNew
      clear hfo HTl HNl HA HE
      obtain ⟨W, hW⟩ : ∃ f, nwW x Y fo = f := ⟨_, rfl⟩
      rw [hW] at HVW HVW0 HNew
      obtain ⟨R, hR⟩ : ∃ f, nwB x B Y = f := ⟨_, rfl⟩
      rw [hR] at HVB HVB0 HNew
      clear hW hR
      go_upto_region 10 with fail
      have HNx := Lib.hid (show ∀ w', Below wo.heap.size wo w' → NwAt w Z Bs #[.int .i64 x.res, .slice S.t.sp nT S.t.c, .slice S.m.sp nM S.m.c, .slice S.e.sp nE S.e.c] T (shl_ o n s fo zF zF).toArray w' from fun w' hb => HQ2.out.next hb)
      have HG0 := Lib.hid (show Below wo.heap.size wo wo.drew from below_dn (Below.refl _ _) 1)
      obtain ⟨wd, hwd⟩ : ∃ wd, wo.drew = wd := ⟨_, rfl⟩
      rw [hwd] at HG0
      go_cut [11] from 45 to 49 (fun v11 wx => ∃ Tb : Nat, v11 = .pointer (some ⟨Tb, 0, none⟩) ∧ Aside (Below wo.heap.size wo wx ∧ RowAt wx Tb 73 #[.int .i64 (fc 0), .int .i64 (fc 1), .int .i64 (fc 2), .int .i64 (fc 3), .int .i64 (fc 4), .int .i64 (fc 5), .int .i64 (fc 6), .int .i64 (fc 7)] ∧ wo.heap.size ≤ Tb))
      case first => as_aux_lemma =>
        refine wp_region_held_drew (S := fun w' => Below wo.heap.size wo w') (by kernel_rfl) (by rw [hwd]; exact HG0.out) (fun hS => ?_)
        rw [hwd] at hS ⊢
        clear hwd
        refine wpAnyH_take (i := 0) (oi := { dst := some 45, op := .load 26 (.tmp 3), type := 26, pos := "window.go:51", after := #[], guard := none }) (v := ?_) rfl (by kernel_rfl) (by kernel_rfl) (by kernel_rfl) (fun _ _ _ h => h) (Or.inl ⟨by rfl, ?_⟩) hS ?_
        rotate_left 1
        · intro w hw; have hn := (HNx.out _ hw).im; have k0 := hn.cell 0; have k1 := hn.cell 1; have k2 := hn.cell 2; have k3 := hn.cell 3; simp only [List.getElem?_toArray, List.getElem?_cons_zero, List.getElem?_cons_succ] at k0 k1 k2 k3; go_simp; try (with_reducible rfl)
        simp only [Act.put, List.setIfInBounds_toArray, List.set_cons_zero, List.set_cons_succ]
        refine wpAnyH_take (i := 1) (oi := { dst := some 46, op := .fieldAddr 36 (.tmp 8) 0, type := 0, pos := "window.go:51", after := #[], guard := none }) (v := ?_) rfl (by kernel_rfl) (by kernel_rfl) (by kernel_rfl) (fun _ _ _ h => h) (Or.inl ⟨by rfl, ?_⟩) hS ?_
        rotate_left 1
        · intro w hw; go_simp; try (with_reducible rfl)
        simp only [Act.put, List.setIfInBounds_toArray, List.set_cons_zero, List.set_cons_succ]
        refine wpAnyH_take (i := 2) (oi := { dst := some 47, op := .load 33 (.tmp 46), type := 33, pos := "window.go:51", after := #[{ on := 1, ground := .data }], guard := none }) (v := ?_) rfl (by kernel_rfl) (by kernel_rfl) (by kernel_rfl) (fun _ _ _ h => h) (Or.inl ⟨by rfl, ?_⟩) hS ?_
        rotate_left 1
        · intro w hw; have hn := (HNx.out _ hw).sh; have k0 := (hn.cell 0).trans (show _ = some (.int .u32 (w32 o)) by simp [shl_]); have k1 := (hn.cell 1).trans (show _ = some (.int .u32 (w32 n)) by simp [shl_]); have k2 := (hn.cell 2).trans (show _ = some (.int .u32 (w32 s)) by simp [shl_]); go_simp; try (with_reducible rfl)
        simp only [Act.put, List.setIfInBounds_toArray, List.set_cons_zero, List.set_cons_succ]
        refine wpAnyH_ready (rs := [3, 5]) (by kernel_rfl) (by simp) (AllReadyH.cons (o := { dst := some 48, op := .call { callee := .value (.func 33), args := #[.tmp 47], argTypes := #[33] }, type := 31, pos := "window.go:51", after := #[{ on := 2, ground := .data }], guard := none }) rfl (fun K hK => ?_) (AllReadyH.cons (o := { dst := some 11, op := .alloc 73, type := 0, pos := "window.go:51", after := #[], guard := none }) rfl (fun K hK => ?_) AllReadyH.nil))
        · go_simp
          go_at_call 33
          refine (HBo.out _).mono ?_
          rintro e wg101 ⟨rfl, bc101⟩
          have HG102 := Lib.hid (show Below wo.heap.size wo wg101 from (HG0.out.trans ((bc101).mono HG0.out.size)))
          clear bc101
          try dsimp only
          refine hK.out _ _ HG102.out (fun hHeld => ?_)
          clear hK K
          try simp only [Act.put, List.setIfInBounds_toArray, List.set_cons_zero, List.set_cons_succ]
          refine wpAnyH_ready (rs := [4, 5]) (by kernel_rfl) (by simp) (AllReadyH.cons (o := { dst := some 49, op := .call { callee := .value (.func 32), args := #[.tmp 45, .tmp 48], argTypes := #[26, 31] }, type := 73, pos := "window.go:51", after := #[{ on := 0, ground := .data }, { on := 3, ground := .data }, { on := 3, ground := .chain }], guard := none }) rfl (fun K hK => ?_) (AllReadyH.cons (o := { dst := some 11, op := .alloc 73, type := 0, pos := "window.go:51", after := #[], guard := none }) rfl (fun K hK => ?_) AllReadyH.nil))
          · go_simp
            go_at_call 32
            refine (HCe.out _ (HNx.out _ HG102.out).b0).mono ?_
            rintro e wg103 ⟨rfl, bc103⟩
            have HG104 := Lib.hid (show Below wo.heap.size wo wg103 from (HG102.out.trans ((bc103).mono HG102.out.size)))
            clear bc103
            try dsimp only
            refine hK.out _ _ HG104.out (fun hHeld => ?_)
            clear hK K
            try simp only [Act.put, List.setIfInBounds_toArray, List.set_cons_zero, List.set_cons_succ]
            refine wpAnyH_ready (rs := [5]) (by kernel_rfl) (by simp) (AllReadyH.cons (o := { dst := some 11, op := .alloc 73, type := 0, pos := "window.go:51", after := #[], guard := none }) rfl (fun K hK => ?_) AllReadyH.nil)
            go_simp
            obtain ⟨Tb, hTb⟩ : ∃ b, b = (wg103).heap.size := ⟨_, rfl⟩
            rw [← hTb]
            generalize hwg105 : World.alloc _ _ = wg105
            have bwg105 : Below (wg103).heap.size (wg103) wg105 := by rw [← hwg105]; exact (Below.refl _ _).alloc (Nat.le_refl _) _
            have rwg105 : RowAt wg105 Tb 73 #[.int .i64 0, .int .i64 0, .int .i64 0, .int .i64 0, .int .i64 0, .int .i64 0, .int .i64 0, .int .i64 0] := by rw [← hwg105, hTb]; exact RowAt.mk _ _ _
            have HG106 := Lib.hid (show Below wo.heap.size wo wg105 ∧ RowAt wg105 Tb 73 #[.int .i64 0, .int .i64 0, .int .i64 0, .int .i64 0, .int .i64 0, .int .i64 0, .int .i64 0, .int .i64 0] ∧ wo.heap.size ≤ Tb from ⟨(HG104.out.trans ((bwg105).mono HG104.out.size)), rwg105, (by have := HG104.out.size; omega)⟩)
            clear hwg105 bwg105 rwg105 hTb
            refine hK.out _ _ HG106.out.1 (fun hHeld => ?_)
            clear hK K
            try simp only [Act.put, List.setIfInBounds_toArray, List.set_cons_zero, List.set_cons_succ]
            refine wpAnyH_ready (rs := [6]) (by kernel_rfl) (by simp) (AllReadyH.cons (o := { dst := none, op := .store 73 (.tmp 11) (.tmp 49), type := 0, pos := "window.go:51", after := #[{ on := 5, ground := .data }, { on := 4, ground := .data }, { on := 4, ground := .chain }, { on := 0, ground := .phase }, { on := 1, ground := .phase }, { on := 2, ground := .phase }, { on := 3, ground := .phase }, { on := 4, ground := .phase }, { on := 5, ground := .phase }], guard := none }) rfl (fun K hK => ?_) AllReadyH.nil)
            rw [if_pos (by rfl)]
            refine wp_store_row 73 (.tmp 11) (.tmp 49) rfl Tb #[.int .i64 (fc 0), .int .i64 (fc 1), .int .i64 (fc 2), .int .i64 (fc 3), .int .i64 (fc 4), .int .i64 (fc 5), .int .i64 (fc 6), .int .i64 (fc 7)] rfl rfl 73 #[.int .i64 0, .int .i64 0, .int .i64 0, .int .i64 0, .int .i64 0, .int .i64 0, .int .i64 0, .int .i64 0] HG106.out.2.1 (by kernel_rfl) rfl (by simp [Value.oneCell']) ?_
            refine hK.out _ _ (below_row HG106.out.1 (Nat.le_refl _) HG106.out.2.2 _) (fun hHeld => ?_)
            clear hK K
            try simp only [Act.put]
            refine wpAnyH_done (by kernel_rfl) ?_ _
            go_wp2
            go_meet
            case rel => exact ⟨Tb, rfl, below_row HG106.out.1 (Nat.le_refl _) HG106.out.2.2 _, HG106.out.2.1.put, HG106.out.2.2⟩
          · go_simp
            obtain ⟨Tb, hTb⟩ : ∃ b, b = (wg101).heap.size := ⟨_, rfl⟩
            rw [← hTb]
            generalize hwg107 : World.alloc _ _ = wg107
            have bwg107 : Below (wg101).heap.size (wg101) wg107 := by rw [← hwg107]; exact (Below.refl _ _).alloc (Nat.le_refl _) _
            have rwg107 : RowAt wg107 Tb 73 #[.int .i64 0, .int .i64 0, .int .i64 0, .int .i64 0, .int .i64 0, .int .i64 0, .int .i64 0, .int .i64 0] := by rw [← hwg107, hTb]; exact RowAt.mk _ _ _
            have HG108 := Lib.hid (show Below wo.heap.size wo wg107 ∧ RowAt wg107 Tb 73 #[.int .i64 0, .int .i64 0, .int .i64 0, .int .i64 0, .int .i64 0, .int .i64 0, .int .i64 0, .int .i64 0] ∧ wo.heap.size ≤ Tb from ⟨(HG102.out.trans ((bwg107).mono HG102.out.size)), rwg107, (by have := HG102.out.size; omega)⟩)
            clear hwg107 bwg107 rwg107 hTb
            refine hK.out _ _ HG108.out.1 (fun hHeld => ?_)
            clear hK K
            try simp only [Act.put, List.setIfInBounds_toArray, List.set_cons_zero, List.set_cons_succ]
            refine wpAnyH_ready (rs := [4]) (by kernel_rfl) (by simp) (AllReadyH.cons (o := { dst := some 49, op := .call { callee := .value (.func 32), args := #[.tmp 45, .tmp 48], argTypes := #[26, 31] }, type := 73, pos := "window.go:51", after := #[{ on := 0, ground := .data }, { on := 3, ground := .data }, { on := 3, ground := .chain }], guard := none }) rfl (fun K hK => ?_) AllReadyH.nil)
            go_simp
            go_at_call 32
            refine (HCe.out _ (HNx.out _ HG108.out.1).b0).mono ?_
            rintro e wg109 ⟨rfl, bc109⟩
            have HG110 := Lib.hid (show Below wo.heap.size wo wg109 ∧ RowAt wg109 Tb 73 #[.int .i64 0, .int .i64 0, .int .i64 0, .int .i64 0, .int .i64 0, .int .i64 0, .int .i64 0, .int .i64 0] ∧ wo.heap.size ≤ Tb from ⟨(HG108.out.1.trans ((bc109).mono HG108.out.1.size)), (HG108.out.2.1.new (bc109)), HG108.out.2.2⟩)
            clear bc109
            try dsimp only
            refine hK.out _ _ HG110.out.1 (fun hHeld => ?_)
            clear hK K
            try simp only [Act.put, List.setIfInBounds_toArray, List.set_cons_zero, List.set_cons_succ]
            refine wpAnyH_ready (rs := [6]) (by kernel_rfl) (by simp) (AllReadyH.cons (o := { dst := none, op := .store 73 (.tmp 11) (.tmp 49), type := 0, pos := "window.go:51", after := #[{ on := 5, ground := .data }, { on := 4, ground := .data }, { on := 4, ground := .chain }, { on := 0, ground := .phase }, { on := 1, ground := .phase }, { on := 2, ground := .phase }, { on := 3, ground := .phase }, { on := 4, ground := .phase }, { on := 5, ground := .phase }], guard := none }) rfl (fun K hK => ?_) AllReadyH.nil)
            rw [if_pos (by rfl)]
            refine wp_store_row 73 (.tmp 11) (.tmp 49) rfl Tb #[.int .i64 (fc 0), .int .i64 (fc 1), .int .i64 (fc 2), .int .i64 (fc 3), .int .i64 (fc 4), .int .i64 (fc 5), .int .i64 (fc 6), .int .i64 (fc 7)] rfl rfl 73 #[.int .i64 0, .int .i64 0, .int .i64 0, .int .i64 0, .int .i64 0, .int .i64 0, .int .i64 0, .int .i64 0] HG110.out.2.1 (by kernel_rfl) rfl (by simp [Value.oneCell']) ?_
            refine hK.out _ _ (below_row HG110.out.1 (Nat.le_refl _) HG110.out.2.2 _) (fun hHeld => ?_)
            clear hK K
            try simp only [Act.put]
            refine wpAnyH_done (by kernel_rfl) ?_ _
            go_wp2
            go_meet
            case rel => exact ⟨Tb, rfl, below_row HG110.out.1 (Nat.le_refl _) HG110.out.2.2 _, HG110.out.2.1.put, HG110.out.2.2⟩
        · go_simp
          obtain ⟨Tb, hTb⟩ : ∃ b, b = (wd).heap.size := ⟨_, rfl⟩
          rw [← hTb]
          generalize hwg111 : World.alloc _ _ = wg111
          have bwg111 : Below (wd).heap.size (wd) wg111 := by rw [← hwg111]; exact (Below.refl _ _).alloc (Nat.le_refl _) _
          have rwg111 : RowAt wg111 Tb 73 #[.int .i64 0, .int .i64 0, .int .i64 0, .int .i64 0, .int .i64 0, .int .i64 0, .int .i64 0, .int .i64 0] := by rw [← hwg111, hTb]; exact RowAt.mk _ _ _
          have HG112 := Lib.hid (show Below wo.heap.size wo wg111 ∧ RowAt wg111 Tb 73 #[.int .i64 0, .int .i64 0, .int .i64 0, .int .i64 0, .int .i64 0, .int .i64 0, .int .i64 0, .int .i64 0] ∧ wo.heap.size ≤ Tb from ⟨(HG0.out.trans ((bwg111).mono HG0.out.size)), rwg111, (by have := HG0.out.size; omega)⟩)
          clear hwg111 bwg111 rwg111 hTb
          refine hK.out _ _ HG112.out.1 (fun hHeld => ?_)
          clear hK K
          try simp only [Act.put, List.setIfInBounds_toArray, List.set_cons_zero, List.set_cons_succ]
          refine wpAnyH_ready (rs := [3]) (by kernel_rfl) (by simp) (AllReadyH.cons (o := { dst := some 48, op := .call { callee := .value (.func 33), args := #[.tmp 47], argTypes := #[33] }, type := 31, pos := "window.go:51", after := #[{ on := 2, ground := .data }], guard := none }) rfl (fun K hK => ?_) AllReadyH.nil)
          go_simp
          go_at_call 33
          refine (HBo.out _).mono ?_
          rintro e wg113 ⟨rfl, bc113⟩
          have HG114 := Lib.hid (show Below wo.heap.size wo wg113 ∧ RowAt wg113 Tb 73 #[.int .i64 0, .int .i64 0, .int .i64 0, .int .i64 0, .int .i64 0, .int .i64 0, .int .i64 0, .int .i64 0] ∧ wo.heap.size ≤ Tb from ⟨(HG112.out.1.trans ((bc113).mono HG112.out.1.size)), (HG112.out.2.1.new (bc113)), HG112.out.2.2⟩)
          clear bc113
          try dsimp only
          refine hK.out _ _ HG114.out.1 (fun hHeld => ?_)
          clear hK K
          try simp only [Act.put, List.setIfInBounds_toArray, List.set_cons_zero, List.set_cons_succ]
          refine wpAnyH_ready (rs := [4]) (by kernel_rfl) (by simp) (AllReadyH.cons (o := { dst := some 49, op := .call { callee := .value (.func 32), args := #[.tmp 45, .tmp 48], argTypes := #[26, 31] }, type := 73, pos := "window.go:51", after := #[{ on := 0, ground := .data }, { on := 3, ground := .data }, { on := 3, ground := .chain }], guard := none }) rfl (fun K hK => ?_) AllReadyH.nil)
          go_simp
          go_at_call 32
          refine (HCe.out _ (HNx.out _ HG114.out.1).b0).mono ?_
          rintro e wg115 ⟨rfl, bc115⟩
          have HG116 := Lib.hid (show Below wo.heap.size wo wg115 ∧ RowAt wg115 Tb 73 #[.int .i64 0, .int .i64 0, .int .i64 0, .int .i64 0, .int .i64 0, .int .i64 0, .int .i64 0, .int .i64 0] ∧ wo.heap.size ≤ Tb from ⟨(HG114.out.1.trans ((bc115).mono HG114.out.1.size)), (HG114.out.2.1.new (bc115)), HG114.out.2.2⟩)
          clear bc115
          try dsimp only
          refine hK.out _ _ HG116.out.1 (fun hHeld => ?_)
          clear hK K
          try simp only [Act.put, List.setIfInBounds_toArray, List.set_cons_zero, List.set_cons_succ]
          refine wpAnyH_ready (rs := [6]) (by kernel_rfl) (by simp) (AllReadyH.cons (o := { dst := none, op := .store 73 (.tmp 11) (.tmp 49), type := 0, pos := "window.go:51", after := #[{ on := 5, ground := .data }, { on := 4, ground := .data }, { on := 4, ground := .chain }, { on := 0, ground := .phase }, { on := 1, ground := .phase }, { on := 2, ground := .phase }, { on := 3, ground := .phase }, { on := 4, ground := .phase }, { on := 5, ground := .phase }], guard := none }) rfl (fun K hK => ?_) AllReadyH.nil)
          rw [if_pos (by rfl)]
          refine wp_store_row 73 (.tmp 11) (.tmp 49) rfl Tb #[.int .i64 (fc 0), .int .i64 (fc 1), .int .i64 (fc 2), .int .i64 (fc 3), .int .i64 (fc 4), .int .i64 (fc 5), .int .i64 (fc 6), .int .i64 (fc 7)] rfl rfl 73 #[.int .i64 0, .int .i64 0, .int .i64 0, .int .i64 0, .int .i64 0, .int .i64 0, .int .i64 0, .int .i64 0] HG116.out.2.1 (by kernel_rfl) rfl (by simp [Value.oneCell']) ?_
          refine hK.out _ _ (below_row HG116.out.1 (Nat.le_refl _) HG116.out.2.2 _) (fun hHeld => ?_)
          clear hK K
          try simp only [Act.put]
          refine wpAnyH_done (by kernel_rfl) ?_ _
          go_wp2
          go_meet
          case rel => exact ⟨Tb, rfl, below_row HG116.out.1 (Nat.le_refl _) HG116.out.2.2 _, HG116.out.2.1.put, HG116.out.2.2⟩

      case rest =>
        obtain ⟨Tb, rfl, HT3⟩ := hcut
        have hmn := hmin Tryd.prog
        have hm16 : min (nT : Int) 16 = (nT : Int) := by omega
        have HTz := Lib.hid (HNx.out _ HT3.out.1)
        have a1 := HTz.out.im.cell 1
        simp only [List.getElem?_toArray, List.getElem?_cons_zero, List.getElem?_cons_succ] at a1
        have hcap2 : (nT : Int) ≤ (S.t.c : Int) := by omega
        have hspp := HSp.out
        rw [hspp] at a1
        clear hspp
        go_upto_region 12 with fail
        clear a1 hmn hm16
        go_loopg [58] nT (fun g i wr => ∃ j : Nat, j + g = nT ∧ i = .int .i64 (j : Nat) ∧ Aside (NwAt w Z Bs #[.int .i64 x.res, .slice S.t.sp nT S.t.c, .slice S.m.sp nM S.m.c, .slice S.e.sp nE S.e.c] T (shl_ o n s fo (upF W j) (upF R j)).toArray wr ∧ RowAt wr Tb 73 #[.int .i64 (fc 0), .int .i64 (fc 1), .int .i64 (fc 2), .int .i64 (fc 3), .int .i64 (fc 4), .int .i64 (fc 5), .int .i64 (fc 6), .int .i64 (fc 7)] ∧ wo.heap.size ≤ Tb ∧ Tb ≠ Bs))
        case atStart => exact ⟨0, by omega, rfl, by rw [upF_zero, upF_zero]; exact HTz.out, HT3.out.2.1, HT3.out.2.2, fun e => by have := HT3.out.2.2; have := HQ2.out.sh.lt; omega⟩
        case round =>
          obtain ⟨j, hjg, rfl, HJ⟩ := hrel
          cases gk with
          | zero =>
            obtain rfl : j = nT := by omega
            have HF := Lib.hid (show NwAt w Z Bs #[.int .i64 x.res, .slice S.t.sp j S.t.c, .slice S.m.sp nM S.m.c, .slice S.e.sp nE S.e.c] T CS wr by
              rw [HNew.out, ← shl_ext (fo := fo) (go := fo) (fw := upF W j) (gw := W) (fb := upF R j) (gb := R) (fun _ _ => rfl) (fun i hi => by
                unfold upF
                split
                · rfl
                · exact (HVW0.out i (by assumption)).symm) (fun i hi => by
                unfold upF
                split
                · rfl
                · exact (HVB0.out i (by assumption)).symm)]
              exact HJ.out.1)
            have HCS := Lib.hid (show CS.size = 51 ∧ CS.all (·.oneCell') = true by rw [HNew.out]; exact ⟨by simp [shl_len], shl_cells1 _ _ _ _ _ _⟩)
            go_wp2_with (first
              | (refine wpList_load_row rfl 36 (.tmp 8) rfl Bs rfl 36 CS (0, 0) _ HF.out.sh Tryd.underlying36 rfl (by rw [HInf.out, HCS.out.1]) ?_)
              | (refine wpList_store_row rfl 36 (.tmp 6) (.tmp 109) rfl (Z + 2) CS rfl rfl 36 (shl_ 0#32 0#32 0#32 zF zF zF).toArray HF.out.rs (by rw [HInf.out, HCS.out.1]) (by rw [HCS.out.1]; simp [shl_len]) HCS.out.2 ?_; generalize hw9 : World.setRow _ _ _ = w9)
              | fail)
            have hR9 : RowAt w9 (Z + 2) 36 CS := by rw [← hw9]; exact HF.out.rs.put
            have hB9 : Below w.heap.size w w9 := by rw [← hw9]; exact below_row HF.out.b0 (Nat.le_refl _) (by have := HZ.out; omega) _
            exact bodyPost_ret (results_rowN rfl _ _ (Z + 2) 36 CS _ rfl hR9 Tryd.underlying36 rfl (by rw [HInf.out, HCS.out.1])) rfl ⟨rfl, hB9⟩
          | succ g1 =>
            have hj : j < nT := by omega
            have hj2 : (j : Int) < (nT : Int) := by omega
            have hj16 : (j : Int) < 16 := by omega
            obtain ⟨d0, d1, d2, d3, d4, d5, d6, d7, d8, d9, d10⟩ := HTk.out wr HJ.out.1.b0 j hj
            have HCj := Lib.hid (HHas.out Y j (by omega))
            have HCt := Lib.hid (HHas.out B j (by omega))
            have HWj := Lib.hid (HVW.out j hj)
            have HRj := Lib.hid (HVB.out j hj)
            have HBkj := Lib.hid (fun (wx : World) (hb : Below w.heap.size w wx) => HBk.out wx hb j)
            have HSrj := Lib.hid (fun (wx : World) (hb : Below w.heap.size w wx) => HSr.out wx hb j hj)
            have HWnj := Lib.hid (fun (wx : World) (hb : Below w.heap.size w wx) (fw fb : Nat → Int) (own : Int) => HWn.out wx hb fw fb own j hj)
            have HOwj := HOw.out j hj
            have HWFj := Lib.hid (HWF.out j)
            have HsW := Lib.hid (And.intro (upF_succ W j) (fun h => upF_same (f := W) (k := j) h))
            have HsR := Lib.hid (And.intro (upF_succ R j) (fun h => upF_same (f := R) (k := j) h))
            obtain ⟨pj, hpj⟩ : ∃ v, (x.t j).per = v := ⟨_, rfl⟩
            obtain ⟨dj, hdj⟩ : ∃ v, (x.t j).dl = v := ⟨_, rfl⟩
            obtain ⟨cj, hcj⟩ : ∃ v, (x.t j).cost = v := ⟨_, rfl⟩
            obtain ⟨bj, hbj⟩ : ∃ v, blkF x Y fc (j : Int) = v := ⟨_, rfl⟩
            rw [hpj] at d0
            rw [hdj] at d1
            rw [hcj] at d2 HOwj HWFj
            rw [hbj] at HBkj HOwj HWFj
            have HWz := Lib.hid (show ∀ (wx : World) (hb : Below w.heap.size w wx), Calls Tryd.prog 34 #[.agg (shl_ o n s fo (upF W j) (upF R j)).toArray, .agg #[.int .i64 x.res, .slice S.t.sp nT S.t.c, .slice S.m.sp nM S.m.c, .slice S.e.sp nE S.e.c], .int .i64 (cj + bj), .int .i64 (j : Nat)] wx fun e w' => e = .returned (.int .i64 (tT (winF x Y fo j))) ∧ Below wx.heap.size wx w' from fun wx hb => by
              have := HWnj.out wx hb (upF W j) (upF R j) (cj + bj)
              rw [HWFj.out] at this
              exact this)
            rw [hbj] at HSrj
            obtain ⟨vW, hvW⟩ : ∃ v, tT (winF x Y fo j) = v := ⟨_, rfl⟩
            obtain ⟨vR, hvR⟩ : ∃ v, tT (rspF x B Y fc j) = v := ⟨_, rfl⟩
            obtain ⟨vB, hvB⟩ : ∃ v, tB (rspF x B Y fc j) = v := ⟨_, rfl⟩
            rw [hvW] at HWz HWj
            rw [hvR] at HRj HSrj
            rw [hvB] at HSrj
            obtain ⟨f0, hf0⟩ : ∃ f, lonF x j = f := ⟨_, rfl⟩
            rw [hf0] at d3 d4 d5 d6 d7 d8 d9 d10
            obtain ⟨bY, hbY⟩ : ∃ b, Y.getLsbD j = b := ⟨_, rfl⟩
            obtain ⟨bB, hbB⟩ : ∃ b, B.getLsbD j = b := ⟨_, rfl⟩
            rw [hbY] at HCj HWj
            rw [hbB] at HCt HRj
            clear hpj hdj hcj hbj HWnj HWFj hvW hvR hvB hf0 hbY hbB
            obtain ⟨wl, rfl⟩ : ∃ wl : World, wl = wr := ⟨_, rfl⟩
            go_upto_region 14 with fail
            generalize hw5 : World.alloc _ _ = w5
            have H5 := Lib.hid (show NwAt w Z Bs #[.int .i64 x.res, .slice S.t.sp nT S.t.c, .slice S.m.sp nM S.m.c, .slice S.e.sp nE S.e.c] T (shl_ o n s fo (upF W j) (upF R j)).toArray w5 ∧ RowAt w5 Tb 73 #[.int .i64 (fc 0), .int .i64 (fc 1), .int .i64 (fc 2), .int .i64 (fc 3), .int .i64 (fc 4), .int .i64 (fc 5), .int .i64 (fc 6), .int .i64 (fc 7)] ∧ RowAt w5 wl.heap.size 70 #[.int .i64 pj, .int .i64 dj, .int .i64 cj, .int .i64 (f0 0), .int .i64 (f0 1), .int .i64 (f0 2), .int .i64 (f0 3), .int .i64 (f0 4), .int .i64 (f0 5), .int .i64 (f0 6), .int .i64 (f0 7)] by
              rw [← hw5]
              have bb : Below wl.heap.size wl (wl.alloc (.cells #[.int .i64 pj, .int .i64 dj, .int .i64 cj, .int .i64 (f0 0), .int .i64 (f0 1), .int .i64 (f0 2), .int .i64 (f0 3), .int .i64 (f0 4), .int .i64 (f0 5), .int .i64 (f0 6), .int .i64 (f0 7)] 70)) := (Below.refl _ _).alloc (Nat.le_refl _) _
              exact ⟨HJ.out.1.next bb, HJ.out.2.1.new bb, RowAt.mk _ _ _⟩)
            have HKb := Lib.hid (show Tb ≠ wl.heap.size ∧ Bs ≠ wl.heap.size from ⟨fun e => by have := HJ.out.2.1.lt; omega, fun e => by have := HJ.out.1.sh.lt; omega⟩)
            obtain ⟨Kb, hKb⟩ : ∃ b, wl.heap.size = b := ⟨_, rfl⟩
            rw [hKb] at H5 HKb ⊢
            clear hw5 d0 d1 d2 d3 d4 d5 d6 d7 d8 d9 d10 hKb
            have c0 := (H5.out.1.sh.cell 0).trans (show _ = some (.int .u32 (w32 o)) by simp [shl_])
            have c1 := (H5.out.1.sh.cell 1).trans (show _ = some (.int .u32 (w32 n)) by simp [shl_])
            have c2 := (H5.out.1.sh.cell 2).trans (show _ = some (.int .u32 (w32 s)) by simp [shl_])
            go_upto_if 67 with (first
              | (go_at_call 33; refine (HBo.out _).mono ?_; rintro e w6 ⟨rfl, b6⟩; have H6 := Lib.hid (show NwAt w Z Bs #[.int .i64 x.res, .slice S.t.sp nT S.t.c, .slice S.m.sp nM S.m.c, .slice S.e.sp nE S.e.c] T (shl_ o n s fo (upF W j) (upF R j)).toArray w6 ∧ RowAt w6 Tb 73 #[.int .i64 (fc 0), .int .i64 (fc 1), .int .i64 (fc 2), .int .i64 (fc 3), .int .i64 (fc 4), .int .i64 (fc 5), .int .i64 (fc 6), .int .i64 (fc 7)] ∧ RowAt w6 Kb 70 #[.int .i64 pj, .int .i64 dj, .int .i64 cj, .int .i64 (f0 0), .int .i64 (f0 1), .int .i64 (f0 2), .int .i64 (f0 3), .int .i64 (f0 4), .int .i64 (f0 5), .int .i64 (f0 6), .int .i64 (f0 7)] from ⟨H5.out.1.next b6, H5.out.2.1.new b6, H5.out.2.2.new b6⟩); clear b6 c0 c1 c2)
              | (go_at_call 31; refine (HCj.out _).mono ?_; rintro e w7 ⟨rfl, rfl⟩)
              | fail)
            go_cut [] from 68 to 84 (fun wx => Aside (NwAt w Z Bs #[.int .i64 x.res, .slice S.t.sp nT S.t.c, .slice S.m.sp nM S.m.c, .slice S.e.sp nE S.e.c] T (shl_ o n s fo (upF W (j + 1)) (upF R j)).toArray wx ∧ RowAt wx Tb 73 #[.int .i64 (fc 0), .int .i64 (fc 1), .int .i64 (fc 2), .int .i64 (fc 3), .int .i64 (fc 4), .int .i64 (fc 5), .int .i64 (fc 6), .int .i64 (fc 7)] ∧ RowAt wx Kb 70 #[.int .i64 pj, .int .i64 dj, .int .i64 cj, .int .i64 (f0 0), .int .i64 (f0 1), .int .i64 (f0 2), .int .i64 (f0 3), .int .i64 (f0 4), .int .i64 (f0 5), .int .i64 (f0 6), .int .i64 (f0 7)]))
            case first => as_aux_lemma =>
              cases bY with
              | false =>
                have HE0 := Lib.hid (HsW.out.2 (by rw [HWj.out]; rfl))
                go_wp2
                go_meet
                case rel => rw [HE0.out]; exact H6.out
              | true =>
                have HE0 := Lib.hid HsW.out.1
                have HNq := Lib.hid (show ∀ w', Below w6.heap.size w6 w' → NwAt w Z Bs #[.int .i64 x.res, .slice S.t.sp nT S.t.c, .slice S.m.sp nM S.m.c, .slice S.e.sp nE S.e.c] T (shl_ o n s fo (upF W j) (upF R j)).toArray w' ∧ RowAt w' Tb 73 #[.int .i64 (fc 0), .int .i64 (fc 1), .int .i64 (fc 2), .int .i64 (fc 3), .int .i64 (fc 4), .int .i64 (fc 5), .int .i64 (fc 6), .int .i64 (fc 7)] ∧ RowAt w' Kb 70 #[.int .i64 pj, .int .i64 dj, .int .i64 cj, .int .i64 (f0 0), .int .i64 (f0 1), .int .i64 (f0 2), .int .i64 (f0 3), .int .i64 (f0 4), .int .i64 (f0 5), .int .i64 (f0 6), .int .i64 (f0 7)] from fun w' hb => ⟨H6.out.1.next hb, H6.out.2.1.new hb, H6.out.2.2.new hb⟩)
                have hw1 : IntKind.i64.wrap (cj + bj) = cj + bj := by rw [IntKind.wrap_i64]; omega
                go_upto_region 15 with fail
                refine wp_region_g (fun w' => Below w6.heap.size w6 w') 17 (by kernel_rfl) (below_dn (Below.refl _ _) 1) (fun hS => ?_)
                refine wpAnyG_take (i := 0) (oi := { dst := some 68, op := .move (.tmp 12), type := 3, pos := "window.go:54", after := #[], guard := none }) (v := ?_) rfl (by kernel_rfl) (by kernel_rfl) (by kernel_rfl) (by kernel_rfl) (fun _ _ _ h => h) (Or.inl ⟨by rfl, ?_⟩) hS ?_
                rotate_left 1
                · intro w hw; go_simp; try (with_reducible rfl)
                simp only [Act.put, List.setIfInBounds_toArray, List.set_cons_zero, List.set_cons_succ]
                refine wpAnyG_take (i := 1) (oi := { dst := some 69, op := .load 36 (.tmp 8), type := 36, pos := "window.go:54", after := #[], guard := none }) (v := (.agg (shl_ o n s fo (upF W j) (upF R j)).toArray)) rfl (by kernel_rfl) (by kernel_rfl) (by kernel_rfl) (by kernel_rfl) (fun _ _ _ h => h) (Or.inl ⟨by rfl, ?_⟩) hS ?_
                · intro w hw; exact exec_load_row 36 (.tmp 8) (by exact rfl) Bs (by exact rfl) 36 (shl_ o n s fo (upF W j) (upF R j)).toArray (0, 0) _ (HNq.out _ hw).1.sh Tryd.underlying36 rfl (by rw [HInf.out]; simp [shl_len])
                simp only [Act.put, List.setIfInBounds_toArray, List.set_cons_zero, List.set_cons_succ]
                refine wpAnyG_take (i := 2) (oi := { dst := some 70, op := .load 26 (.tmp 3), type := 26, pos := "window.go:54", after := #[], guard := none }) (v := ?_) rfl (by kernel_rfl) (by kernel_rfl) (by kernel_rfl) (by kernel_rfl) (fun _ _ _ h => h) (Or.inl ⟨by rfl, ?_⟩) hS ?_
                rotate_left 1
                · intro w hw; have hn := (HNq.out _ hw).1.im; have k0 := hn.cell 0; have k1 := hn.cell 1; have k2 := hn.cell 2; have k3 := hn.cell 3; simp only [List.getElem?_toArray, List.getElem?_cons_zero, List.getElem?_cons_succ] at k0 k1 k2 k3; go_simp; try (with_reducible rfl)
                simp only [Act.put, List.setIfInBounds_toArray, List.set_cons_zero, List.set_cons_succ]
                refine wpAnyG_take (i := 3) (oi := { dst := some 71, op := .fieldAddr 70 (.tmp 13) 2, type := 0, pos := "window.go:54", after := #[], guard := none }) (v := ?_) rfl (by kernel_rfl) (by kernel_rfl) (by kernel_rfl) (by kernel_rfl) (fun _ _ _ h => h) (Or.inl ⟨by rfl, ?_⟩) hS ?_
                rotate_left 1
                · intro w hw; go_simp; try (with_reducible rfl)
                simp only [Act.put, List.setIfInBounds_toArray, List.set_cons_zero, List.set_cons_succ]
                refine wpAnyG_take (i := 4) (oi := { dst := some 72, op := .load 3 (.tmp 71), type := 3, pos := "window.go:54", after := #[{ on := 3, ground := .data }], guard := none }) (v := ?_) rfl (by kernel_rfl) (by kernel_rfl) (by kernel_rfl) (by kernel_rfl) (fun _ _ _ h => h) (Or.inl ⟨by rfl, ?_⟩) hS ?_
                rotate_left 1
                · intro w hw; have k0 : w.cell? ⟨Kb, 2, none⟩ = some (.int .i64 cj) := (HNq.out _ hw).2.2.cell 2; go_simp; try (with_reducible rfl)
                simp only [Act.put, List.setIfInBounds_toArray, List.set_cons_zero, List.set_cons_succ]
                refine wpAnyG_take (i := 5) (oi := { dst := some 73, op := .load 26 (.tmp 3), type := 26, pos := "window.go:54", after := #[], guard := none }) (v := ?_) rfl (by kernel_rfl) (by kernel_rfl) (by kernel_rfl) (by kernel_rfl) (fun _ _ _ h => h) (Or.inl ⟨by rfl, ?_⟩) hS ?_
                rotate_left 1
                · intro w hw; have hn := (HNq.out _ hw).1.im; have k0 := hn.cell 0; have k1 := hn.cell 1; have k2 := hn.cell 2; have k3 := hn.cell 3; simp only [List.getElem?_toArray, List.getElem?_cons_zero, List.getElem?_cons_succ] at k0 k1 k2 k3; go_simp; try (with_reducible rfl)
                simp only [Act.put, List.setIfInBounds_toArray, List.set_cons_zero, List.set_cons_succ]
                refine wpAnyG_take (i := 6) (oi := { dst := some 74, op := .fieldAddr 36 (.tmp 8) 0, type := 0, pos := "window.go:54", after := #[], guard := none }) (v := ?_) rfl (by kernel_rfl) (by kernel_rfl) (by kernel_rfl) (by kernel_rfl) (fun _ _ _ h => h) (Or.inl ⟨by rfl, ?_⟩) hS ?_
                rotate_left 1
                · intro w hw; go_simp; try (with_reducible rfl)
                simp only [Act.put, List.setIfInBounds_toArray, List.set_cons_zero, List.set_cons_succ]
                refine wpAnyG_take (i := 7) (oi := { dst := some 75, op := .load 33 (.tmp 74), type := 33, pos := "window.go:54", after := #[{ on := 6, ground := .data }], guard := none }) (v := ?_) rfl (by kernel_rfl) (by kernel_rfl) (by kernel_rfl) (by kernel_rfl) (fun _ _ _ h => h) (Or.inl ⟨by rfl, ?_⟩) hS ?_
                rotate_left 1
                · intro w hw; have hn := (HNq.out _ hw).1.sh; have k0 := (hn.cell 0).trans (show _ = some (.int .u32 (w32 o)) by simp [shl_]); have k1 := (hn.cell 1).trans (show _ = some (.int .u32 (w32 n)) by simp [shl_]); have k2 := (hn.cell 2).trans (show _ = some (.int .u32 (w32 s)) by simp [shl_]); go_simp; try (with_reducible rfl)
                simp only [Act.put, List.setIfInBounds_toArray, List.set_cons_zero, List.set_cons_succ]
                refine wpAnyG_take (i := 9) (oi := { dst := some 77, op := .load 73 (.tmp 11), type := 73, pos := "window.go:54", after := #[], guard := none }) (v := ?_) rfl (by kernel_rfl) (by kernel_rfl) (by kernel_rfl) (by kernel_rfl) (fun _ _ _ h => h) (Or.inl ⟨by rfl, ?_⟩) hS ?_
                rotate_left 1
                · intro w hw; have hn := (HNq.out _ hw).2.1; have k0 : w.cell? ⟨Tb, 0, none⟩ = some (.int .i64 (fc 0)) := hn.cell 0; have k1 : w.cell? ⟨Tb, 1, none⟩ = some (.int .i64 (fc 1)) := hn.cell 1; have k2 : w.cell? ⟨Tb, 2, none⟩ = some (.int .i64 (fc 2)) := hn.cell 2; have k3 : w.cell? ⟨Tb, 3, none⟩ = some (.int .i64 (fc 3)) := hn.cell 3; have k4 : w.cell? ⟨Tb, 4, none⟩ = some (.int .i64 (fc 4)) := hn.cell 4; have k5 : w.cell? ⟨Tb, 5, none⟩ = some (.int .i64 (fc 5)) := hn.cell 5; have k6 : w.cell? ⟨Tb, 6, none⟩ = some (.int .i64 (fc 6)) := hn.cell 6; have k7 : w.cell? ⟨Tb, 7, none⟩ = some (.int .i64 (fc 7)) := hn.cell 7; go_simp; try (with_reducible rfl)
                simp only [Act.put, List.setIfInBounds_toArray, List.set_cons_zero, List.set_cons_succ]
                refine wpAnyG_take (i := 10) (oi := { dst := some 78, op := .move (.tmp 12), type := 3, pos := "window.go:54", after := #[], guard := none }) (v := ?_) rfl (by kernel_rfl) (by kernel_rfl) (by kernel_rfl) (by kernel_rfl) (fun _ _ _ h => h) (Or.inl ⟨by rfl, ?_⟩) hS ?_
                rotate_left 1
                · intro w hw; go_simp; try (with_reducible rfl)
                simp only [Act.put, List.setIfInBounds_toArray, List.set_cons_zero, List.set_cons_succ]
                refine wpAnyG_take (i := 13) (oi := { dst := some 81, op := .move (.tmp 12), type := 3, pos := "window.go:54", after := #[], guard := none }) (v := ?_) rfl (by kernel_rfl) (by kernel_rfl) (by kernel_rfl) (by kernel_rfl) (fun _ _ _ h => h) (Or.inl ⟨by rfl, ?_⟩) hS ?_
                rotate_left 1
                · intro w hw; go_simp; try (with_reducible rfl)
                simp only [Act.put, List.setIfInBounds_toArray, List.set_cons_zero, List.set_cons_succ]
                refine wpAnyG_take2 (i := 15) (oi := { dst := some 83, op := .fieldAddr 36 (.tmp 8) 2, type := 0, pos := "window.go:54", after := #[], guard := none }) (v := ?_) rfl (by kernel_rfl) (by kernel_rfl) (by kernel_rfl) 16 (by kernel_rfl) (by kernel_rfl) (by kernel_rfl) (fun _ _ _ h => h) (Or.inl ⟨by rfl, ?_⟩) hS ?_
                rotate_left 1
                · intro w hw; go_simp; try (with_reducible rfl)
                simp only [Act.put, List.setIfInBounds_toArray, List.set_cons_zero, List.set_cons_succ]
                refine wpAnyG_ready (rs := [8]) (by kernel_rfl) (by simp) (AllReadyG.cons (o := { dst := some 76, op := .call { callee := .value (.func 33), args := #[.tmp 75], argTypes := #[33] }, type := 31, pos := "window.go:54", after := #[{ on := 7, ground := .data }], guard := none }) rfl (fun K hK => ?_) AllReadyG.nil)
                go_simp
                go_at_call 33
                refine (HBo.out _).mono ?_
                rintro e w8 ⟨rfl, b8⟩
                have H8 := Lib.hid (show Below w6.heap.size w6 w8 from (below_dn (Below.refl _ w6) 1).trans b8)
                clear b8
                try dsimp only
                refine hK.out _ _ H8.out (fun hHeld => ?_)
                clear hK K
                try simp only [Act.put, List.setIfInBounds_toArray, List.set_cons_zero, List.set_cons_succ]
                refine wpAnyG_ready (rs := [11]) (by kernel_rfl) (by simp) (AllReadyG.cons (o := { dst := some 79, op := .call { callee := .value (.func 35), args := #[.tmp 73, .tmp 76, .tmp 77, .tmp 78], argTypes := #[26, 31, 73, 3] }, type := 3, pos := "window.go:54", after := #[{ on := 5, ground := .data }, { on := 8, ground := .data }, { on := 9, ground := .data }, { on := 10, ground := .data }, { on := 8, ground := .chain }], guard := none }) rfl (fun K hK => ?_) AllReadyG.nil)
                go_simp
                go_at_call 35
                refine (HBkj.out _ (HNq.out _ H8.out).1.b0).mono ?_
                rintro e w9 ⟨rfl, b9⟩
                have H9 := Lib.hid (show Below w6.heap.size w6 w9 from H8.out.trans (b9.mono H8.out.size))
                clear b9
                try dsimp only
                refine hK.out _ _ H9.out (fun hHeld => ?_)
                clear hK K
                try simp only [Act.put, List.setIfInBounds_toArray, List.set_cons_zero, List.set_cons_succ]
                refine wpAnyG_take (i := 12) (oi := { dst := some 80, op := .binOp .add 3 (.tmp 72) (.tmp 79) 3, type := 3, pos := "window.go:54", after := #[{ on := 4, ground := .data }, { on := 11, ground := .data }], guard := none }) (v := ?_) rfl (by kernel_rfl) (by kernel_rfl) (by kernel_rfl) (by kernel_rfl) (fun _ _ _ h => h) (Or.inl ⟨by rfl, ?_⟩) H9.out ?_
                rotate_left 1
                · intro w hw; go_simp; try (with_reducible rfl)
                simp only [Act.put, List.setIfInBounds_toArray, List.set_cons_zero, List.set_cons_succ]
                refine wpAnyG_ready (rs := [14]) (by kernel_rfl) (by simp) (AllReadyG.cons (o := { dst := some 82, op := .call { callee := .value (.func 34), args := #[.tmp 69, .tmp 70, .tmp 80, .tmp 81], argTypes := #[36, 26, 3, 3] }, type := 3, pos := "window.go:54", after := #[{ on := 1, ground := .data }, { on := 2, ground := .data }, { on := 12, ground := .data }, { on := 13, ground := .data }, { on := 11, ground := .chain }], guard := none }) rfl (fun K hK => ?_) AllReadyG.nil)
                go_simp
                go_at_call 34
                refine (HWz.out _ (HNq.out _ H9.out).1.b0).mono ?_
                rintro e w10 ⟨rfl, b10⟩
                have H10 := Lib.hid (show Below w6.heap.size w6 w10 from H9.out.trans (b10.mono H9.out.size))
                have hns := (HNq.out _ H10.out).1.sh
                have kf : w10.frozen? ⟨Bs, 19 + j, none⟩ = false := hns.fr _
                have kc : w10.cell? ⟨Bs, 19 + j, none⟩ = some (.int .i64 (upF W j j)) := (hns.cell (19 + j)).trans (by rw [List.getElem?_toArray]; exact shl_w _ _ _ _ _ _ j (by omega))
                clear b10 hns
                try dsimp only
                refine hK.out _ _ H10.out (fun hHeld => ?_)
                clear hK K
                try simp only [Act.put, List.setIfInBounds_toArray, List.set_cons_zero, List.set_cons_succ]
                refine wpAnyG_take (i := 16) (oi := { dst := some 84, op := .indexAddr 34 (.tmp 83) (.tmp 68), type := 0, pos := "window.go:54", after := #[{ on := 15, ground := .data }, { on := 0, ground := .data }, { on := 0, ground := .phase }, { on := 1, ground := .phase }, { on := 2, ground := .phase }, { on := 3, ground := .phase }, { on := 4, ground := .phase }, { on := 5, ground := .phase }, { on := 6, ground := .phase }, { on := 7, ground := .phase }, { on := 8, ground := .phase }, { on := 9, ground := .phase }, { on := 10, ground := .phase }, { on := 11, ground := .phase }, { on := 12, ground := .phase }, { on := 13, ground := .phase }, { on := 14, ground := .phase }], guard := none }) (v := ?_) rfl (by kernel_rfl) (by kernel_rfl) (by kernel_rfl) (by kernel_rfl) (fun _ _ _ h => h) (Or.inl ⟨by rfl, ?_⟩) H10.out ?_
                rotate_left 1
                · intro w hw; go_simp; try (with_reducible rfl)
                simp only [Act.put, List.setIfInBounds_toArray, List.set_cons_zero, List.set_cons_succ]
                refine wpAnyG_ready (rs := [17]) (by kernel_rfl) (by simp) (AllReadyG.last (o := { dst := none, op := .store 3 (.tmp 84) (.tmp 82), type := 0, pos := "window.go:54", after := #[{ on := 16, ground := .data }, { on := 14, ground := .data }, { on := 14, ground := .chain }, { on := 0, ground := .phase }, { on := 1, ground := .phase }, { on := 2, ground := .phase }, { on := 3, ground := .phase }, { on := 4, ground := .phase }, { on := 5, ground := .phase }, { on := 6, ground := .phase }, { on := 7, ground := .phase }, { on := 8, ground := .phase }, { on := 9, ground := .phase }, { on := 10, ground := .phase }, { on := 11, ground := .phase }, { on := 12, ground := .phase }, { on := 13, ground := .phase }, { on := 14, ground := .phase }], guard := none }) rfl (fun K hK => ?_))
                go_simp
                refine hK.out _ _ ?_
                clear hK K
                try simp only [Act.put, List.setIfInBounds_toArray, List.set_cons_zero, List.set_cons_succ]
                refine wpAnyG_done (by kernel_rfl) ?_ _

                have HEn := Lib.hid (show NwAt w Z Bs #[.int .i64 x.res, .slice S.t.sp nT S.t.c, .slice S.m.sp nM S.m.c, .slice S.e.sp nE S.e.c] T (shl_ o n s fo (upF W (j + 1)) (upF R j)).toArray (w10.setCell ⟨Bs, 19 + j, none⟩ (.int .i64 vW)) ∧ RowAt (w10.setCell ⟨Bs, 19 + j, none⟩ (.int .i64 vW)) Tb 73 #[.int .i64 (fc 0), .int .i64 (fc 1), .int .i64 (fc 2), .int .i64 (fc 3), .int .i64 (fc 4), .int .i64 (fc 5), .int .i64 (fc 6), .int .i64 (fc 7)] ∧ RowAt (w10.setCell ⟨Bs, 19 + j, none⟩ (.int .i64 vW)) Kb 70 #[.int .i64 pj, .int .i64 dj, .int .i64 cj, .int .i64 (f0 0), .int .i64 (f0 1), .int .i64 (f0 2), .int .i64 (f0 3), .int .i64 (f0 4), .int .i64 (f0 5), .int .i64 (f0 6), .int .i64 (f0 7)] by
                  have hx := HNq.out _ H10.out
                  have hc : Ch (fun b => b = Bs) w10 (w10.setCell ⟨Bs, 19 + j, none⟩ (.int .i64 vW)) := (Ch.refl _ _).setCell _ _ (.inl rfl)
                  have h1 := hx.1.set HZw.out (19 + j) (.int .i64 vW)
                  rw [shl_setW _ _ _ _ _ _ j (by omega)] at h1
                  rw [HE0.out, HWj.out]
                  exact ⟨h1, hx.2.1.keep hc (HJ.out.2.2.2), hx.2.2.keep hc (fun e => HKb.out.2 e.symm)⟩)
                clear kf kc hw1
                go_wp2
                go_meet
                case rel => exact HEn.out
            case rest =>
            obtain ⟨wn, rfl⟩ : ∃ wn : World, wn = wc := ⟨_, rfl⟩
            have c0 := (hcut.out.1.sh.cell 0).trans (show _ = some (.int .u32 (w32 o)) by simp [shl_])
            have c1 := (hcut.out.1.sh.cell 1).trans (show _ = some (.int .u32 (w32 n)) by simp [shl_])
            have c2 := (hcut.out.1.sh.cell 2).trans (show _ = some (.int .u32 (w32 s)) by simp [shl_])
            have HM := Lib.hid hcut.out
            clear hcut
            go_upto_if 89 with (first
              | (go_at_call 36; refine (HTo.out _).mono ?_; rintro e w11 ⟨rfl, b11⟩; have H11 := Lib.hid (show NwAt w Z Bs #[.int .i64 x.res, .slice S.t.sp nT S.t.c, .slice S.m.sp nM S.m.c, .slice S.e.sp nE S.e.c] T (shl_ o n s fo (upF W (j + 1)) (upF R j)).toArray w11 ∧ RowAt w11 Tb 73 #[.int .i64 (fc 0), .int .i64 (fc 1), .int .i64 (fc 2), .int .i64 (fc 3), .int .i64 (fc 4), .int .i64 (fc 5), .int .i64 (fc 6), .int .i64 (fc 7)] from ⟨HM.out.1.next b11, HM.out.2.1.new b11⟩); clear b11 c0 c1 c2)
              | (go_at_call 31; refine (HCt.out _).mono ?_; rintro e w12 ⟨rfl, rfl⟩)
              | fail)
            cases bB with
            | false =>
              have HE0 := Lib.hid (HsR.out.2 (by rw [HRj.out]; rfl))
              go_wp2
              go_roundg g1
              case measure => omega
              case rel => exact ⟨j + 1, by omega, by go_num, by rw [HE0.out]; exact H11.out.1, H11.out.2, HJ.out.2.2.1, HJ.out.2.2.2⟩
            | true =>
              have HE0 := Lib.hid HsR.out.1
              have HNr := Lib.hid (show ∀ w', Below w11.heap.size w11 w' → NwAt w Z Bs #[.int .i64 x.res, .slice S.t.sp nT S.t.c, .slice S.m.sp nM S.m.c, .slice S.e.sp nE S.e.c] T (shl_ o n s fo (upF W (j + 1)) (upF R j)).toArray w' ∧ RowAt w' Tb 73 #[.int .i64 (fc 0), .int .i64 (fc 1), .int .i64 (fc 2), .int .i64 (fc 3), .int .i64 (fc 4), .int .i64 (fc 5), .int .i64 (fc 6), .int .i64 (fc 7)] from fun w' hb => ⟨H11.out.1.next hb, H11.out.2.new hb⟩)
              go_upto_region 17 with fail
              have HG0 := Lib.hid (show Below w11.heap.size w11 w11.drew from below_dn (Below.refl _ _) 1)
              obtain ⟨wd, hwd⟩ : ∃ wd, w11.drew = wd := ⟨_, rfl⟩
              rw [hwd] at HG0
              go_cut [14, 15] from 90 to 102 (fun v14 v15 wx => ∃ Rb : Nat, v14 = .pointer (some ⟨Rb, 0, none⟩) ∧ Aside (Below w11.heap.size w11 wx ∧ RowAt wx Rb 79 #[.int .i64 (j : Nat), .int .i64 bj, .int .i64 vR]))
              case first =>
                refine wp_region_held_drew (S := fun w' => Below w11.heap.size w11 w') (by kernel_rfl) (by rw [hwd]; exact HG0.out) (fun hS => ?_)
                rw [hwd] at hS ⊢
                clear hwd
                refine wpAnyH_take (i := 0) (oi := { dst := some 91, op := .load 26 (.tmp 3), type := 26, pos := "window.go:57", after := #[], guard := none }) (v := ?_) rfl (by kernel_rfl) (by kernel_rfl) (by kernel_rfl) (fun _ _ _ h => h) (Or.inl ⟨by rfl, ?_⟩) hS ?_
                rotate_left 1
                · intro w hw; have hn := (HNr.out _ hw).1.im; have k0 := hn.cell 0; have k1 := hn.cell 1; have k2 := hn.cell 2; have k3 := hn.cell 3; simp only [List.getElem?_toArray, List.getElem?_cons_zero, List.getElem?_cons_succ] at k0 k1 k2 k3; go_simp; try (with_reducible rfl)
                simp only [Act.put, List.setIfInBounds_toArray, List.set_cons_zero, List.set_cons_succ]
                refine wpAnyH_take (i := 1) (oi := { dst := some 92, op := .fieldAddr 36 (.tmp 8) 0, type := 0, pos := "window.go:57", after := #[], guard := none }) (v := ?_) rfl (by kernel_rfl) (by kernel_rfl) (by kernel_rfl) (fun _ _ _ h => h) (Or.inl ⟨by rfl, ?_⟩) hS ?_
                rotate_left 1
                · intro w hw; go_simp; try (with_reducible rfl)
                simp only [Act.put, List.setIfInBounds_toArray, List.set_cons_zero, List.set_cons_succ]
                refine wpAnyH_take (i := 2) (oi := { dst := some 93, op := .load 33 (.tmp 92), type := 33, pos := "window.go:57", after := #[{ on := 1, ground := .data }], guard := none }) (v := ?_) rfl (by kernel_rfl) (by kernel_rfl) (by kernel_rfl) (fun _ _ _ h => h) (Or.inl ⟨by rfl, ?_⟩) hS ?_
                rotate_left 1
                · intro w hw; have hn := (HNr.out _ hw).1.sh; have k0 := (hn.cell 0).trans (show _ = some (.int .u32 (w32 o)) by simp [shl_]); have k1 := (hn.cell 1).trans (show _ = some (.int .u32 (w32 n)) by simp [shl_]); have k2 := (hn.cell 2).trans (show _ = some (.int .u32 (w32 s)) by simp [shl_]); go_simp; try (with_reducible rfl)
                simp only [Act.put, List.setIfInBounds_toArray, List.set_cons_zero, List.set_cons_succ]
                refine wpAnyH_take (i := 4) (oi := { dst := some 95, op := .fieldAddr 36 (.tmp 8) 0, type := 0, pos := "window.go:57", after := #[], guard := none }) (v := ?_) rfl (by kernel_rfl) (by kernel_rfl) (by kernel_rfl) (fun _ _ _ h => h) (Or.inl ⟨by rfl, ?_⟩) hS ?_
                rotate_left 1
                · intro w hw; go_simp; try (with_reducible rfl)
                simp only [Act.put, List.setIfInBounds_toArray, List.set_cons_zero, List.set_cons_succ]
                refine wpAnyH_take (i := 5) (oi := { dst := some 96, op := .load 33 (.tmp 95), type := 33, pos := "window.go:57", after := #[{ on := 4, ground := .data }], guard := none }) (v := ?_) rfl (by kernel_rfl) (by kernel_rfl) (by kernel_rfl) (fun _ _ _ h => h) (Or.inl ⟨by rfl, ?_⟩) hS ?_
                rotate_left 1
                · intro w hw; have hn := (HNr.out _ hw).1.sh; have k0 := (hn.cell 0).trans (show _ = some (.int .u32 (w32 o)) by simp [shl_]); have k1 := (hn.cell 1).trans (show _ = some (.int .u32 (w32 n)) by simp [shl_]); have k2 := (hn.cell 2).trans (show _ = some (.int .u32 (w32 s)) by simp [shl_]); go_simp; try (with_reducible rfl)
                simp only [Act.put, List.setIfInBounds_toArray, List.set_cons_zero, List.set_cons_succ]
                refine wpAnyH_take (i := 7) (oi := { dst := some 98, op := .load 73 (.tmp 11), type := 73, pos := "window.go:57", after := #[], guard := none }) (v := ?_) rfl (by kernel_rfl) (by kernel_rfl) (by kernel_rfl) (fun _ _ _ h => h) (Or.inl ⟨by rfl, ?_⟩) hS ?_
                rotate_left 1
                · intro w hw; have hn := (HNr.out _ hw).2; have k0 : w.cell? ⟨Tb, 0, none⟩ = some (.int .i64 (fc 0)) := hn.cell 0; have k1 : w.cell? ⟨Tb, 1, none⟩ = some (.int .i64 (fc 1)) := hn.cell 1; have k2 : w.cell? ⟨Tb, 2, none⟩ = some (.int .i64 (fc 2)) := hn.cell 2; have k3 : w.cell? ⟨Tb, 3, none⟩ = some (.int .i64 (fc 3)) := hn.cell 3; have k4 : w.cell? ⟨Tb, 4, none⟩ = some (.int .i64 (fc 4)) := hn.cell 4; have k5 : w.cell? ⟨Tb, 5, none⟩ = some (.int .i64 (fc 5)) := hn.cell 5; have k6 : w.cell? ⟨Tb, 6, none⟩ = some (.int .i64 (fc 6)) := hn.cell 6; have k7 : w.cell? ⟨Tb, 7, none⟩ = some (.int .i64 (fc 7)) := hn.cell 7; go_simp; try (with_reducible rfl)
                simp only [Act.put, List.setIfInBounds_toArray, List.set_cons_zero, List.set_cons_succ]
                refine wpAnyH_take (i := 8) (oi := { dst := some 99, op := .move (.tmp 12), type := 3, pos := "window.go:57", after := #[], guard := none }) (v := ?_) rfl (by kernel_rfl) (by kernel_rfl) (by kernel_rfl) (fun _ _ _ h => h) (Or.inl ⟨by rfl, ?_⟩) hS ?_
                rotate_left 1
                · intro w hw; go_simp; try (with_reducible rfl)
                simp only [Act.put, List.setIfInBounds_toArray, List.set_cons_zero, List.set_cons_succ]
                refine wpAnyH_ready (rs := [3, 13]) (by kernel_rfl) (by simp) (AllReadyH.cons (o := { dst := some 94, op := .call { callee := .value (.func 36), args := #[.tmp 93], argTypes := #[33] }, type := 31, pos := "window.go:57", after := #[{ on := 2, ground := .data }], guard := none }) rfl (fun K hK => ?_) (AllReadyH.cons (o := { dst := some 14, op := .alloc 79, type := 0, pos := "window.go:57", after := #[], guard := none }) rfl (fun K hK => ?_) AllReadyH.nil))
                · go_simp
                  go_at_call 36
                  refine (HTo.out _).mono ?_
                  rintro e wg117 ⟨rfl, bc117⟩
                  have HG118 := Lib.hid (show Below w11.heap.size w11 wg117 from (HG0.out.trans ((bc117).mono HG0.out.size)))
                  clear bc117
                  try dsimp only
                  refine hK.out _ _ HG118.out (fun hHeld => ?_)
                  clear hK K
                  try simp only [Act.put, List.setIfInBounds_toArray, List.set_cons_zero, List.set_cons_succ]
                  refine wpAnyH_ready (rs := [6, 13]) (by kernel_rfl) (by simp) (AllReadyH.cons (o := { dst := some 97, op := .call { callee := .value (.func 33), args := #[.tmp 96], argTypes := #[33] }, type := 31, pos := "window.go:57", after := #[{ on := 5, ground := .data }, { on := 3, ground := .chain }], guard := none }) rfl (fun K hK => ?_) (AllReadyH.cons (o := { dst := some 14, op := .alloc 79, type := 0, pos := "window.go:57", after := #[], guard := none }) rfl (fun K hK => ?_) AllReadyH.nil))
                  · go_simp
                    go_at_call 33
                    refine (HBo.out _).mono ?_
                    rintro e wg119 ⟨rfl, bc119⟩
                    have HG120 := Lib.hid (show Below w11.heap.size w11 wg119 from (HG118.out.trans ((bc119).mono HG118.out.size)))
                    clear bc119
                    try dsimp only
                    refine hK.out _ _ HG120.out (fun hHeld => ?_)
                    clear hK K
                    try simp only [Act.put, List.setIfInBounds_toArray, List.set_cons_zero, List.set_cons_succ]
                    refine wpAnyH_ready (rs := [9, 13]) (by kernel_rfl) (by simp) (AllReadyH.cons (o := { dst := some 100, op := .call { callee := .value (.func 37), args := #[.tmp 91, .tmp 94, .tmp 97, .tmp 98, .tmp 99], argTypes := #[26, 31, 31, 73, 3] }, type := 80, pos := "window.go:57", after := #[{ on := 0, ground := .data }, { on := 3, ground := .data }, { on := 6, ground := .data }, { on := 7, ground := .data }, { on := 8, ground := .data }, { on := 6, ground := .chain }], guard := none }) rfl (fun K hK => ?_) (AllReadyH.cons (o := { dst := some 14, op := .alloc 79, type := 0, pos := "window.go:57", after := #[], guard := none }) rfl (fun K hK => ?_) AllReadyH.nil))
                    · go_simp
                      go_at_call 37
                      refine (HSrj.out _ (HNr.out _ HG120.out).1.b0).mono ?_
                      rintro e wg121 ⟨rfl, bc121⟩
                      have HG122 := Lib.hid (show Below w11.heap.size w11 wg121 from (HG120.out.trans ((bc121).mono HG120.out.size)))
                      clear bc121
                      try dsimp only
                      refine hK.out _ _ HG122.out (fun hHeld => ?_)
                      clear hK K
                      try simp only [Act.put, List.setIfInBounds_toArray, List.set_cons_zero, List.set_cons_succ]
                      refine wpAnyH_take (i := 10) (oi := { dst := some 90, op := .move (.tmp 100), type := 80, pos := "window.go:57", after := #[{ on := 9, ground := .data }], guard := none }) (v := ?_) rfl (by kernel_rfl) (by kernel_rfl) (by kernel_rfl) (fun _ _ _ h => h) (Or.inl ⟨by rfl, ?_⟩) HG122.out ?_
                      rotate_left 1
                      · intro w hw; go_simp; try (with_reducible rfl)
                      simp only [Act.put, List.setIfInBounds_toArray, List.set_cons_zero, List.set_cons_succ]
                      refine wpAnyH_take (i := 11) (oi := { dst := some 101, op := .extract (.tmp 90) 0, type := 79, pos := "window.go:57", after := #[{ on := 10, ground := .data }], guard := none }) (v := ?_) rfl (by kernel_rfl) (by kernel_rfl) (by kernel_rfl) (fun _ _ _ h => h) (Or.inl ⟨by rfl, ?_⟩) HG122.out ?_
                      rotate_left 1
                      · intro w hw; go_simp; try (with_reducible rfl)
                      simp only [Act.put, List.setIfInBounds_toArray, List.set_cons_zero, List.set_cons_succ]
                      refine wpAnyH_take (i := 12) (oi := { dst := some 102, op := .extract (.tmp 90) 1, type := 4, pos := "window.go:57", after := #[{ on := 10, ground := .data }, { on := 14, ground := .gcOnly Go.Departure.lateStores }], guard := none }) (v := ?_) rfl (by kernel_rfl) (by kernel_rfl) (by kernel_rfl) (fun _ _ _ h => h) (Or.inl ⟨by rfl, ?_⟩) HG122.out ?_
                      rotate_left 1
                      · intro w hw; go_simp; try (with_reducible rfl)
                      simp only [Act.put, List.setIfInBounds_toArray, List.set_cons_zero, List.set_cons_succ]
                      refine wpAnyH_ready (rs := [13]) (by kernel_rfl) (by simp) (AllReadyH.cons (o := { dst := some 14, op := .alloc 79, type := 0, pos := "window.go:57", after := #[], guard := none }) rfl (fun K hK => ?_) AllReadyH.nil)
                      go_simp
                      obtain ⟨Rb, hRb⟩ : ∃ b, b = (wg121).heap.size := ⟨_, rfl⟩
                      rw [← hRb]
                      generalize hwg123 : World.alloc _ _ = wg123
                      have bwg123 : Below (wg121).heap.size (wg121) wg123 := by rw [← hwg123]; exact (Below.refl _ _).alloc (Nat.le_refl _) _
                      have rwg123 : RowAt wg123 Rb 79 #[.int .i64 0, .int .i64 0, .int .i64 0] := by rw [← hwg123, hRb]; exact RowAt.mk _ _ _
                      have HG124 := Lib.hid (show Below w11.heap.size w11 wg123 ∧ RowAt wg123 Rb 79 #[.int .i64 0, .int .i64 0, .int .i64 0] ∧ w11.heap.size ≤ Rb from ⟨(HG122.out.trans ((bwg123).mono HG122.out.size)), rwg123, (by have := HG122.out.size; omega)⟩)
                      clear hwg123 bwg123 rwg123 hRb
                      refine hK.out _ _ HG124.out.1 (fun hHeld => ?_)
                      clear hK K
                      try simp only [Act.put, List.setIfInBounds_toArray, List.set_cons_zero, List.set_cons_succ]
                      refine wpAnyH_ready (rs := [14]) (by kernel_rfl) (by simp) (AllReadyH.cons (o := { dst := none, op := .store 79 (.tmp 14) (.tmp 101), type := 0, pos := "window.go:57", after := #[{ on := 13, ground := .data }, { on := 11, ground := .data }, { on := 9, ground := .chain }, { on := 0, ground := .phase }, { on := 1, ground := .phase }, { on := 2, ground := .phase }, { on := 3, ground := .phase }, { on := 4, ground := .phase }, { on := 5, ground := .phase }, { on := 6, ground := .phase }, { on := 7, ground := .phase }, { on := 8, ground := .phase }, { on := 9, ground := .phase }, { on := 10, ground := .phase }, { on := 11, ground := .phase }, { on := 12, ground := .textOnly Go.Departure.lateStores }, { on := 13, ground := .phase }], guard := none }) rfl (fun K hK => ?_) AllReadyH.nil)
                      rw [if_pos (by rfl)]
                      refine wp_store_row 79 (.tmp 14) (.tmp 101) rfl Rb #[.int .i64 (j : Nat), .int .i64 bj, .int .i64 vR] rfl rfl 79 #[.int .i64 0, .int .i64 0, .int .i64 0] HG124.out.2.1 (by kernel_rfl) rfl (by simp [Value.oneCell']) ?_
                      refine hK.out _ _ (below_row HG124.out.1 (Nat.le_refl _) HG124.out.2.2 _) (fun hHeld => ?_)
                      clear hK K
                      try simp only [Act.put]
                      refine wpAnyH_take (i := 15) (oi := { dst := some 15, op := .assign (.tmp 102), type := 4, pos := "window.go:57", after := #[{ on := 12, ground := .data }, { on := 14, ground := .chain }, { on := 0, ground := .phase }, { on := 1, ground := .phase }, { on := 2, ground := .phase }, { on := 3, ground := .phase }, { on := 4, ground := .phase }, { on := 5, ground := .phase }, { on := 6, ground := .phase }, { on := 7, ground := .phase }, { on := 8, ground := .phase }, { on := 9, ground := .phase }, { on := 10, ground := .phase }, { on := 11, ground := .phase }, { on := 12, ground := .phase }, { on := 13, ground := .phase }, { on := 14, ground := .phase }], guard := none }) (v := ?_) rfl (by kernel_rfl) (by kernel_rfl) (by kernel_rfl) (fun _ _ _ h => h) (Or.inl ⟨by rfl, ?_⟩) (below_row HG124.out.1 (Nat.le_refl _) HG124.out.2.2 _) ?_
                      rotate_left 1
                      · intro w hw; go_simp; try (with_reducible rfl)
                      simp only [Act.put, List.setIfInBounds_toArray, List.set_cons_zero, List.set_cons_succ]
                      refine wpAnyH_done (by kernel_rfl) ?_ _
                      go_wp2
                      go_meet
                      case rel => exact ⟨Rb, rfl, below_row HG124.out.1 (Nat.le_refl _) HG124.out.2.2 _, HG124.out.2.1.put⟩
                    · go_simp
                      obtain ⟨Rb, hRb⟩ : ∃ b, b = (wg119).heap.size := ⟨_, rfl⟩
                      rw [← hRb]
                      generalize hwg125 : World.alloc _ _ = wg125
                      have bwg125 : Below (wg119).heap.size (wg119) wg125 := by rw [← hwg125]; exact (Below.refl _ _).alloc (Nat.le_refl _) _
                      have rwg125 : RowAt wg125 Rb 79 #[.int .i64 0, .int .i64 0, .int .i64 0] := by rw [← hwg125, hRb]; exact RowAt.mk _ _ _
                      have HG126 := Lib.hid (show Below w11.heap.size w11 wg125 ∧ RowAt wg125 Rb 79 #[.int .i64 0, .int .i64 0, .int .i64 0] ∧ w11.heap.size ≤ Rb from ⟨(HG120.out.trans ((bwg125).mono HG120.out.size)), rwg125, (by have := HG120.out.size; omega)⟩)
                      clear hwg125 bwg125 rwg125 hRb
                      refine hK.out _ _ HG126.out.1 (fun hHeld => ?_)
                      clear hK K
                      try simp only [Act.put, List.setIfInBounds_toArray, List.set_cons_zero, List.set_cons_succ]
                      refine wpAnyH_ready (rs := [9]) (by kernel_rfl) (by simp) (AllReadyH.cons (o := { dst := some 100, op := .call { callee := .value (.func 37), args := #[.tmp 91, .tmp 94, .tmp 97, .tmp 98, .tmp 99], argTypes := #[26, 31, 31, 73, 3] }, type := 80, pos := "window.go:57", after := #[{ on := 0, ground := .data }, { on := 3, ground := .data }, { on := 6, ground := .data }, { on := 7, ground := .data }, { on := 8, ground := .data }, { on := 6, ground := .chain }], guard := none }) rfl (fun K hK => ?_) AllReadyH.nil)
                      go_simp
                      go_at_call 37
                      refine (HSrj.out _ (HNr.out _ HG126.out.1).1.b0).mono ?_
                      rintro e wg127 ⟨rfl, bc127⟩
                      have HG128 := Lib.hid (show Below w11.heap.size w11 wg127 ∧ RowAt wg127 Rb 79 #[.int .i64 0, .int .i64 0, .int .i64 0] ∧ w11.heap.size ≤ Rb from ⟨(HG126.out.1.trans ((bc127).mono HG126.out.1.size)), (HG126.out.2.1.new (bc127)), HG126.out.2.2⟩)
                      clear bc127
                      try dsimp only
                      refine hK.out _ _ HG128.out.1 (fun hHeld => ?_)
                      clear hK K
                      try simp only [Act.put, List.setIfInBounds_toArray, List.set_cons_zero, List.set_cons_succ]
                      refine wpAnyH_take (i := 10) (oi := { dst := some 90, op := .move (.tmp 100), type := 80, pos := "window.go:57", after := #[{ on := 9, ground := .data }], guard := none }) (v := ?_) rfl (by kernel_rfl) (by kernel_rfl) (by kernel_rfl) (fun _ _ _ h => h) (Or.inl ⟨by rfl, ?_⟩) HG128.out.1 ?_
                      rotate_left 1
                      · intro w hw; go_simp; try (with_reducible rfl)
                      simp only [Act.put, List.setIfInBounds_toArray, List.set_cons_zero, List.set_cons_succ]
                      refine wpAnyH_take (i := 11) (oi := { dst := some 101, op := .extract (.tmp 90) 0, type := 79, pos := "window.go:57", after := #[{ on := 10, ground := .data }], guard := none }) (v := ?_) rfl (by kernel_rfl) (by kernel_rfl) (by kernel_rfl) (fun _ _ _ h => h) (Or.inl ⟨by rfl, ?_⟩) HG128.out.1 ?_
                      rotate_left 1
                      · intro w hw; go_simp; try (with_reducible rfl)
                      simp only [Act.put, List.setIfInBounds_toArray, List.set_cons_zero, List.set_cons_succ]
                      refine wpAnyH_take (i := 12) (oi := { dst := some 102, op := .extract (.tmp 90) 1, type := 4, pos := "window.go:57", after := #[{ on := 10, ground := .data }, { on := 14, ground := .gcOnly Go.Departure.lateStores }], guard := none }) (v := ?_) rfl (by kernel_rfl) (by kernel_rfl) (by kernel_rfl) (fun _ _ _ h => h) (Or.inl ⟨by rfl, ?_⟩) HG128.out.1 ?_
                      rotate_left 1
                      · intro w hw; go_simp; try (with_reducible rfl)
                      simp only [Act.put, List.setIfInBounds_toArray, List.set_cons_zero, List.set_cons_succ]
                      refine wpAnyH_ready (rs := [14]) (by kernel_rfl) (by simp) (AllReadyH.cons (o := { dst := none, op := .store 79 (.tmp 14) (.tmp 101), type := 0, pos := "window.go:57", after := #[{ on := 13, ground := .data }, { on := 11, ground := .data }, { on := 9, ground := .chain }, { on := 0, ground := .phase }, { on := 1, ground := .phase }, { on := 2, ground := .phase }, { on := 3, ground := .phase }, { on := 4, ground := .phase }, { on := 5, ground := .phase }, { on := 6, ground := .phase }, { on := 7, ground := .phase }, { on := 8, ground := .phase }, { on := 9, ground := .phase }, { on := 10, ground := .phase }, { on := 11, ground := .phase }, { on := 12, ground := .textOnly Go.Departure.lateStores }, { on := 13, ground := .phase }], guard := none }) rfl (fun K hK => ?_) AllReadyH.nil)
                      rw [if_pos (by rfl)]
                      refine wp_store_row 79 (.tmp 14) (.tmp 101) rfl Rb #[.int .i64 (j : Nat), .int .i64 bj, .int .i64 vR] rfl rfl 79 #[.int .i64 0, .int .i64 0, .int .i64 0] HG128.out.2.1 (by kernel_rfl) rfl (by simp [Value.oneCell']) ?_
                      refine hK.out _ _ (below_row HG128.out.1 (Nat.le_refl _) HG128.out.2.2 _) (fun hHeld => ?_)
                      clear hK K
                      try simp only [Act.put]
                      refine wpAnyH_take (i := 15) (oi := { dst := some 15, op := .assign (.tmp 102), type := 4, pos := "window.go:57", after := #[{ on := 12, ground := .data }, { on := 14, ground := .chain }, { on := 0, ground := .phase }, { on := 1, ground := .phase }, { on := 2, ground := .phase }, { on := 3, ground := .phase }, { on := 4, ground := .phase }, { on := 5, ground := .phase }, { on := 6, ground := .phase }, { on := 7, ground := .phase }, { on := 8, ground := .phase }, { on := 9, ground := .phase }, { on := 10, ground := .phase }, { on := 11, ground := .phase }, { on := 12, ground := .phase }, { on := 13, ground := .phase }, { on := 14, ground := .phase }], guard := none }) (v := ?_) rfl (by kernel_rfl) (by kernel_rfl) (by kernel_rfl) (fun _ _ _ h => h) (Or.inl ⟨by rfl, ?_⟩) (below_row HG128.out.1 (Nat.le_refl _) HG128.out.2.2 _) ?_
                      rotate_left 1
                      · intro w hw; go_simp; try (with_reducible rfl)
                      simp only [Act.put, List.setIfInBounds_toArray, List.set_cons_zero, List.set_cons_succ]
                      refine wpAnyH_done (by kernel_rfl) ?_ _
                      go_wp2
                      go_meet
                      case rel => exact ⟨Rb, rfl, below_row HG128.out.1 (Nat.le_refl _) HG128.out.2.2 _, HG128.out.2.1.put⟩
                  · go_simp
                    obtain ⟨Rb, hRb⟩ : ∃ b, b = (wg117).heap.size := ⟨_, rfl⟩
                    rw [← hRb]
                    generalize hwg129 : World.alloc _ _ = wg129
                    have bwg129 : Below (wg117).heap.size (wg117) wg129 := by rw [← hwg129]; exact (Below.refl _ _).alloc (Nat.le_refl _) _
                    have rwg129 : RowAt wg129 Rb 79 #[.int .i64 0, .int .i64 0, .int .i64 0] := by rw [← hwg129, hRb]; exact RowAt.mk _ _ _
                    have HG130 := Lib.hid (show Below w11.heap.size w11 wg129 ∧ RowAt wg129 Rb 79 #[.int .i64 0, .int .i64 0, .int .i64 0] ∧ w11.heap.size ≤ Rb from ⟨(HG118.out.trans ((bwg129).mono HG118.out.size)), rwg129, (by have := HG118.out.size; omega)⟩)
                    clear hwg129 bwg129 rwg129 hRb
                    refine hK.out _ _ HG130.out.1 (fun hHeld => ?_)
                    clear hK K
                    try simp only [Act.put, List.setIfInBounds_toArray, List.set_cons_zero, List.set_cons_succ]
                    refine wpAnyH_ready (rs := [6]) (by kernel_rfl) (by simp) (AllReadyH.cons (o := { dst := some 97, op := .call { callee := .value (.func 33), args := #[.tmp 96], argTypes := #[33] }, type := 31, pos := "window.go:57", after := #[{ on := 5, ground := .data }, { on := 3, ground := .chain }], guard := none }) rfl (fun K hK => ?_) AllReadyH.nil)
                    go_simp
                    go_at_call 33
                    refine (HBo.out _).mono ?_
                    rintro e wg131 ⟨rfl, bc131⟩
                    have HG132 := Lib.hid (show Below w11.heap.size w11 wg131 ∧ RowAt wg131 Rb 79 #[.int .i64 0, .int .i64 0, .int .i64 0] ∧ w11.heap.size ≤ Rb from ⟨(HG130.out.1.trans ((bc131).mono HG130.out.1.size)), (HG130.out.2.1.new (bc131)), HG130.out.2.2⟩)
                    clear bc131
                    try dsimp only
                    refine hK.out _ _ HG132.out.1 (fun hHeld => ?_)
                    clear hK K
                    try simp only [Act.put, List.setIfInBounds_toArray, List.set_cons_zero, List.set_cons_succ]
                    refine wpAnyH_ready (rs := [9]) (by kernel_rfl) (by simp) (AllReadyH.cons (o := { dst := some 100, op := .call { callee := .value (.func 37), args := #[.tmp 91, .tmp 94, .tmp 97, .tmp 98, .tmp 99], argTypes := #[26, 31, 31, 73, 3] }, type := 80, pos := "window.go:57", after := #[{ on := 0, ground := .data }, { on := 3, ground := .data }, { on := 6, ground := .data }, { on := 7, ground := .data }, { on := 8, ground := .data }, { on := 6, ground := .chain }], guard := none }) rfl (fun K hK => ?_) AllReadyH.nil)
                    go_simp
                    go_at_call 37
                    refine (HSrj.out _ (HNr.out _ HG132.out.1).1.b0).mono ?_
                    rintro e wg133 ⟨rfl, bc133⟩
                    have HG134 := Lib.hid (show Below w11.heap.size w11 wg133 ∧ RowAt wg133 Rb 79 #[.int .i64 0, .int .i64 0, .int .i64 0] ∧ w11.heap.size ≤ Rb from ⟨(HG132.out.1.trans ((bc133).mono HG132.out.1.size)), (HG132.out.2.1.new (bc133)), HG132.out.2.2⟩)
                    clear bc133
                    try dsimp only
                    refine hK.out _ _ HG134.out.1 (fun hHeld => ?_)
                    clear hK K
                    try simp only [Act.put, List.setIfInBounds_toArray, List.set_cons_zero, List.set_cons_succ]
                    refine wpAnyH_take (i := 10) (oi := { dst := some 90, op := .move (.tmp 100), type := 80, pos := "window.go:57", after := #[{ on := 9, ground := .data }], guard := none }) (v := ?_) rfl (by kernel_rfl) (by kernel_rfl) (by kernel_rfl) (fun _ _ _ h => h) (Or.inl ⟨by rfl, ?_⟩) HG134.out.1 ?_
                    rotate_left 1
                    · intro w hw; go_simp; try (with_reducible rfl)
                    simp only [Act.put, List.setIfInBounds_toArray, List.set_cons_zero, List.set_cons_succ]
                    refine wpAnyH_take (i := 11) (oi := { dst := some 101, op := .extract (.tmp 90) 0, type := 79, pos := "window.go:57", after := #[{ on := 10, ground := .data }], guard := none }) (v := ?_) rfl (by kernel_rfl) (by kernel_rfl) (by kernel_rfl) (fun _ _ _ h => h) (Or.inl ⟨by rfl, ?_⟩) HG134.out.1 ?_
                    rotate_left 1
                    · intro w hw; go_simp; try (with_reducible rfl)
                    simp only [Act.put, List.setIfInBounds_toArray, List.set_cons_zero, List.set_cons_succ]
                    refine wpAnyH_take (i := 12) (oi := { dst := some 102, op := .extract (.tmp 90) 1, type := 4, pos := "window.go:57", after := #[{ on := 10, ground := .data }, { on := 14, ground := .gcOnly Go.Departure.lateStores }], guard := none }) (v := ?_) rfl (by kernel_rfl) (by kernel_rfl) (by kernel_rfl) (fun _ _ _ h => h) (Or.inl ⟨by rfl, ?_⟩) HG134.out.1 ?_
                    rotate_left 1
                    · intro w hw; go_simp; try (with_reducible rfl)
                    simp only [Act.put, List.setIfInBounds_toArray, List.set_cons_zero, List.set_cons_succ]
                    refine wpAnyH_ready (rs := [14]) (by kernel_rfl) (by simp) (AllReadyH.cons (o := { dst := none, op := .store 79 (.tmp 14) (.tmp 101), type := 0, pos := "window.go:57", after := #[{ on := 13, ground := .data }, { on := 11, ground := .data }, { on := 9, ground := .chain }, { on := 0, ground := .phase }, { on := 1, ground := .phase }, { on := 2, ground := .phase }, { on := 3, ground := .phase }, { on := 4, ground := .phase }, { on := 5, ground := .phase }, { on := 6, ground := .phase }, { on := 7, ground := .phase }, { on := 8, ground := .phase }, { on := 9, ground := .phase }, { on := 10, ground := .phase }, { on := 11, ground := .phase }, { on := 12, ground := .textOnly Go.Departure.lateStores }, { on := 13, ground := .phase }], guard := none }) rfl (fun K hK => ?_) AllReadyH.nil)
                    rw [if_pos (by rfl)]
                    refine wp_store_row 79 (.tmp 14) (.tmp 101) rfl Rb #[.int .i64 (j : Nat), .int .i64 bj, .int .i64 vR] rfl rfl 79 #[.int .i64 0, .int .i64 0, .int .i64 0] HG134.out.2.1 (by kernel_rfl) rfl (by simp [Value.oneCell']) ?_
                    refine hK.out _ _ (below_row HG134.out.1 (Nat.le_refl _) HG134.out.2.2 _) (fun hHeld => ?_)
                    clear hK K
                    try simp only [Act.put]
                    refine wpAnyH_take (i := 15) (oi := { dst := some 15, op := .assign (.tmp 102), type := 4, pos := "window.go:57", after := #[{ on := 12, ground := .data }, { on := 14, ground := .chain }, { on := 0, ground := .phase }, { on := 1, ground := .phase }, { on := 2, ground := .phase }, { on := 3, ground := .phase }, { on := 4, ground := .phase }, { on := 5, ground := .phase }, { on := 6, ground := .phase }, { on := 7, ground := .phase }, { on := 8, ground := .phase }, { on := 9, ground := .phase }, { on := 10, ground := .phase }, { on := 11, ground := .phase }, { on := 12, ground := .phase }, { on := 13, ground := .phase }, { on := 14, ground := .phase }], guard := none }) (v := ?_) rfl (by kernel_rfl) (by kernel_rfl) (by kernel_rfl) (fun _ _ _ h => h) (Or.inl ⟨by rfl, ?_⟩) (below_row HG134.out.1 (Nat.le_refl _) HG134.out.2.2 _) ?_
                    rotate_left 1
                    · intro w hw; go_simp; try (with_reducible rfl)
                    simp only [Act.put, List.setIfInBounds_toArray, List.set_cons_zero, List.set_cons_succ]
                    refine wpAnyH_done (by kernel_rfl) ?_ _
                    go_wp2
                    go_meet
                    case rel => exact ⟨Rb, rfl, below_row HG134.out.1 (Nat.le_refl _) HG134.out.2.2 _, HG134.out.2.1.put⟩
                · go_simp
                  obtain ⟨Rb, hRb⟩ : ∃ b, b = (wd).heap.size := ⟨_, rfl⟩
                  rw [← hRb]
                  generalize hwg135 : World.alloc _ _ = wg135
                  have bwg135 : Below (wd).heap.size (wd) wg135 := by rw [← hwg135]; exact (Below.refl _ _).alloc (Nat.le_refl _) _
                  have rwg135 : RowAt wg135 Rb 79 #[.int .i64 0, .int .i64 0, .int .i64 0] := by rw [← hwg135, hRb]; exact RowAt.mk _ _ _
                  have HG136 := Lib.hid (show Below w11.heap.size w11 wg135 ∧ RowAt wg135 Rb 79 #[.int .i64 0, .int .i64 0, .int .i64 0] ∧ w11.heap.size ≤ Rb from ⟨(HG0.out.trans ((bwg135).mono HG0.out.size)), rwg135, (by have := HG0.out.size; omega)⟩)
                  clear hwg135 bwg135 rwg135 hRb
                  refine hK.out _ _ HG136.out.1 (fun hHeld => ?_)
                  clear hK K
                  try simp only [Act.put, List.setIfInBounds_toArray, List.set_cons_zero, List.set_cons_succ]
                  refine wpAnyH_ready (rs := [3]) (by kernel_rfl) (by simp) (AllReadyH.cons (o := { dst := some 94, op := .call { callee := .value (.func 36), args := #[.tmp 93], argTypes := #[33] }, type := 31, pos := "window.go:57", after := #[{ on := 2, ground := .data }], guard := none }) rfl (fun K hK => ?_) AllReadyH.nil)
                  go_simp
                  go_at_call 36
                  refine (HTo.out _).mono ?_
                  rintro e wg137 ⟨rfl, bc137⟩
                  have HG138 := Lib.hid (show Below w11.heap.size w11 wg137 ∧ RowAt wg137 Rb 79 #[.int .i64 0, .int .i64 0, .int .i64 0] ∧ w11.heap.size ≤ Rb from ⟨(HG136.out.1.trans ((bc137).mono HG136.out.1.size)), (HG136.out.2.1.new (bc137)), HG136.out.2.2⟩)
                  clear bc137
                  try dsimp only
                  refine hK.out _ _ HG138.out.1 (fun hHeld => ?_)
                  clear hK K
                  try simp only [Act.put, List.setIfInBounds_toArray, List.set_cons_zero, List.set_cons_succ]
                  refine wpAnyH_ready (rs := [6]) (by kernel_rfl) (by simp) (AllReadyH.cons (o := { dst := some 97, op := .call { callee := .value (.func 33), args := #[.tmp 96], argTypes := #[33] }, type := 31, pos := "window.go:57", after := #[{ on := 5, ground := .data }, { on := 3, ground := .chain }], guard := none }) rfl (fun K hK => ?_) AllReadyH.nil)
                  go_simp
                  go_at_call 33
                  refine (HBo.out _).mono ?_
                  rintro e wg139 ⟨rfl, bc139⟩
                  have HG140 := Lib.hid (show Below w11.heap.size w11 wg139 ∧ RowAt wg139 Rb 79 #[.int .i64 0, .int .i64 0, .int .i64 0] ∧ w11.heap.size ≤ Rb from ⟨(HG138.out.1.trans ((bc139).mono HG138.out.1.size)), (HG138.out.2.1.new (bc139)), HG138.out.2.2⟩)
                  clear bc139
                  try dsimp only
                  refine hK.out _ _ HG140.out.1 (fun hHeld => ?_)
                  clear hK K
                  try simp only [Act.put, List.setIfInBounds_toArray, List.set_cons_zero, List.set_cons_succ]
                  refine wpAnyH_ready (rs := [9]) (by kernel_rfl) (by simp) (AllReadyH.cons (o := { dst := some 100, op := .call { callee := .value (.func 37), args := #[.tmp 91, .tmp 94, .tmp 97, .tmp 98, .tmp 99], argTypes := #[26, 31, 31, 73, 3] }, type := 80, pos := "window.go:57", after := #[{ on := 0, ground := .data }, { on := 3, ground := .data }, { on := 6, ground := .data }, { on := 7, ground := .data }, { on := 8, ground := .data }, { on := 6, ground := .chain }], guard := none }) rfl (fun K hK => ?_) AllReadyH.nil)
                  go_simp
                  go_at_call 37
                  refine (HSrj.out _ (HNr.out _ HG140.out.1).1.b0).mono ?_
                  rintro e wg141 ⟨rfl, bc141⟩
                  have HG142 := Lib.hid (show Below w11.heap.size w11 wg141 ∧ RowAt wg141 Rb 79 #[.int .i64 0, .int .i64 0, .int .i64 0] ∧ w11.heap.size ≤ Rb from ⟨(HG140.out.1.trans ((bc141).mono HG140.out.1.size)), (HG140.out.2.1.new (bc141)), HG140.out.2.2⟩)
                  clear bc141
                  try dsimp only
                  refine hK.out _ _ HG142.out.1 (fun hHeld => ?_)
                  clear hK K
                  try simp only [Act.put, List.setIfInBounds_toArray, List.set_cons_zero, List.set_cons_succ]
                  refine wpAnyH_take (i := 10) (oi := { dst := some 90, op := .move (.tmp 100), type := 80, pos := "window.go:57", after := #[{ on := 9, ground := .data }], guard := none }) (v := ?_) rfl (by kernel_rfl) (by kernel_rfl) (by kernel_rfl) (fun _ _ _ h => h) (Or.inl ⟨by rfl, ?_⟩) HG142.out.1 ?_
                  rotate_left 1
                  · intro w hw; go_simp; try (with_reducible rfl)
                  simp only [Act.put, List.setIfInBounds_toArray, List.set_cons_zero, List.set_cons_succ]
                  refine wpAnyH_take (i := 11) (oi := { dst := some 101, op := .extract (.tmp 90) 0, type := 79, pos := "window.go:57", after := #[{ on := 10, ground := .data }], guard := none }) (v := ?_) rfl (by kernel_rfl) (by kernel_rfl) (by kernel_rfl) (fun _ _ _ h => h) (Or.inl ⟨by rfl, ?_⟩) HG142.out.1 ?_
                  rotate_left 1
                  · intro w hw; go_simp; try (with_reducible rfl)
                  simp only [Act.put, List.setIfInBounds_toArray, List.set_cons_zero, List.set_cons_succ]
                  refine wpAnyH_take (i := 12) (oi := { dst := some 102, op := .extract (.tmp 90) 1, type := 4, pos := "window.go:57", after := #[{ on := 10, ground := .data }, { on := 14, ground := .gcOnly Go.Departure.lateStores }], guard := none }) (v := ?_) rfl (by kernel_rfl) (by kernel_rfl) (by kernel_rfl) (fun _ _ _ h => h) (Or.inl ⟨by rfl, ?_⟩) HG142.out.1 ?_
                  rotate_left 1
                  · intro w hw; go_simp; try (with_reducible rfl)
                  simp only [Act.put, List.setIfInBounds_toArray, List.set_cons_zero, List.set_cons_succ]
                  refine wpAnyH_ready (rs := [14]) (by kernel_rfl) (by simp) (AllReadyH.cons (o := { dst := none, op := .store 79 (.tmp 14) (.tmp 101), type := 0, pos := "window.go:57", after := #[{ on := 13, ground := .data }, { on := 11, ground := .data }, { on := 9, ground := .chain }, { on := 0, ground := .phase }, { on := 1, ground := .phase }, { on := 2, ground := .phase }, { on := 3, ground := .phase }, { on := 4, ground := .phase }, { on := 5, ground := .phase }, { on := 6, ground := .phase }, { on := 7, ground := .phase }, { on := 8, ground := .phase }, { on := 9, ground := .phase }, { on := 10, ground := .phase }, { on := 11, ground := .phase }, { on := 12, ground := .textOnly Go.Departure.lateStores }, { on := 13, ground := .phase }], guard := none }) rfl (fun K hK => ?_) AllReadyH.nil)
                  rw [if_pos (by rfl)]
                  refine wp_store_row 79 (.tmp 14) (.tmp 101) rfl Rb #[.int .i64 (j : Nat), .int .i64 bj, .int .i64 vR] rfl rfl 79 #[.int .i64 0, .int .i64 0, .int .i64 0] HG142.out.2.1 (by kernel_rfl) rfl (by simp [Value.oneCell']) ?_
                  refine hK.out _ _ (below_row HG142.out.1 (Nat.le_refl _) HG142.out.2.2 _) (fun hHeld => ?_)
                  clear hK K
                  try simp only [Act.put]
                  refine wpAnyH_take (i := 15) (oi := { dst := some 15, op := .assign (.tmp 102), type := 4, pos := "window.go:57", after := #[{ on := 12, ground := .data }, { on := 14, ground := .chain }, { on := 0, ground := .phase }, { on := 1, ground := .phase }, { on := 2, ground := .phase }, { on := 3, ground := .phase }, { on := 4, ground := .phase }, { on := 5, ground := .phase }, { on := 6, ground := .phase }, { on := 7, ground := .phase }, { on := 8, ground := .phase }, { on := 9, ground := .phase }, { on := 10, ground := .phase }, { on := 11, ground := .phase }, { on := 12, ground := .phase }, { on := 13, ground := .phase }, { on := 14, ground := .phase }], guard := none }) (v := ?_) rfl (by kernel_rfl) (by kernel_rfl) (by kernel_rfl) (fun _ _ _ h => h) (Or.inl ⟨by rfl, ?_⟩) (below_row HG142.out.1 (Nat.le_refl _) HG142.out.2.2 _) ?_
                  rotate_left 1
                  · intro w hw; go_simp; try (with_reducible rfl)
                  simp only [Act.put, List.setIfInBounds_toArray, List.set_cons_zero, List.set_cons_succ]
                  refine wpAnyH_done (by kernel_rfl) ?_ _
                  go_wp2
                  go_meet
                  case rel => exact ⟨Rb, rfl, below_row HG142.out.1 (Nat.le_refl _) HG142.out.2.2 _, HG142.out.2.1.put⟩

              case rest =>
              obtain ⟨Rb, rfl, HR3⟩ := hcut
              have HNz := Lib.hid (HNr.out _ HR3.out.1)
              have r2 : wc.cell? ⟨Rb, 2, none⟩ = some (.int .i64 vR) := HR3.out.2.cell 2
              have kf : wc.frozen? ⟨Bs, 35 + j, none⟩ = false := HNz.out.1.sh.fr _
              have kc : wc.cell? ⟨Bs, 35 + j, none⟩ = some (.int .i64 (upF R j j)) := (HNz.out.1.sh.cell (35 + j)).trans (by rw [List.getElem?_toArray]; exact shl_b _ _ _ _ _ _ j (by omega))
              have HEn := Lib.hid (show NwAt w Z Bs #[.int .i64 x.res, .slice S.t.sp nT S.t.c, .slice S.m.sp nM S.m.c, .slice S.e.sp nE S.e.c] T (shl_ o n s fo (upF W (j + 1)) (upF R (j + 1))).toArray (wc.setCell ⟨Bs, 35 + j, none⟩ (.int .i64 vR)) ∧ RowAt (wc.setCell ⟨Bs, 35 + j, none⟩ (.int .i64 vR)) Tb 73 #[.int .i64 (fc 0), .int .i64 (fc 1), .int .i64 (fc 2), .int .i64 (fc 3), .int .i64 (fc 4), .int .i64 (fc 5), .int .i64 (fc 6), .int .i64 (fc 7)] by
                have hx := HNz.out
                have hc : Ch (fun b => b = Bs) wc (wc.setCell ⟨Bs, 35 + j, none⟩ (.int .i64 vR)) := (Ch.refl _ _).setCell _ _ (.inl rfl)
                have h1 := hx.1.set HZw.out (35 + j) (.int .i64 vR)
                rw [shl_setB _ _ _ _ _ _ j (by omega)] at h1
                rw [HE0.out, HRj.out]
                exact ⟨h1, hx.2.keep hc (HJ.out.2.2.2)⟩)
              go_wp2
              go_roundg g1
              case measure => omega
              case rel => exact ⟨j + 1, by omega, by go_num, HEn.out.1, HEn.out.2, HJ.out.2.2.1, HJ.out.2.2.2⟩
    | succ g1 =>
      have hj : j < 16 := by omega
      have hj2 : (j : Int) < 16 := by omega
      have hx := HTl.out.1 j hj
      have HC := Lib.hid (HHas.out n j (by omega))
      have HS := Lib.hid (upF_succ (nwO n l) j)
      have HS2 := Lib.hid (fun h => upF_same (f := nwO n l) (k := j) h)
      have HSt := Lib.hid (fun v => shl_setO o n s (upF (nwO n l) j) zF zF j hj v)
      have HNw := Lib.hid (HNl.out j)
      have c1 : wr.cell? ⟨Bs, 1, none⟩ = some (.int .u32 (w32 n)) := (HQ.out.sh.cell 1).trans (by simp [shl_])
      have f1 : wr.frozen? ⟨Bs, 3 + j, none⟩ = false := HQ.out.sh.fr _
      have c2 : ∃ u, wr.cell? ⟨Bs, 3 + j, none⟩ = some (.int .i64 u) := ⟨_, (HQ.out.sh.cell (3 + j)).trans (by rw [List.getElem?_toArray]; exact shl_o _ _ _ _ _ _ j hj)⟩
      obtain ⟨u0, c2⟩ := c2
      obtain ⟨bb, hbb⟩ : ∃ b, n.getLsbD j = b := ⟨_, rfl⟩
      rw [hbb] at HC HNw
      obtain ⟨lj, hlj⟩ : ∃ v, l j = v := ⟨_, rfl⟩
      rw [hlj] at hx HNw
      clear hbb hlj
      cases bb with
      | false =>
        have HE0 := Lib.hid (HS2.out (by rw [HNw.out]; rfl))
        go_wp2_with (first
          | (go_at_call 31; refine (HC.out _).mono ?_; rintro e w5 ⟨rfl, rfl⟩)
          | fail)
        go_roundg g1
        case measure => omega
        case rel => exact ⟨j + 1, by omega, by go_num, by rw [HE0.out]; exact HQ.out⟩
      | true =>
        have HE0 := Lib.hid (show NwAt w Z Bs #[.int .i64 x.res, .slice S.t.sp nT S.t.c, .slice S.m.sp nM S.m.c, .slice S.e.sp nE S.e.c] T (shl_ o n s (upF (nwO n l) (j + 1)) zF zF).toArray (wr.setCell ⟨Bs, 3 + j, none⟩ (.int .i64 lj)) by
          have := HQ.out.set HZw.out (3 + j) (.int .i64 lj)
          rw [HSt.out] at this
          rw [HS.out, HNw.out]
          exact this)
        go_wp2_with (first
          | (go_at_call 31; refine (HC.out _).mono ?_; rintro e w5 ⟨rfl, rfl⟩)
          | fail)
        go_roundg g1
        case measure => omega
        case rel => exact ⟨j + 1, by omega, by go_num, HE0.out⟩
end Go.Proofs.YtchmdnmifpjfkaaDoor
