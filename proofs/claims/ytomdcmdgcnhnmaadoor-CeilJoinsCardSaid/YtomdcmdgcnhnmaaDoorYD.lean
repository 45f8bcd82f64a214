/- The contract of ceil's Of: the ceilings of a set of an image's tasks. -/
import Derived.Test.YtomdcmdgcnhnmaaDoorYC
import Derived.Test.YtomdcmdgcnhnmaaDoorFoot3
import Derived.Test.YtomdcmdgcnhnmaaDoorIA
import Derived.Test.YtomdcmdgcnhnmaaDoorSi
namespace Go.Proofs.YtomdcmdgcnhnmaaDoor
open Go.RowKit
attribute [local go_sem] Oper.semAt_some

/-- How long a task holds each resource. -/
def lonF (x : Img) (i : Nat) : Nat → Int := fun r => (x.t i).lon.getD r 0
/-- A table, and a task more: of the resources that are listed. -/
def tbIn (f : Nat → Int) (i : Nat) (l : List Nat) : Nat → Int := fun r => if r ∈ l then min (f r) (i : Int) else f r
/-- The ceilings of tasks, one by one. -/
def cfK (x : Img) (L : List Nat) : Nat → (Nat → Int)
  | 0 => fun _ => 16
  | k + 1 => tbIn (cfK x L k) (L.getD k 0) (usesK (lonF x (L.getD k 0)) 8)
/-- The tasks of a set that the image has. -/
def tasksL (x : Img) (s : BitVec 32) : List Nat := lst (btw s (-1) (x.tasks.length : Int)) 32
def ceilF (x : Img) (s : BitVec 32) : Nat → Int := cfK x (tasksL x s) (tasksL x s).length
theorem tasksL_lt {x : Img} {s : BitVec 32} {k : Nat} (hk : k < (tasksL x s).length) : (tasksL x s).getD k 0 < x.tasks.length := by
  have hm : (tasksL x s).getD k 0 ∈ tasksL x s := by rw [List.getD_eq_getElem?_getD, List.getElem?_eq_getElem hk]; exact List.getElem_mem hk
  obtain ⟨h1, h2⟩ := (mem_lst _ _ _).1 hm
  rw [btw_bit _ _ _ _ h1] at h2
  have h3 : (((tasksL x s).getD k 0 : Nat) : Int) < (x.tasks.length : Int) := by
    have := (Bool.and_eq_true _ _).mp h2
    have := (Bool.and_eq_true _ _).mp this.2
    exact of_decide_eq_true this.2
  omega
theorem nth_ints {L : List Nat} {k : Nat} (hk : k < L.length) : nth (ints L) k = ((L.getD k 0 : Nat) : Int) := by
  unfold nth ints
  simp [hk]
theorem lon_at {x : Img} {i : Nat} (h8 : (x.t i).lon.length = 8) (r : Nat) (hr : r < 8) : (taskC (x.t i))[3 + r]? = some (.int .i64 (lonF x i r)) := by
  unfold taskC lonF
  rw [show 3 + r = r + 1 + 1 + 1 by omega, List.getElem?_cons_succ, List.getElem?_cons_succ, List.getElem?_cons_succ]
  have : r < (x.t i).lon.length := by omega
  simp [rowZ, this]
/-- What a loop keeps: its table, and all that was there before. -/
def OI (w6 : World) (T : Nat) (f : Nat → Int) (W : World) : Prop := Ch (fun j => j = T) w6 W ∧ RowAt W T 33 (tb f)
theorem OI.foot {w6 : World} {T b : Nat} {f : Nat → Int} (hb : w6.heap.size = b) (hT : T < b) : Foot (fun _ j => j < b) (OI w6 T f) where
  lt := fun W ⟨h, _⟩ j hj => by have := h.size; omega
  keep := fun W W' ⟨h1, h2⟩ hc => by
    refine ⟨⟨((h1.mono (T' := fun j => j = T ∨ b ≤ j) (fun _ _ h => .inl h)).trans (hc.mono fun j _ hn => .inr (by have : ¬ j < b := hn; omega))).mono fun j hj h => ?_, h2.keep hc (fun hn => hn hT)⟩, fun j hj => hj⟩
    rcases h with h | h
    · exact h
    · omega
theorem OI.turn {w6 W : World} {T : Nat} {f : Nat → Int} (h : OI w6 T f W) (r : Nat) (hr : r < 8) (v : Int) : OI w6 T (updF f r v) (W.setCell ⟨T, r, none⟩ (.int .i64 v)) := by
  refine ⟨h.1.setCell _ _ (.inl rfl), ?_⟩
  have := h.2.setC r (.int .i64 v)
  rwa [tb_set _ v r hr] at this
theorem tbIn_nil (f : Nat → Int) (i : Nat) : tbIn f i [] = f := by funext r; simp [tbIn]
theorem tbIn_snoc (f : Nat → Int) (i : Nat) (l : List Nat) (r : Nat) (hr : r ∉ l) : tbIn f i (l ++ [r]) = updF (tbIn f i l) r (min (f r) (i : Int)) := by
  funext j
  unfold tbIn updF
  by_cases e : j = r
  · subst e; simp
  · simp [e]
theorem tbIn_out (f : Nat → Int) (i : Nat) (l : List Nat) (r : Nat) (hr : r ∉ l) : tbIn f i l r = f r := by unfold tbIn; rw [if_neg hr]
theorem usesK_mem {f : Nat → Int} {n r : Nat} : r ∈ usesK f n ↔ r < n ∧ 0 < f r := by unfold usesK; simp
theorem usesK_nodup (f : Nat → Int) (n : Nat) : (usesK f n).Nodup := by unfold usesK; exact List.Pairwise.filter _ List.nodup_range
theorem usesK_get {f : Nat → Int} {k : Nat} (hk : k < (usesK f 8).length) : (usesK f 8).getD k 0 < 8 ∧ (usesK f 8).getD k 0 ∉ (usesK f 8).take k ∧ (usesK f 8).take (k + 1) = (usesK f 8).take k ++ [(usesK f 8).getD k 0] := by
  have e : (usesK f 8).getD k 0 = (usesK f 8)[k] := by rw [List.getD_eq_getElem?_getD, List.getElem?_eq_getElem hk]; rfl
  rw [e]
  refine ⟨(usesK_mem.1 (List.getElem_mem hk)).1, fun hm => ?_, List.take_succ_eq_append_getElem hk⟩
  obtain ⟨j, hj, hje⟩ := List.getElem_of_mem hm
  rw [List.length_take] at hj
  rw [List.getElem_take] at hje
  have := (List.getElem_inj (usesK_nodup f 8)).1 hje
  omega
set_option maxHeartbeats 4000000 in
set_option maxRecDepth 100000 in
theorem cOf_any {w : World} {V : Nat → Prop} {x : Img} {S : ImgS} (h : ImgAt w V x S) (ht : Tab w) (s : BitVec 32) :
    Calls Tryd.prog 6 #[.agg #[.int .i64 x.res, .slice S.t.sp x.tasks.length S.t.c, .slice S.m.sp x.modes.length S.m.c, .slice S.e.sp x.edges.length S.e.c], .int .u32 (w32 s)] w fun e w' => e = .returned (.agg (tb (ceilF x s))) ∧ Below w.heap.size w w' := by
  refine (callsIn_wide (n := 0)).1 ?_
  have hp := ht.pos
  have HI := Lib.hid h
  have HTb := Lib.hid (show ∀ w', Below w.heap.size w w' → Tab w' from fun w' hb => ht.below hp hb)
  have HLt := Lib.hid (fun (k : Nat) (hk : k < (tasksL x s).length) => tasksL_lt hk)
  have HCf := Lib.hid (show ceilF x s = cfK x (tasksL x s) (tasksL x s).length from rfl)
  have HBl := Lib.hid (show ∀ wx, _ from fun wx => below_any s (x.tasks.length : Int) wx)
  have HE := Lib.hid (show ∀ wx, Calls Tryd.prog 9 #[] wx fun e w' => e = .returned (.agg #[.int .i64 16, .int .i64 16, .int .i64 16, .int .i64 16, .int .i64 16, .int .i64 16, .int .i64 16, .int .i64 16]) ∧ Below wx.heap.size wx w' from fun wx => cEmpty_any wx)
  obtain ⟨nT, hnT⟩ : ∃ n, x.tasks.length = n := ⟨_, rfl⟩
  obtain ⟨nM, hnM⟩ : ∃ n, x.modes.length = n := ⟨_, rfl⟩
  obtain ⟨nE, hnE⟩ : ∃ n, x.edges.length = n := ⟨_, rfl⟩
  have HTL := Lib.hid (show tasksL x s = lst (btw s (-1) (nT : Int)) 32 by rw [← hnT]; rfl)
  rw [hnT] at HBl HLt
  rw [hnT, hnM, hnE]
  have HN := Lib.hid hnT
  obtain ⟨y, hy⟩ : ∃ y, btw s (-1) (nT : Int) = y := ⟨_, rfl⟩
  rw [hy] at HBl HTL
  obtain ⟨Z, hZ⟩ : ∃ Z, Z = w.heap.size := ⟨_, rfl⟩
  have HZ := Lib.hid hZ
  clear h ht hp hnT hnM hnE hy
  rw [HCf.out]
  obtain ⟨L, hL⟩ : ∃ L, tasksL x s = L := ⟨_, rfl⟩
  rw [hL] at HTL HLt ⊢
  clear hL HCf
  obtain ⟨N, hN⟩ : ∃ N, L.length = N := ⟨_, rfl⟩
  rw [hN] at HLt ⊢
  have HNN := Lib.hid hN
  clear hN
  refine callsIn_of_wp_marks Tryd.func6 rfl trivial ?_ rfl
  simp only [Tryd.ntmps6, List.size_toArray, List.length_cons, List.length_nil, Nat.reduceAdd, Nat.reduceSub, Array.replicate_succ, Array.replicate_zero, List.push_toArray, List.append_toArray, List.nil_append, List.cons_append]
  gi_wp2_with (first
    | (refine ⟨trivial, rfl, ?_⟩; gi_at_call 9; refine (callsIn_wide.2 (HE.out _)).mono ?_; rintro e w3 ⟨rfl, b3⟩; have H3 := Lib.hid (two_alloc b3); have y1 : (w3.alloc (.cells #[.int .i64 16, .int .i64 16, .int .i64 16, .int .i64 16, .int .i64 16, .int .i64 16, .int .i64 16, .int .i64 16] 33)).cell? ⟨w.heap.size, 1, none⟩ = some (.slice S.t.sp nT S.t.c) := (H3.out.2.1.new ((Below.refl _ _).alloc (Nat.le_refl _) _)).cell 1; clear b3)
    | (refine ⟨trivial, rfl, ?_⟩; gi_at_call 16; refine (callsIn_wide.2 (HBl.out _)).mono ?_; rintro e w' ⟨rfl, rfl⟩)
    | (refine ⟨trivial, rfl, ?_⟩; gi_at_call 17; refine (callsIn_wide.2 (All_any _ _)).mono ?_; rintro e w' ⟨rfl, rfl⟩)
    | fail)
  clear y1
  obtain ⟨T5, hT5⟩ : ∃ T5, T5 = w3.heap.size := ⟨_, rfl⟩
  generalize hw6 : World.alloc (World.alloc w3 _) _ = w6
  have H6 := Lib.hid (show Below w.heap.size w w6 ∧ w6.heap.size = T5 + 2 ∧ RowAt w6 Z 26 #[.int .i64 x.res, .slice S.t.sp nT S.t.c, .slice S.m.sp nM S.m.c, .slice S.e.sp nE S.e.c] ∧ RowAt w6 (Z + 1) 33 (tb (fun _ => 0)) ∧ RowAt w6 T5 33 (tb (fun _ => 16)) ∧ w6.cell? ⟨T5 + 1, 0, none⟩ = some (.int .u32 (w32 y)) ∧ Z + 1 < T5 ∧ w.heap.size ≤ T5 by
    have b1 : Below w3.heap.size w3 w6 := by rw [← hw6]; exact ((Below.refl _ _).alloc (Nat.le_refl _) _).alloc (by simp) _
    obtain ⟨q1, q2, q3⟩ := H3.out
    have hz := q1.size
    have hl := q3.lt
    refine ⟨q1.trans (b1.mono hz), by rw [← hw6, hT5]; simp, ?_, ?_, ?_, ?_, by omega, by omega⟩
    · rw [hZ]; exact q2.new b1
    · rw [hZ]; exact q3.new b1
    · rw [hT5, ← hw6]; exact (RowAt.mk w3 33 (tb (fun _ => 16))).new ((Below.refl _ _).alloc (Nat.le_refl _) _)
    · rw [hT5, ← hw6]; simp [go_sem])
  rw [← hT5, ← hZ]
  clear hw6 hT5 hZ H3 HE HBl
  have hI0 : OI w6 T5 (cfK x L 0) w6 := ⟨Ch.refl _ _, H6.out.2.2.2.2.1⟩
  have HI0 := Lib.hid hI0
  clear hI0
  have HBe := Lib.hid (show ∀ (W' : World) (f : Nat → Int), OI w6 T5 f W' → Below w.heap.size w W' from fun W' f h => H6.out.1.trans (h.1.below (fun j hj e => by have := H6.out.2.2.2.2.2.2.2; omega) H6.out.1.size))
  refine wpIn_rangeF3 (gf := 22) (lb := #[.pointer (some ⟨T5 + 1, 0, none⟩)]) rfl (enters_of Tryd.func22 (by kernel_rfl) rfl)
    N (fun k => #[.int .i64 (nth (ints L) k)]) (fun _ => rfl) (fun _ j => j < T5 + 2)
    (fun k W => OI w6 T5 (cfK x L k) W) (fun _ _ _ => False)
    (fun k => OI.foot H6.out.2.1 (by omega)) (fun _ _ => ⟨fun _ h => h.elim, fun _ _ h => h.elim⟩) HI0.out
    (fun k a' W' => ∃ b, T5 + 4 ≤ b ∧ a' = { tmps := #[.agg #[.int .i64 x.res, .slice S.t.sp nT S.t.c, .slice S.m.sp nM S.m.c, .slice S.e.sp nE S.e.c], .int .u32 (w32 s), .pointer (some ⟨Z, 0, none⟩), undef, .pointer (some ⟨Z + 1, 0, none⟩), .pointer (some ⟨T5, 0, none⟩), .pointer (some ⟨b, 0, none⟩), undef, .agg #[.int .i64 16, .int .i64 16, .int .i64 16, .int .i64 16, .int .i64 16, .int .i64 16, .int .i64 16, .int .i64 16], .int .u32 (w32 s), .pointer (some ⟨Z, 1, none⟩), .slice S.t.sp nT S.t.c, .int .i64 nT, .int .u32 (w32 y), .func (.func 22) #[] #[.pointer (some ⟨T5 + 1, 0, none⟩)], .int .i64 (nth (ints L) k), undef, undef, undef, undef, undef, undef, undef, undef, undef, undef, undef, undef, undef, undef, undef, undef], defers := [] } ∧ RowAt W' b 3 #[.int .i64 (nth (ints L) k)])
    ?hax ?hit ?assign ?body ?done (fun _ _ _ _ h => h.elim)
  case hax =>
    rintro k a' W W' ⟨b, hb, rfl, hr⟩ hc
    rw [H6.out.2.1] at hc
    exact ⟨b, hb, rfl, hc.obj hr (by omega)⟩
  case hit =>
    intro J' Jx' W1 h1 h2 h3 h4 h5 h6 h7 h8
    rw [H6.out.2.1] at h1 h2 h3 h4 h5 h6 h7 ⊢
    rw [HTL.out] at h7
    have hN2 : N = (lst y 32).length := by rw [← HNN.out, HTL.out]
    rw [hN2] at h7 ⊢
    exact all_in _ (T5 + 1) y _ J' Jx' W1 (fun k W' hJ => HTb.out W' (HBe.out W' _ (h3 k W' hJ).1)) ((h2.cell (p := ⟨T5 + 1, 0, none⟩) (show T5 + 1 < T5 + 2 by omega)).trans H6.out.2.2.2.2.2.1) h7 h8
  case assign =>
    intro k W K hi' hk hz hK
    rw [H6.out.2.1] at hz
    have HK := Lib.hid hK
    have hkp := (OI.foot H6.out.2.1 (show T5 < T5 + 2 by omega)).keep W (W.alloc (.cells #[.int .i64 (nth (ints L) k)] 3)) hi' (Off.nothing ((Ch.refl _ _).alloc _))
    have HKP := Lib.hid hkp
    clear hK hkp hi'
    gi_wp2
    exact HK.out _ _ ⟨W.heap.size, by omega, rfl, RowAt.mk W 3 _⟩ ((Ch.refl _ _).alloc _) HKP.out.1 HKP.out.2
  case body =>
    rintro k a' W hI hk ⟨b, hb, rfl, hr⟩ hz ⟨rec0, hrec⟩ hnl
    rw [H6.out.2.1] at hz hrec hnl ⊢
    have hkL : k < L.length := by rw [HNN.out]; exact hk
    rw [nth_ints hkL] at hr ⊢
    have hil := HLt.out k hk
    have hcf : cfK x L (k + 1) = tbIn (cfK x L k) (L.getD k 0) (usesK (lonF x (L.getD k 0)) 8) := rfl
    obtain ⟨i, hi⟩ : ∃ i, L.getD k 0 = i := ⟨_, rfl⟩
    rw [hi] at hr hil hcf ⊢
    obtain ⟨F0, hF0⟩ : ∃ F, cfK x L k = F := ⟨_, rfl⟩
    rw [hF0] at hI hcf
    have HIW := Lib.hid (HI.out.new (HBe.out W F0 hI))
    obtain ⟨hcs, h8⟩ := HIW.out.tk i (by rw [HN.out]; exact hil)
    obtain ⟨hsp, -, -⟩ := HIW.out.st.at_ (by rw [HN.out]; omega)
    have q0 : W.cell? ⟨S.t.b, S.t.o + i * 11, none⟩ = some (.int .i64 (x.t i).per) := hcs 0 _ rfl
    have q1 : W.cell? ⟨S.t.b, S.t.o + i * 11 + 1, none⟩ = some (.int .i64 (x.t i).dl) := hcs 1 _ rfl
    have q2 : W.cell? ⟨S.t.b, S.t.o + i * 11 + 2, none⟩ = some (.int .i64 (x.t i).cost) := hcs 2 _ rfl
    have q3 : W.cell? ⟨S.t.b, S.t.o + i * 11 + 3, none⟩ = some (.int .i64 (lonF x i 0)) := hcs 3 _ (lon_at h8 0 (by omega))
    have q4 : W.cell? ⟨S.t.b, S.t.o + i * 11 + 4, none⟩ = some (.int .i64 (lonF x i 1)) := hcs 4 _ (lon_at h8 1 (by omega))
    have q5 : W.cell? ⟨S.t.b, S.t.o + i * 11 + 5, none⟩ = some (.int .i64 (lonF x i 2)) := hcs 5 _ (lon_at h8 2 (by omega))
    have q6 : W.cell? ⟨S.t.b, S.t.o + i * 11 + 6, none⟩ = some (.int .i64 (lonF x i 3)) := hcs 6 _ (lon_at h8 3 (by omega))
    have q7 : W.cell? ⟨S.t.b, S.t.o + i * 11 + 7, none⟩ = some (.int .i64 (lonF x i 4)) := hcs 7 _ (lon_at h8 4 (by omega))
    have q8 : W.cell? ⟨S.t.b, S.t.o + i * 11 + 8, none⟩ = some (.int .i64 (lonF x i 5)) := hcs 8 _ (lon_at h8 5 (by omega))
    have q9 : W.cell? ⟨S.t.b, S.t.o + i * 11 + 9, none⟩ = some (.int .i64 (lonF x i 6)) := hcs 9 _ (lon_at h8 6 (by omega))
    have q10 : W.cell? ⟨S.t.b, S.t.o + i * 11 + 10, none⟩ = some (.int .i64 (lonF x i 7)) := hcs 10 _ (lon_at h8 7 (by omega))
    obtain ⟨f, hf⟩ : ∃ f, lonF x i = f := ⟨_, rfl⟩
    rw [hf] at q3 q4 q5 q6 q7 q8 q9 q10 hcf
    obtain ⟨a0, ha0⟩ : ∃ a, (x.t i).per = a := ⟨_, rfl⟩
    obtain ⟨a1, ha1⟩ : ∃ a, (x.t i).dl = a := ⟨_, rfl⟩
    obtain ⟨a2, ha2⟩ : ∃ a, (x.t i).cost = a := ⟨_, rfl⟩
    rw [ha0] at q0
    rw [ha1] at q1
    rw [ha2] at q2
    have z1 : W.cell? ⟨Z, 1, none⟩ = some (.slice S.t.sp nT S.t.c) := (H6.out.2.2.1.keep hI.1 (fun e => by have := H6.out.2.2.2.2.2.2.1; omega)).cell 1
    rw [hsp] at z1 ⊢
    have t6 : W.cell? ⟨b, 0, none⟩ = some (.int .i64 (i : Nat)) := hr.cell 0
    have HB := Lib.hid (And.intro hI (And.intro hr (And.intro hz (And.intro hrec (And.intro hb hcf)))))
    have hi2 : (i : Int) < (nT : Int) := by omega
    clear hI hr hz hrec hnl hb hcf hcs h8 hsp hf ha0 ha1 ha2 hF0 hi HIW
    gi_wp2_with (first
      | (refine ⟨trivial, rfl, ?_⟩; gi_at_call 18; refine (CallsIn.inRound _ (callsIn_wide.2 (Uses_any _ _))).mono ?_; rintro e w' ⟨rfl, rfl⟩)
      | fail)
    clear q0 q1 q2 q3 q4 q5 q6 q7 q8 q9 q10 z1 t6
    obtain ⟨B, hBB⟩ : ∃ B, B = W.heap.size := ⟨_, rfl⟩
    rw [← hBB]
    generalize hWb : World.alloc W _ = Wb
    have HW := Lib.hid (show Wb.heap.size = B + 1 ∧ Ch (fun _ => False) W Wb ∧ RowAt Wb B 55 #[.int .i64 a0, .int .i64 a1, .int .i64 a2, .int .i64 (f 0), .int .i64 (f 1), .int .i64 (f 2), .int .i64 (f 3), .int .i64 (f 4), .int .i64 (f 5), .int .i64 (f 6), .int .i64 (f 7)] by
      rw [← hWb, hBB]
      exact ⟨by simp, (Ch.refl _ _).alloc _, RowAt.mk _ _ _⟩)
    have HBz := Lib.hid (And.intro hBB (show T5 < B by have := HB.out.2.2.1; omega))
    have hrec2 : Wb.heap[T5 + 2 + 1]? = some (.loop rec0) := HW.out.2.1.obj HB.out.2.2.2.1 (fun h => h)
    have HIb := Lib.hid (show OI Wb T5 F0 Wb from ⟨Ch.refl _ _, HB.out.1.2.keep HW.out.2.1 (fun h => h)⟩)
    have HTs := Lib.hid (show ∀ W', Below Wb.heap.size Wb W' → W'.rangeAt B 3 (tb f).toList from fun W' hb j v hj => by
      have hr := HW.out.2.2.new hb
      have hj8 : j < 8 := (List.getElem?_eq_some_iff.1 hj).1
      have := hr.cell (3 + j)
      rw [this, ← hj]
      revert j
      intro j hj hj8 _
      revert hj
      revert j
      refine lt8 ?_ ?_ ?_ ?_ ?_ ?_ ?_ ?_ <;> (intros; rfl))
    clear hWb hBB
    refine wpIn_rangeN hrec2 (gf := 25) (lb := #[.pointer (some ⟨B, 0, none⟩)]) rfl (enters_of Tryd.func25 (by kernel_rfl) rfl)
      (usesK f 8).length (usesA f) (fun _ => rfl) (fun _ j => j < B + 1)
      (fun j W' => OI Wb T5 (tbIn F0 i ((usesK f 8).take j)) W') (fun _ _ _ => False)
      (fun j => OI.foot HW.out.1 (by have := HBz.out.2; omega)) (fun _ _ => ⟨fun _ h => h.elim, fun _ _ h => h.elim⟩) (by rw [List.take_zero, tbIn_nil]; exact HIb.out)
      (fun j a' _ => a' = { tmps := #[.agg #[.int .i64 x.res, .slice (some ⟨S.t.b, S.t.o, none⟩) nT S.t.c, .slice S.m.sp nM S.m.c, .slice S.e.sp nE S.e.c], .int .u32 (w32 s), .pointer (some ⟨Z, 0, none⟩), undef, .pointer (some ⟨Z + 1, 0, none⟩), .pointer (some ⟨T5, 0, none⟩), .pointer (some ⟨b, 0, none⟩), .int .i64 ((usesK f 8).getD j 0 : Nat), .agg #[.int .i64 16, .int .i64 16, .int .i64 16, .int .i64 16, .int .i64 16, .int .i64 16, .int .i64 16, .int .i64 16], .int .u32 (w32 s), .pointer (some ⟨Z, 1, none⟩), .slice (some ⟨S.t.b, S.t.o, none⟩) nT S.t.c, .int .i64 nT, .int .u32 (w32 y), .func (.func 22) #[] #[.pointer (some ⟨T5 + 1, 0, none⟩)], .int .i64 (i : Nat), .pointer (some ⟨Z, 1, none⟩), .slice (some ⟨S.t.b, S.t.o, none⟩) nT S.t.c, .int .i64 (i : Nat), .pointer (some ⟨S.t.b, S.t.o + i * 11, none⟩), .agg #[.int .i64 a0, .int .i64 a1, .int .i64 a2, .int .i64 (f 0), .int .i64 (f 1), .int .i64 (f 2), .int .i64 (f 3), .int .i64 (f 4), .int .i64 (f 5), .int .i64 (f 6), .int .i64 (f 7)], .func (.func 25) #[] #[.pointer (some ⟨B, 0, none⟩)], .int .i64 ((usesK f 8).getD j 0 : Nat), .int .i64 (f ((usesK f 8).getD j 0)), undef, undef, undef, undef, undef, undef, undef, undef], defers := [] })
      (fun _ _ _ _ h _ => h) ?hit2 ?assign2 ?body2 ?done2 (fun _ _ _ _ h => h.elim)
    case hit2 =>
      intro J' Jx' W1 h1 h2 h3 h4 h5 h6 h7 h8
      exact uses_in _ B f _ J' Jx' W1 (HTs.out W1 h2) h7 h8
    case assign2 =>
      intro j W' K hi' hj hz2 hK
      have HK := Lib.hid hK
      have HI' := Lib.hid hi'
      have hu : usesA f j = #[.int .i64 ((usesK f 8).getD j 0 : Nat), .int .i64 (f ((usesK f 8).getD j 0))] := rfl
      rw [hu]
      obtain ⟨r, hr⟩ : ∃ r, (usesK f 8).getD j 0 = r := ⟨_, rfl⟩
      rw [hr] at HK ⊢
      clear hK hi' hu hr
      gi_wp2
      exact HK.out _ _ rfl (Ch.refl _ _) HI'.out (fun _ h => h)
    case body2 =>
      rintro j a' W' hI' hj rfl hz2
      obtain ⟨hr8, hrn, htk⟩ := usesK_get hj
      have c5 := (hI'.2.cell _).trans (tb_at _ _ hr8)
      rw [tbIn_out _ _ _ _ hrn] at c5
      have f5 := hI'.2.fr ((usesK f 8).getD j 0)
      have HT := Lib.hid (tbIn_snoc F0 i ((usesK f 8).take j) _ hrn)
      rw [← htk] at HT
      obtain ⟨r, hr0⟩ : ∃ r, (usesK f 8).getD j 0 = r := ⟨_, rfl⟩
      rw [hr0] at c5 f5 hr8 HT ⊢
      have t6 : W'.cell? ⟨b, 0, none⟩ = some (.int .i64 (i : Nat)) := ((HB.out.2.1.keep HW.out.2.1 (fun h => h)).keep hI'.1 (fun e => by have := HB.out.2.2.2.2.1; omega)).cell 0
      have HI' := Lib.hid hI'
      have hr9 : (r : Int) < 8 := by omega
      have HR8 := Lib.hid hr8
      obtain ⟨v, hv⟩ : ∃ v, F0 r = v := ⟨_, rfl⟩
      rw [hv] at c5 HT
      clear hI' hr0 hrn htk hr8 hv hj hz2 hrec2
      have hfin := Lib.hid (show ∀ u : Int, u = min v (i : Int) → Step (fun _ j => j < B + 1) W' (W'.drew.setCell ⟨T5, r, none⟩ (.int .i64 u)) ∧ OI Wb T5 (tbIn F0 i ((usesK f 8).take (j + 1))) (W'.drew.setCell ⟨T5, r, none⟩ (.int .i64 u)) from fun u hu => by
        refine ⟨⟨((Ch.refl _ _).drew).setCell _ _ (.inl (show T5 < B + 1 by have := HBz.out.2; omega)), fun j hj => .inl hj⟩, ?_⟩
        rw [HT.out, ← hu]
        exact OI.turn (W := W'.drew) ⟨HI'.out.1.drew, HI'.out.2⟩ r HR8.out u)
      by_cases hlt : (i : Int) < v
      · gi_wp2
        refine wpIn_region_still_tail0 7 (by kernel_rfl) (by kernel_rfl) (by kernel_rfl) (fun _ _ h => h) ?_
        simp only [List.take_succ_cons, List.take_zero, List.drop_succ_cons, List.drop_zero]
        repeat still_step
        try refine wpStill_nil ?_
        go_wp2
        exact hfin.out _ (by omega)
      · gi_wp2
        refine wpIn_region_still_tail0 7 (by kernel_rfl) (by kernel_rfl) (by kernel_rfl) (fun _ _ h => h) ?_
        simp only [List.take_succ_cons, List.take_zero, List.drop_succ_cons, List.drop_zero]
        repeat still_step
        try refine wpStill_nil ?_
        go_wp2
        exact hfin.out _ (by omega)
    case done2 =>
      intro W' hI' hz2
      rw [List.take_length] at hI'
      have c : Ch (fun j => j = T5) W W' := (HW.out.2.1.mono (fun _ _ h => h.elim)).trans hI'.1
      refine ⟨⟨c.mono fun j _ e => by subst e; omega, fun j hj => .inl hj⟩, ?_⟩
      show OI w6 T5 (cfK x L (k + 1)) W'
      rw [HB.out.2.2.2.2.2]
      exact ⟨HB.out.1.1.trans c, hI'.2⟩
  case done =>
    rintro W hI hD hnD hz
    rw [H6.out.2.1] at hD hnD hz
    rename_i Qp Kp hKp
    have HF := Lib.hid (And.intro hI hD)
    have HRes := Lib.hid (H6.out.2.2.2.1.keep hI.1 (fun e => by have := H6.out.2.2.2.2.2.2.1; omega))
    have HBw := Lib.hid (HBe.out W _ hI)
    clear hI hD hnD
    show Kp _ _
    refine hKp _ _ ?_
    refine wpIn_wide.2 ?_
    go_wp2_with (first
      | (refine wpList_load_row rfl 33 (.tmp 5) rfl T5 rfl 33 _ (0, 0) _ HF.out.1.2 Tryd.underlying33 rfl (tb_info _) ?_)
      | (refine wpList_store_row rfl 33 (.tmp 4) (.tmp 31) rfl (Z + 1) _ rfl rfl 33 _ HRes.out (tb_info _) rfl (tb_one _) ?_)
      | fail)
    rw [H6.out.2.1]
    have hzt := H6.out.2.2.2.2.2.2
    have hD := (ch_setRow W (Z + 1) (tb (cfK x L N))).obj HF.out.2 (by omega)
    have hc : Ch (fun j => j = T5 + 2) (W.setRow (Z + 1) (tb (cfK x L N))) ((W.setRow (Z + 1) (tb (cfK x L N))).putObj (T5 + 2) (.deferred none)) := (Ch.refl _ _).putObj _ _ rfl
    refine ⟨by simp, .inl ⟨_, _, rfl, run_takeDeferred hD, ?_⟩⟩
    refine ⟨.agg (tb (cfK x L N)), ?_, rfl, ?_⟩
    · exact results_cell_row rfl _ _ (Z + 1) 33 (tb (cfK x L N)) (0, 0) _ rfl (HRes.out.put.keep hc (fun e => by omega)) Tryd.underlying33 rfl (tb_info _)
    · have hz0 := HZ.out
      have b1 := below_row HBw.out (Nat.le_refl _) (show w.heap.size ≤ Z + 1 by omega) (tb (cfK x L N))
      exact b1.trans (hc.below (fun j hj e => by omega) b1.size)
end Go.Proofs.YtomdcmdgcnhnmaaDoor
