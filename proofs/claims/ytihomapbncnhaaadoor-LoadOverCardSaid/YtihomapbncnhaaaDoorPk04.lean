/- Several texts in one: YD, VH, IG, YE, Coll. -/
import Derived.Test.YtihomapbncnhaaaDoorPk02
import Derived.Test.YtihomapbncnhaaaDoorPk03
import Derived.Test.YtihomapbncnhaaaDoorPk01
import Derived.Handy
import Derived.IntWalk
import Derived.Deep.MidRow
import Derived.Laws.ResultCell
import Derived.Deep.RegionWith
import Derived.Deep.RegionHeld3
import Derived.BigQuiet
import Derived.Deep.QuietTactic
/- The contract of ceil's Of: the ceilings of a set of an image's tasks. -/
namespace Go.Proofs.YtihomapbncnhaaaDoor
open Go.RowKit
attribute [local go_sem] Oper.semAt_some

/-- A table, and a task more: of the resources that are listed. -/
def tbIn (f : Nat → Int) (i : Nat) (l : List Nat) : Nat → Int := fun r => if r ∈ l then min (f r) (i : Int) else f r
/-- The ceilings of tasks, one by one. -/
def cfK (x : Img) (L : List Nat) : Nat → (Nat → Int)
  | 0 => fun _ => 16
  | k + 1 => tbIn (cfK x L k) (L.getD k 0) (usesK (lonF x (L.getD k 0)) 8)
def ceilF (x : Img) (s : BitVec 32) : Nat → Int := cfK x (tasksL x s) (tasksL x s).length
/-- What a loop keeps: its table, and all that was there before. -/
def OI (w6 : World) (T : Nat) (f : Nat → Int) (W : World) : Prop := Ch (fun j => j = T) w6 W ∧ RowAt W T 73 (tb f)
theorem OI.foot {w6 : World} {T b : Nat} {f : Nat → Int} (hb : w6.heap.size = b) (hT : T < b) : Foot (fun _ j => j < b) (OI w6 T f) where
  lt := fun W ⟨h, _⟩ j hj => by have := h.size; omega
  keep := fun W W' ⟨h1, h2⟩ hc => by
    refine ⟨⟨((h1.mono (T' := fun j => j = T ∨ b ≤ j) (fun _ _ h => .inl h)).trans (hc.mono fun j _ hn => .inr (by have : ¬ j < b := hn; omega))).mono fun j hj h => ?_, h2.keep hc (fun hn => hn hT)⟩, fun j hj => hj⟩
    rcases h with h | h
    · exact h
    · omega
theorem OI.turn {w6 W : World} {T : Nat} {f : Nat → Int} (h : OI w6 T f W) (r : Nat) (hr : r < 8) (v : Int) : OI w6 T (updF f r v) (W.setCell ⟨T, r, none⟩ (.int .i64 v)) := by
  refine ⟨h.1.setCell _ _ (.inl rfl), ?_⟩
  have := h.2.setC r (.int .i64 v)
  rwa [tb_set _ v r hr] at this
theorem tbIn_nil (f : Nat → Int) (i : Nat) : tbIn f i [] = f := by funext r; simp [tbIn]
theorem tbIn_snoc (f : Nat → Int) (i : Nat) (l : List Nat) (r : Nat) (hr : r ∉ l) : tbIn f i (l ++ [r]) = updF (tbIn f i l) r (min (f r) (i : Int)) := by
  funext j
  unfold tbIn updF
  by_cases e : j = r
  · subst e; simp
  · simp [e]
theorem tbIn_out (f : Nat → Int) (i : Nat) (l : List Nat) (r : Nat) (hr : r ∉ l) : tbIn f i l r = f r := by unfold tbIn; rw [if_neg hr]
theorem usesK_mem {f : Nat → Int} {n r : Nat} : r ∈ usesK f n ↔ r < n ∧ 0 < f r := by unfold usesK; simp
theorem usesK_nodup (f : Nat → Int) (n : Nat) : (usesK f n).Nodup := by unfold usesK; exact List.Pairwise.filter _ List.nodup_range
theorem usesK_get {f : Nat → Int} {k : Nat} (hk : k < (usesK f 8).length) : (usesK f 8).getD k 0 < 8 ∧ (usesK f 8).getD k 0 ∉ (usesK f 8).take k ∧ (usesK f 8).take (k + 1) = (usesK f 8).take k ++ [(usesK f 8).getD k 0] := by
  have e : (usesK f 8).getD k 0 = (usesK f 8)[k] := by rw [List.getD_eq_getElem?_getD, List.getElem?_eq_getElem hk]; rfl
  rw [e]
  refine ⟨(usesK_mem.1 (List.getElem_mem hk)).1, fun hm => ?_, List.take_succ_eq_append_getElem hk⟩
  obtain ⟨j, hj, hje⟩ := List.getElem_of_mem hm
  rw [List.length_take] at hj
  rw [List.getElem_take] at hje
  have := (List.getElem_inj (usesK_nodup f 8)).1 hje
  omega
set_option maxHeartbeats 4000000 in
set_option maxRecDepth 100000 in
theorem cOf_any {w : World} {V : Nat → Prop} {x : Img} {S : ImgS} (h : ImgAt w V x S) (ht : Tab w) (s : BitVec 32) :
    Calls Tryd.prog 35 #[.agg #[.int .i64 x.res, .slice S.t.sp x.tasks.length S.t.c, .slice S.m.sp x.modes.length S.m.c, .slice S.e.sp x.edges.length S.e.c], .int .u32 (w32 s)] w fun e w' => e = .returned (.agg (tb (ceilF x s))) ∧ Below w.heap.size w w' := by
  refine (callsIn_wide (n := 0)).1 ?_
  have hp := ht.pos
  have HI := Lib.hid h
  have HTb := Lib.hid (show ∀ w', Below w.heap.size w w' → Tab w' from fun w' hb => ht.below hp hb)
  have HLt := Lib.hid (fun (k : Nat) (hk : k < (tasksL x s).length) => tasksL_lt hk)
  have HCf := Lib.hid (show ceilF x s = cfK x (tasksL x s) (tasksL x s).length from rfl)
  have HBl := Lib.hid (show ∀ wx, _ from fun wx => below_any s (x.tasks.length : Int) wx)
  have HE := Lib.hid (show ∀ wx, Calls Tryd.prog 63 #[] wx fun e w' => e = .returned (.agg #[.int .i64 16, .int .i64 16, .int .i64 16, .int .i64 16, .int .i64 16, .int .i64 16, .int .i64 16, .int .i64 16]) ∧ Below wx.heap.size wx w' from fun wx => cEmpty_any wx)
  obtain ⟨nT, hnT⟩ : ∃ n, x.tasks.length = n := ⟨_, rfl⟩
  obtain ⟨nM, hnM⟩ : ∃ n, x.modes.length = n := ⟨_, rfl⟩
  obtain ⟨nE, hnE⟩ : ∃ n, x.edges.length = n := ⟨_, rfl⟩
  have HTL := Lib.hid (show tasksL x s = lst (btw s (-1) (nT : Int)) 32 by rw [← hnT]; rfl)
  rw [hnT] at HBl HLt
  rw [hnT, hnM, hnE]
  have HN := Lib.hid hnT
  obtain ⟨y, hy⟩ : ∃ y, btw s (-1) (nT : Int) = y := ⟨_, rfl⟩
  rw [hy] at HBl HTL
  obtain ⟨Z, hZ⟩ : ∃ Z, Z = w.heap.size := ⟨_, rfl⟩
  have HZ := Lib.hid hZ
  clear h ht hp hnT hnM hnE hy
  rw [HCf.out]
  obtain ⟨L, hL⟩ : ∃ L, tasksL x s = L := ⟨_, rfl⟩
  rw [hL] at HTL HLt ⊢
  clear hL HCf
  obtain ⟨N, hN⟩ : ∃ N, L.length = N := ⟨_, rfl⟩
  rw [hN] at HLt ⊢
  have HNN := Lib.hid hN
  clear hN
  refine callsIn_of_wp_marks Tryd.func35 rfl trivial ?_ rfl
  simp only [Tryd.ntmps35, List.size_toArray, List.length_cons, List.length_nil, Nat.reduceAdd, Nat.reduceSub, Array.replicate_succ, Array.replicate_zero, List.push_toArray, List.append_toArray, List.nil_append, List.cons_append]
  gi_wp2_with (first
    | (refine ⟨trivial, rfl, ?_⟩; gi_at_call 63; refine (callsIn_wide.2 (HE.out _)).mono ?_; rintro e w3 ⟨rfl, b3⟩; have H3 := Lib.hid (two_alloc b3); have y1 : (w3.alloc (.cells #[.int .i64 16, .int .i64 16, .int .i64 16, .int .i64 16, .int .i64 16, .int .i64 16, .int .i64 16, .int .i64 16] 73)).cell? ⟨w.heap.size, 1, none⟩ = some (.slice S.t.sp nT S.t.c) := (H3.out.2.1.new ((Below.refl _ _).alloc (Nat.le_refl _) _)).cell 1; clear b3)
    | (refine ⟨trivial, rfl, ?_⟩; gi_at_call 64; refine (callsIn_wide.2 (HBl.out _)).mono ?_; rintro e w' ⟨rfl, rfl⟩)
    | (refine ⟨trivial, rfl, ?_⟩; gi_at_call 65; refine (callsIn_wide.2 (All_any _ _)).mono ?_; rintro e w' ⟨rfl, rfl⟩)
    | fail)
  clear y1
  obtain ⟨T5, hT5⟩ : ∃ T5, T5 = w3.heap.size := ⟨_, rfl⟩
  generalize hw6 : World.alloc (World.alloc w3 _) _ = w6
  have H6 := Lib.hid (show Below w.heap.size w w6 ∧ w6.heap.size = T5 + 2 ∧ RowAt w6 Z 26 #[.int .i64 x.res, .slice S.t.sp nT S.t.c, .slice S.m.sp nM S.m.c, .slice S.e.sp nE S.e.c] ∧ RowAt w6 (Z + 1) 73 (tb (fun _ => 0)) ∧ RowAt w6 T5 73 (tb (fun _ => 16)) ∧ w6.cell? ⟨T5 + 1, 0, none⟩ = some (.int .u32 (w32 y)) ∧ Z + 1 < T5 ∧ w.heap.size ≤ T5 by
    have b1 : Below w3.heap.size w3 w6 := by rw [← hw6]; exact ((Below.refl _ _).alloc (Nat.le_refl _) _).alloc (by simp) _
    obtain ⟨q1, q2, q3⟩ := H3.out
    have hz := q1.size
    have hl := q3.lt
    refine ⟨q1.trans (b1.mono hz), by rw [← hw6, hT5]; simp, ?_, ?_, ?_, ?_, by omega, by omega⟩
    · rw [hZ]; exact q2.new b1
    · rw [hZ]; exact q3.new b1
    · rw [hT5, ← hw6]; exact (RowAt.mk w3 73 (tb (fun _ => 16))).new ((Below.refl _ _).alloc (Nat.le_refl _) _)
    · rw [hT5, ← hw6]; simp [go_sem])
  rw [← hT5, ← hZ]
  clear hw6 hT5 hZ H3 HE HBl
  have hI0 : OI w6 T5 (cfK x L 0) w6 := ⟨Ch.refl _ _, H6.out.2.2.2.2.1⟩
  have HI0 := Lib.hid hI0
  clear hI0
  have HBe := Lib.hid (show ∀ (W' : World) (f : Nat → Int), OI w6 T5 f W' → Below w.heap.size w W' from fun W' f h => H6.out.1.trans (h.1.below (fun j hj e => by have := H6.out.2.2.2.2.2.2.2; omega) H6.out.1.size))
  refine wpIn_rangeF3 (gf := 92) (lb := #[.pointer (some ⟨T5 + 1, 0, none⟩)]) rfl (enters_of Tryd.func92 (by kernel_rfl) rfl)
    N (fun k => #[.int .i64 (nth (ints L) k)]) (fun _ => rfl) (fun _ j => j < T5 + 2)
    (fun k W => OI w6 T5 (cfK x L k) W) (fun _ _ _ => False)
    (fun k => OI.foot H6.out.2.1 (by omega)) (fun _ _ => ⟨fun _ h => h.elim, fun _ _ h => h.elim⟩) HI0.out
    (fun k a' W' => ∃ b, T5 + 4 ≤ b ∧ a' = { tmps := #[.agg #[.int .i64 x.res, .slice S.t.sp nT S.t.c, .slice S.m.sp nM S.m.c, .slice S.e.sp nE S.e.c], .int .u32 (w32 s), .pointer (some ⟨Z, 0, none⟩), undef, .pointer (some ⟨Z + 1, 0, none⟩), .pointer (some ⟨T5, 0, none⟩), .pointer (some ⟨b, 0, none⟩), undef, .agg #[.int .i64 16, .int .i64 16, .int .i64 16, .int .i64 16, .int .i64 16, .int .i64 16, .int .i64 16, .int .i64 16], .int .u32 (w32 s), .pointer (some ⟨Z, 1, none⟩), .slice S.t.sp nT S.t.c, .int .i64 nT, .int .u32 (w32 y), .func (.func 92) #[] #[.pointer (some ⟨T5 + 1, 0, none⟩)], .int .i64 (nth (ints L) k), undef, undef, undef, undef, undef, undef, undef, undef, undef, undef, undef, undef, undef, undef, undef, undef], defers := [] } ∧ RowAt W' b 3 #[.int .i64 (nth (ints L) k)])
    ?hax ?hit ?assign ?body ?done (fun _ _ _ _ h => h.elim)
  case hax =>
    rintro k a' W W' ⟨b, hb, rfl, hr⟩ hc
    rw [H6.out.2.1] at hc
    exact ⟨b, hb, rfl, hc.obj hr (by omega)⟩
  case hit =>
    intro J' Jx' W1 h1 h2 h3 h4 h5 h6 h7 h8
    rw [H6.out.2.1] at h1 h2 h3 h4 h5 h6 h7 ⊢
    rw [HTL.out] at h7
    have hN2 : N = (lst y 32).length := by rw [← HNN.out, HTL.out]
    rw [hN2] at h7 ⊢
    exact all_in _ (T5 + 1) y _ J' Jx' W1 (fun k W' hJ => HTb.out W' (HBe.out W' _ (h3 k W' hJ).1)) ((h2.cell (p := ⟨T5 + 1, 0, none⟩) (show T5 + 1 < T5 + 2 by omega)).trans H6.out.2.2.2.2.2.1) h7 h8
  case assign =>
    intro k W K hi' hk hz hK
    rw [H6.out.2.1] at hz
    have HK := Lib.hid hK
    have hkp := (OI.foot H6.out.2.1 (show T5 < T5 + 2 by omega)).keep W (W.alloc (.cells #[.int .i64 (nth (ints L) k)] 3)) hi' (Off.nothing ((Ch.refl _ _).alloc _))
    have HKP := Lib.hid hkp
    clear hK hkp hi'
    gi_wp2
    exact HK.out _ _ ⟨W.heap.size, by omega, rfl, RowAt.mk W 3 _⟩ ((Ch.refl _ _).alloc _) HKP.out.1 HKP.out.2
  case body =>
    rintro k a' W hI hk ⟨b, hb, rfl, hr⟩ hz ⟨rec0, hrec⟩ hnl
    rw [H6.out.2.1] at hz hrec hnl ⊢
    have hkL : k < L.length := by rw [HNN.out]; exact hk
    rw [nth_ints hkL] at hr ⊢
    have hil := HLt.out k hk
    have hcf : cfK x L (k + 1) = tbIn (cfK x L k) (L.getD k 0) (usesK (lonF x (L.getD k 0)) 8) := rfl
    obtain ⟨i, hi⟩ : ∃ i, L.getD k 0 = i := ⟨_, rfl⟩
    rw [hi] at hr hil hcf ⊢
    obtain ⟨F0, hF0⟩ : ∃ F, cfK x L k = F := ⟨_, rfl⟩
    rw [hF0] at hI hcf
    have HIW := Lib.hid (HI.out.new (HBe.out W F0 hI))
    obtain ⟨hcs, h8⟩ := HIW.out.tk i (by rw [HN.out]; exact hil)
    obtain ⟨hsp, -, -⟩ := HIW.out.st.at_ (by rw [HN.out]; omega)
    have q0 : W.cell? ⟨S.t.b, S.t.o + i * 11, none⟩ = some (.int .i64 (x.t i).per) := hcs 0 _ rfl
    have q1 : W.cell? ⟨S.t.b, S.t.o + i * 11 + 1, none⟩ = some (.int .i64 (x.t i).dl) := hcs 1 _ rfl
    have q2 : W.cell? ⟨S.t.b, S.t.o + i * 11 + 2, none⟩ = some (.int .i64 (x.t i).cost) := hcs 2 _ rfl
    have q3 : W.cell? ⟨S.t.b, S.t.o + i * 11 + 3, none⟩ = some (.int .i64 (lonF x i 0)) := hcs 3 _ (lon_at h8 0 (by omega))
    have q4 : W.cell? ⟨S.t.b, S.t.o + i * 11 + 4, none⟩ = some (.int .i64 (lonF x i 1)) := hcs 4 _ (lon_at h8 1 (by omega))
    have q5 : W.cell? ⟨S.t.b, S.t.o + i * 11 + 5, none⟩ = some (.int .i64 (lonF x i 2)) := hcs 5 _ (lon_at h8 2 (by omega))
    have q6 : W.cell? ⟨S.t.b, S.t.o + i * 11 + 6, none⟩ = some (.int .i64 (lonF x i 3)) := hcs 6 _ (lon_at h8 3 (by omega))
    have q7 : W.cell? ⟨S.t.b, S.t.o + i * 11 + 7, none⟩ = some (.int .i64 (lonF x i 4)) := hcs 7 _ (lon_at h8 4 (by omega))
    have q8 : W.cell? ⟨S.t.b, S.t.o + i * 11 + 8, none⟩ = some (.int .i64 (lonF x i 5)) := hcs 8 _ (lon_at h8 5 (by omega))
    have q9 : W.cell? ⟨S.t.b, S.t.o + i * 11 + 9, none⟩ = some (.int .i64 (lonF x i 6)) := hcs 9 _ (lon_at h8 6 (by omega))
    have q10 : W.cell? ⟨S.t.b, S.t.o + i * 11 + 10, none⟩ = some (.int .i64 (lonF x i 7)) := hcs 10 _ (lon_at h8 7 (by omega))
    obtain ⟨f, hf⟩ : ∃ f, lonF x i = f := ⟨_, rfl⟩
    rw [hf] at q3 q4 q5 q6 q7 q8 q9 q10 hcf
    obtain ⟨a0, ha0⟩ : ∃ a, (x.t i).per = a := ⟨_, rfl⟩
    obtain ⟨a1, ha1⟩ : ∃ a, (x.t i).dl = a := ⟨_, rfl⟩
    obtain ⟨a2, ha2⟩ : ∃ a, (x.t i).cost = a := ⟨_, rfl⟩
    rw [ha0] at q0
    rw [ha1] at q1
    rw [ha2] at q2
    have z1 : W.cell? ⟨Z, 1, none⟩ = some (.slice S.t.sp nT S.t.c) := (H6.out.2.2.1.keep hI.1 (fun e => by have := H6.out.2.2.2.2.2.2.1; omega)).cell 1
    rw [hsp] at z1 ⊢
    have t6 : W.cell? ⟨b, 0, none⟩ = some (.int .i64 (i : Nat)) := hr.cell 0
    have HB := Lib.hid (And.intro hI (And.intro hr (And.intro hz (And.intro hrec (And.intro hb hcf)))))
    have hi2 : (i : Int) < (nT : Int) := by omega
    clear hI hr hz hrec hnl hb hcf hcs h8 hsp hf ha0 ha1 ha2 hF0 hi HIW
    gi_wp2_with (first
      | (refine ⟨trivial, rfl, ?_⟩; gi_at_call 66; refine (CallsIn.inRound _ (callsIn_wide.2 (Uses_any _ _))).mono ?_; rintro e w' ⟨rfl, rfl⟩)
      | fail)
    clear q0 q1 q2 q3 q4 q5 q6 q7 q8 q9 q10 z1 t6
    obtain ⟨B, hBB⟩ : ∃ B, B = W.heap.size := ⟨_, rfl⟩
    rw [← hBB]
    generalize hWb : World.alloc W _ = Wb
    have HW := Lib.hid (show Wb.heap.size = B + 1 ∧ Ch (fun _ => False) W Wb ∧ RowAt Wb B 59 #[.int .i64 a0, .int .i64 a1, .int .i64 a2, .int .i64 (f 0), .int .i64 (f 1), .int .i64 (f 2), .int .i64 (f 3), .int .i64 (f 4), .int .i64 (f 5), .int .i64 (f 6), .int .i64 (f 7)] by
      rw [← hWb, hBB]
      exact ⟨by simp, (Ch.refl _ _).alloc _, RowAt.mk _ _ _⟩)
    have HBz := Lib.hid (And.intro hBB (show T5 < B by have := HB.out.2.2.1; omega))
    have hrec2 : Wb.heap[T5 + 2 + 1]? = some (.loop rec0) := HW.out.2.1.obj HB.out.2.2.2.1 (fun h => h)
    have HIb := Lib.hid (show OI Wb T5 F0 Wb from ⟨Ch.refl _ _, HB.out.1.2.keep HW.out.2.1 (fun h => h)⟩)
    have HTs := Lib.hid (show ∀ W', Below Wb.heap.size Wb W' → W'.rangeAt B 3 (tb f).toList from fun W' hb j v hj => by
      have hr := HW.out.2.2.new hb
      have hj8 : j < 8 := (List.getElem?_eq_some_iff.1 hj).1
      have := hr.cell (3 + j)
      rw [this, ← hj]
      revert j
      intro j hj hj8 _
      revert hj
      revert j
      refine lt8c ?_ ?_ ?_ ?_ ?_ ?_ ?_ ?_ <;> (intros; rfl))
    clear hWb hBB
    refine wpIn_rangeN hrec2 (gf := 95) (lb := #[.pointer (some ⟨B, 0, none⟩)]) rfl (enters_of Tryd.func95 (by kernel_rfl) rfl)
      (usesK f 8).length (usesA f) (fun _ => rfl) (fun _ j => j < B + 1)
      (fun j W' => OI Wb T5 (tbIn F0 i ((usesK f 8).take j)) W') (fun _ _ _ => False)
      (fun j => OI.foot HW.out.1 (by have := HBz.out.2; omega)) (fun _ _ => ⟨fun _ h => h.elim, fun _ _ h => h.elim⟩) (by rw [List.take_zero, tbIn_nil]; exact HIb.out)
      (fun j a' _ => a' = { tmps := #[.agg #[.int .i64 x.res, .slice (some ⟨S.t.b, S.t.o, none⟩) nT S.t.c, .slice S.m.sp nM S.m.c, .slice S.e.sp nE S.e.c], .int .u32 (w32 s), .pointer (some ⟨Z, 0, none⟩), undef, .pointer (some ⟨Z + 1, 0, none⟩), .pointer (some ⟨T5, 0, none⟩), .pointer (some ⟨b, 0, none⟩), .int .i64 ((usesK f 8).getD j 0 : Nat), .agg #[.int .i64 16, .int .i64 16, .int .i64 16, .int .i64 16, .int .i64 16, .int .i64 16, .int .i64 16, .int .i64 16], .int .u32 (w32 s), .pointer (some ⟨Z, 1, none⟩), .slice (some ⟨S.t.b, S.t.o, none⟩) nT S.t.c, .int .i64 nT, .int .u32 (w32 y), .func (.func 92) #[] #[.pointer (some ⟨T5 + 1, 0, none⟩)], .int .i64 (i : Nat), .pointer (some ⟨Z, 1, none⟩), .slice (some ⟨S.t.b, S.t.o, none⟩) nT S.t.c, .int .i64 (i : Nat), .pointer (some ⟨S.t.b, S.t.o + i * 11, none⟩), .agg #[.int .i64 a0, .int .i64 a1, .int .i64 a2, .int .i64 (f 0), .int .i64 (f 1), .int .i64 (f 2), .int .i64 (f 3), .int .i64 (f 4), .int .i64 (f 5), .int .i64 (f 6), .int .i64 (f 7)], .func (.func 95) #[] #[.pointer (some ⟨B, 0, none⟩)], .int .i64 ((usesK f 8).getD j 0 : Nat), .int .i64 (f ((usesK f 8).getD j 0)), undef, undef, undef, undef, undef, undef, undef, undef], defers := [] })
      (fun _ _ _ _ h _ => h) ?hit2 ?assign2 ?body2 ?done2 (fun _ _ _ _ h => h.elim)
    case hit2 =>
      intro J' Jx' W1 h1 h2 h3 h4 h5 h6 h7 h8
      exact uses_in _ B f _ J' Jx' W1 (HTs.out W1 h2) h7 h8
    case assign2 =>
      intro j W' K hi' hj hz2 hK
      have HK := Lib.hid hK
      have HI' := Lib.hid hi'
      have hu : usesA f j = #[.int .i64 ((usesK f 8).getD j 0 : Nat), .int .i64 (f ((usesK f 8).getD j 0))] := rfl
      rw [hu]
      obtain ⟨r, hr⟩ : ∃ r, (usesK f 8).getD j 0 = r := ⟨_, rfl⟩
      rw [hr] at HK ⊢
      clear hK hi' hu hr
      gi_wp2
      exact HK.out _ _ rfl (Ch.refl _ _) HI'.out (fun _ h => h)
    case body2 =>
      rintro j a' W' hI' hj rfl hz2
      obtain ⟨hr8, hrn, htk⟩ := usesK_get hj
      have c5 := (hI'.2.cell _).trans (tb_at _ _ hr8)
      rw [tbIn_out _ _ _ _ hrn] at c5
      have f5 := hI'.2.fr ((usesK f 8).getD j 0)
      have HT := Lib.hid (tbIn_snoc F0 i ((usesK f 8).take j) _ hrn)
      rw [← htk] at HT
      obtain ⟨r, hr0⟩ : ∃ r, (usesK f 8).getD j 0 = r := ⟨_, rfl⟩
      rw [hr0] at c5 f5 hr8 HT ⊢
      have t6 : W'.cell? ⟨b, 0, none⟩ = some (.int .i64 (i : Nat)) := ((HB.out.2.1.keep HW.out.2.1 (fun h => h)).keep hI'.1 (fun e => by have := HB.out.2.2.2.2.1; omega)).cell 0
      have HI' := Lib.hid hI'
      have hr9 : (r : Int) < 8 := by omega
      have HR8 := Lib.hid hr8
      obtain ⟨v, hv⟩ : ∃ v, F0 r = v := ⟨_, rfl⟩
      rw [hv] at c5 HT
      clear hI' hr0 hrn htk hr8 hv hj hz2 hrec2
      have hfin := Lib.hid (show ∀ u : Int, u = min v (i : Int) → Step (fun _ j => j < B + 1) W' (W'.drew.setCell ⟨T5, r, none⟩ (.int .i64 u)) ∧ OI Wb T5 (tbIn F0 i ((usesK f 8).take (j + 1))) (W'.drew.setCell ⟨T5, r, none⟩ (.int .i64 u)) from fun u hu => by
        refine ⟨⟨((Ch.refl _ _).drew).setCell _ _ (.inl (show T5 < B + 1 by have := HBz.out.2; omega)), fun j hj => .inl hj⟩, ?_⟩
        rw [HT.out, ← hu]
        exact OI.turn (W := W'.drew) ⟨HI'.out.1.drew, HI'.out.2⟩ r HR8.out u)
      by_cases hlt : (i : Int) < v
      · gi_wp2
        refine wpIn_region_still_tail0 7 (by kernel_rfl) (by kernel_rfl) (by kernel_rfl) (fun _ _ h => h) ?_
        simp only [List.take_succ_cons, List.take_zero, List.drop_succ_cons, List.drop_zero]
        repeat still_step
        try refine wpStill_nil ?_
        go_wp2
        exact hfin.out _ (by omega)
      · gi_wp2
        refine wpIn_region_still_tail0 7 (by kernel_rfl) (by kernel_rfl) (by kernel_rfl) (fun _ _ h => h) ?_
        simp only [List.take_succ_cons, List.take_zero, List.drop_succ_cons, List.drop_zero]
        repeat still_step
        try refine wpStill_nil ?_
        go_wp2
        exact hfin.out _ (by omega)
    case done2 =>
      intro W' hI' hz2
      rw [List.take_length] at hI'
      have c : Ch (fun j => j = T5) W W' := (HW.out.2.1.mono (fun _ _ h => h.elim)).trans hI'.1
      refine ⟨⟨c.mono fun j _ e => by subst e; omega, fun j hj => .inl hj⟩, ?_⟩
      show OI w6 T5 (cfK x L (k + 1)) W'
      rw [HB.out.2.2.2.2.2]
      exact ⟨HB.out.1.1.trans c, hI'.2⟩
  case done =>
    rintro W hI hD hnD hz
    rw [H6.out.2.1] at hD hnD hz
    rename_i Qp Kp hKp
    have HF := Lib.hid (And.intro hI hD)
    have HRes := Lib.hid (H6.out.2.2.2.1.keep hI.1 (fun e => by have := H6.out.2.2.2.2.2.2.1; omega))
    have HBw := Lib.hid (HBe.out W _ hI)
    clear hI hD hnD
    show Kp _ _
    refine hKp _ _ ?_
    refine wpIn_wide.2 ?_
    go_wp2_with (first
      | (refine wpList_load_row rfl 73 (.tmp 5) rfl T5 rfl 73 _ (0, 0) _ HF.out.1.2 Tryd.underlying73 rfl (tb_info _) ?_)
      | (refine wpList_store_row rfl 73 (.tmp 4) (.tmp 31) rfl (Z + 1) _ rfl rfl 73 _ HRes.out (tb_info _) rfl (tb_one _) ?_)
      | fail)
    rw [H6.out.2.1]
    have hzt := H6.out.2.2.2.2.2.2
    have hD := (ch_setRow W (Z + 1) (tb (cfK x L N))).obj HF.out.2 (by omega)
    have hc : Ch (fun j => j = T5 + 2) (W.setRow (Z + 1) (tb (cfK x L N))) ((W.setRow (Z + 1) (tb (cfK x L N))).putObj (T5 + 2) (.deferred none)) := (Ch.refl _ _).putObj _ _ rfl
    refine ⟨by simp, .inl ⟨_, _, rfl, run_takeDeferred hD, ?_⟩⟩
    refine ⟨.agg (tb (cfK x L N)), ?_, rfl, ?_⟩
    · exact results_cell_row rfl _ _ (Z + 1) 73 (tb (cfK x L N)) (0, 0) _ rfl (HRes.out.put.keep hc (fun e => by omega)) Tryd.underlying73 rfl (tb_info _)
    · have hz0 := HZ.out
      have b1 := below_row HBw.out (Nat.le_refl _) (show w.heap.size ≤ Z + 1 by omega) (tb (cfK x L N))
      exact b1.trans (hc.below (fun j hj e => by omega) b1.size)
end Go.Proofs.YtihomapbncnhaaaDoor
/- The contract of ref10's Has. -/
namespace Go.Proofs.YtihomapbncnhaaaDoor
open Go.RowKit

theorem odd_test (x : BitVec 32) (k : Nat) : ((w32 x / 2 ^ k).tmod 2 == 1) = x.getLsbD k := by
  have e1 : w32 x / 2 ^ k = ((x.toNat / 2 ^ k : Nat) : Int) := by unfold w32; simp
  have e2 : ((x.toNat / 2 ^ k : Nat) : Int).tmod 2 = ((x.toNat / 2 ^ k % 2 : Nat) : Int) := rfl
  rw [e1, e2, BitVec.getLsbD, Nat.testBit_eq_decide_div_mod_eq]
  have : x.toNat / 2 ^ k % 2 < 2 := Nat.mod_lt _ (by omega)
  rw [Bool.eq_iff_iff, beq_iff_eq, decide_eq_true_iff]
  omega
/-- Is a number in a set? -/
def hasB (x : BitVec 32) (i : Int) : Bool := decide (i ∈ ints (lst x 32))
theorem hasB_nat (x : BitVec 32) (k : Nat) (hk : k < 32) : hasB x (k : Int) = x.getLsbD k := by
  unfold hasB
  rw [Bool.eq_iff_iff, decide_eq_true_iff, mem_ints, Int.toNat_natCast, mem_lst]
  simp [hk]
theorem hasB_none (x : BitVec 32) (i : Int) (h : ¬ (0 ≤ i ∧ i < 32)) : hasB x i = false := by
  unfold hasB
  rw [decide_eq_false_iff_not, mem_ints, mem_lst]
  rintro ⟨h1, h2, -⟩
  exact h ⟨h1, by omega⟩
theorem has10_any (x : BitVec 32) (i : Int) (w : World) : Calls Tryd.prog 24 #[.int .u32 (w32 x), .int .i64 i] w fun e w' => e = .returned (.bool (hasB x i)) ∧ w = w' := by
  by_cases h : 0 ≤ i ∧ i < 32
  · obtain ⟨h0, h1⟩ := h
    obtain ⟨k, rfl⟩ := Int.eq_ofNat_of_zero_le h0
    have ht := odd_test x k
    rw [hasB_nat x k (by omega)]
    go_enter Tryd.func24, Tryd.ntmps24
    go_wp2
    go_ret
    exact ⟨rfl, rfl⟩
  · rw [hasB_none x i h]
    by_cases h0 : 0 ≤ i
    · have h1 : ¬ i < 32 := by omega
      clear h
      go_enter Tryd.func24, Tryd.ntmps24
      go_wp2
      go_ret
      exact ⟨rfl, rfl⟩
    · clear h
      go_enter Tryd.func24, Tryd.ntmps24
      go_wp2
      go_ret
      exact ⟨rfl, rfl⟩
end Go.Proofs.YtihomapbncnhaaaDoor
/- The contract of ref10's Great. -/
namespace Go.Proofs.YtihomapbncnhaaaDoor
open Go.RowKit

/-- More than is asked of any image? -/
def greatI (x : Img) : Bool := decide (40 < x.tasks.length) || decide (20 < x.modes.length) || decide (60 < x.edges.length) || (List.range x.modes.length).any fun k => decide (20 < (x.m k).qs.length)
theorem great_not {x : Img} (h : greatI x = false) : x.tasks.length ≤ 40 ∧ x.modes.length ≤ 20 ∧ x.edges.length ≤ 60 ∧ ∀ k, k < x.modes.length → (x.m k).qs.length ≤ 20 := by
  unfold greatI at h
  simp only [Bool.or_eq_false_iff, decide_eq_false_iff_not, List.any_eq_false, List.mem_range, decide_eq_true_iff] at h
  obtain ⟨⟨⟨h1, h2⟩, h3⟩, h4⟩ := h
  exact ⟨by omega, by omega, by omega, fun k hk => by have := h4 k hk; omega⟩
set_option maxHeartbeats 2000000 in
theorem great10_any {w : World} {V : Nat → Prop} {x : Img} {S : ImgS} (h : ImgAt w V x S) :
    Calls Tryd.prog 21 #[.agg #[.int .i64 x.res, .slice S.t.sp x.tasks.length S.t.c, .slice S.m.sp x.modes.length S.m.c, .slice S.e.sp x.edges.length S.e.c]] w fun e w' => e = .returned (.bool (greatI x)) ∧ Below w.heap.size w w' := by
  have HG := Lib.hid (show greatI x = (decide (40 < x.tasks.length) || decide (20 < x.modes.length) || decide (60 < x.edges.length) || (List.range x.modes.length).any fun k => decide (20 < (x.m k).qs.length)) from rfl)
  have HI := Lib.hid h
  obtain ⟨nT, hnT⟩ : ∃ n, x.tasks.length = n := ⟨_, rfl⟩
  obtain ⟨nM, hnM⟩ : ∃ n, x.modes.length = n := ⟨_, rfl⟩
  obtain ⟨nE, hnE⟩ : ∃ n, x.edges.length = n := ⟨_, rfl⟩
  have HN := Lib.hid hnM
  rw [hnT, hnM, hnE] at HG ⊢
  obtain ⟨W2, hW2⟩ : ∃ w2, w.alloc (.cells #[.int .i64 x.res, .slice S.t.sp nT S.t.c, .slice S.m.sp nM S.m.c, .slice S.e.sp nE S.e.c] 26) = w2 := ⟨_, rfl⟩
  have HZ := Lib.hid (show Below w.heap.size w W2 from by rw [← hW2]; exact (Below.refl _ _).alloc (Nat.le_refl _) _)
  have HZ2 := Lib.hid (show Below w.heap.size w (w.alloc (.cells #[.int .i64 x.res, .slice S.t.sp nT S.t.c, .slice S.m.sp nM S.m.c, .slice S.e.sp nE S.e.c] 26)) from (Below.refl _ _).alloc (Nat.le_refl _) _)
  obtain ⟨A, hA⟩ : ∃ A, A = w.heap.size := ⟨_, rfl⟩
  have HR := Lib.hid (show RowAt W2 A 26 #[.int .i64 x.res, .slice S.t.sp nT S.t.c, .slice S.m.sp nM S.m.c, .slice S.e.sp nE S.e.c] from by rw [← hW2, hA]; exact RowAt.mk _ _ _)
  clear h hnT hnM hnE
  by_cases g1 : 40 < nT
  · have g1' : (40 : Int) < (nT : Int) := by omega
    rw [decide_eq_true g1] at HG
    clear g1 hW2 hA
    go_enter Tryd.func21, Tryd.ntmps21
    go_wp2
    go_ret
    exact ⟨by rw [HG.out]; rfl, HZ2.out⟩
  have g1' : ¬ (40 : Int) < (nT : Int) := by omega
  rw [decide_eq_false g1] at HG
  by_cases g2 : 20 < nM
  · have g2' : (20 : Int) < (nM : Int) := by omega
    rw [decide_eq_true g2] at HG
    clear g1 g2 hW2 hA
    go_enter Tryd.func21, Tryd.ntmps21
    go_wp2
    go_ret
    exact ⟨by rw [HG.out]; rfl, HZ2.out⟩
  have g2' : ¬ (20 : Int) < (nM : Int) := by omega
  rw [decide_eq_false g2] at HG
  by_cases g3 : 60 < nE
  · have g3' : (60 : Int) < (nE : Int) := by omega
    rw [decide_eq_true g3] at HG
    clear g1 g2 g3 hW2 hA
    go_enter Tryd.func21, Tryd.ntmps21
    go_wp2
    go_ret
    exact ⟨by rw [HG.out]; rfl, HZ2.out⟩
  have g3' : ¬ (60 : Int) < (nE : Int) := by omega
  rw [decide_eq_false g3] at HG
  clear g1 g3
  go_enter Tryd.func21, Tryd.ntmps21
  go_upto_region 1 with fail
  try rw [hW2]
  rw [← hA]
  clear hW2 hA HZ2
  have c1 : W2.cell? ⟨A, 1, none⟩ = some (.slice S.t.sp nT S.t.c) := HR.out.cell 1
  have c2 : W2.cell? ⟨A, 2, none⟩ = some (.slice S.m.sp nM S.m.c) := HR.out.cell 2
  have c3 : W2.cell? ⟨A, 3, none⟩ = some (.slice S.e.sp nE S.e.c) := HR.out.cell 3
  go_wp2
  go_loopg [3] nM (fun g v wr => ∃ k : Nat, k + g = nM ∧ v = .int .i64 (k : Nat) ∧ Aside (W2 = wr ∧ ∀ j, j < k → ¬ 20 < (x.m j).qs.length))
  case atStart => exact ⟨0, by omega, rfl, rfl, fun j hj => absurd hj (Nat.not_lt_zero j)⟩
  case round =>
    obtain ⟨k, hkg, rfl, HQ⟩ := hrel
    obtain ⟨rfl, hq⟩ := HQ.out
    have HQ2 := Lib.hid hq
    clear HQ hq
    cases gk with
    | zero =>
      obtain rfl : k = nM := by omega
      go_wp2
      go_ret
      refine ⟨?_, HZ.out⟩
      rw [HG.out]
      have : ((List.range k).any fun k => decide (20 < (x.m k).qs.length)) = false := by
        rw [List.any_eq_false]
        intro j hj
        rw [List.mem_range] at hj
        simpa using HQ2.out j hj
      rw [this]; rfl
    | succ g1 =>
      have hk : k < nM := by omega
      have hkx : k < x.modes.length := by rw [HN.out]; exact hk
      obtain ⟨hsp, -, -⟩ := HI.out.sm.at_ (by omega)
      rw [hsp] at c2
      have q1 := ((HI.out.new HZ.out).md k hkx).2.1
      obtain ⟨n, hn⟩ : ∃ n, (x.m k).qs.length = n := ⟨_, rfl⟩
      rw [hn] at q1
      have HNn := Lib.hid hn
      have hk2 : (k : Int) < (nM : Int) := by omega
      have hk3 : (k : Int) ≤ 20 := by omega
      clear hn hsp hkx g2
      by_cases hb : 20 < n
      · have hb2 : (20 : Int) < (n : Int) := by omega
        have HB := Lib.hid hb
        clear hb
        go_wp2
        go_ret
        refine ⟨?_, HZ.out⟩
        rw [HG.out]
        have : ((List.range nM).any fun k => decide (20 < (x.m k).qs.length)) = true := by
          rw [List.any_eq_true]
          exact ⟨k, by rw [List.mem_range]; exact hk, by rw [HNn.out]; exact decide_eq_true HB.out⟩
        rw [this]; rfl
      · have hb2 : ¬ (20 : Int) < (n : Int) := by omega
        have HB := Lib.hid hb
        clear hb
        go_wp2
        go_roundg g1
        case measure => omega
        case rel =>
          refine ⟨k + 1, by omega, by go_num, rfl, fun j hj => ?_⟩
          rcases Nat.lt_or_ge j k with h1 | h1
          · exact HQ2.out j h1
          · obtain rfl : j = k := by omega
            rw [HNn.out]; exact HB.out
end Go.Proofs.YtihomapbncnhaaaDoor
/- Maths of ceilings; the contract of law15's Ceiling and of mask's Of. -/
namespace Go.Proofs.YtihomapbncnhaaaDoor
open Go.RowKit

/-- A task of the set that the image has uses a resource. -/
def usesR (x : Img) (s : BitVec 32) (r i : Nat) : Prop := i < 32 ∧ s.getLsbD i = true ∧ i < x.tasks.length ∧ 0 < lonF x i r
theorem tasksL_mem {x : Img} {s : BitVec 32} {i : Nat} : i ∈ tasksL x s ↔ i < 32 ∧ s.getLsbD i = true ∧ i < x.tasks.length := by
  unfold tasksL
  rw [mem_lst]
  constructor
  · rintro ⟨h1, h2⟩
    rw [btw_bit _ _ _ _ h1] at h2
    simp at h2
    exact ⟨h1, h2.1, by omega⟩
  · rintro ⟨h1, h2, h3⟩
    refine ⟨h1, ?_⟩
    rw [btw_bit _ _ _ _ h1]
    simp [h2]
    omega
/-- The least of some numbers, 16 at most. -/
structure Least (v : Int) (p : Nat → Prop) : Prop where
  le : v ≤ 16
  lo : ∀ i, p i → v ≤ (i : Int)
  at_ : v = 16 ∨ ∃ i, p i ∧ v = (i : Int)
theorem Least.uniq {v u : Int} {p : Nat → Prop} (h : Least v p) (g : Least u p) : v = u := by
  have a1 := h.le
  have a2 := g.le
  rcases h.at_ with h1 | ⟨i, hi, h1⟩ <;> rcases g.at_ with g1 | ⟨j, hj, g1⟩
  · omega
  · have := h.lo j hj; omega
  · have := g.lo i hi; omega
  · have := h.lo j hj; have := g.lo i hi; omega
theorem cfK_least (x : Img) (L : List Nat) (r : Nat) (hr : r < 8) : ∀ k, k ≤ L.length → Least (cfK x L k r) (fun i => i ∈ L.take k ∧ 0 < lonF x i r)
  | 0, _ => ⟨Int.le_refl _, fun i h => by simp at h, .inl rfl⟩
  | k + 1, hk => by
    have ih := cfK_least x L r hr k (by omega)
    have e : L.getD k 0 = L[k] := by rw [List.getD_eq_getElem?_getD, List.getElem?_eq_getElem (by omega)]; rfl
    have ht : L.take (k + 1) = L.take k ++ [L[k]] := List.take_succ_eq_append_getElem (by omega)
    have hc : cfK x L (k + 1) r = if r ∈ usesK (lonF x L[k]) 8 then min (cfK x L k r) ((L[k] : Nat) : Int) else cfK x L k r := by
      show tbIn (cfK x L k) (L.getD k 0) (usesK (lonF x (L.getD k 0)) 8) r = _
      rw [e]; rfl
    rw [hc, ht]
    by_cases hu : r ∈ usesK (lonF x L[k]) 8
    · rw [if_pos hu]
      have hp := (usesK_mem.1 hu).2
      refine ⟨by have := ih.le; omega, fun i hi => ?_, ?_⟩
      · rcases List.mem_append.1 hi.1 with h | h
        · have := ih.lo i ⟨h, hi.2⟩; omega
        · simp at h; subst h; omega
      · rcases Int.le_total (cfK x L k r) ((L[k] : Nat) : Int) with h | h
        · rw [Int.min_eq_left h]
          rcases ih.at_ with h1 | ⟨i, hi, h1⟩
          · exact .inl h1
          · exact .inr ⟨i, ⟨List.mem_append.2 (.inl hi.1), hi.2⟩, h1⟩
        · rw [Int.min_eq_right h]
          exact .inr ⟨L[k], ⟨List.mem_append.2 (.inr (by simp)), hp⟩, rfl⟩
    · rw [if_neg hu]
      have hp : ¬ 0 < lonF x L[k] r := fun h => hu (usesK_mem.2 ⟨hr, h⟩)
      refine ⟨ih.le, fun i hi => ?_, ?_⟩
      · rcases List.mem_append.1 hi.1 with h | h
        · exact ih.lo i ⟨h, hi.2⟩
        · simp at h; subst h; exact absurd hi.2 hp
      · rcases ih.at_ with h1 | ⟨i, hi, h1⟩
        · exact .inl h1
        · exact .inr ⟨i, ⟨List.mem_append.2 (.inl hi.1), hi.2⟩, h1⟩
theorem ceilF_least (x : Img) (s : BitVec 32) (r : Nat) (hr : r < 8) : Least (ceilF x s r) (usesR x s r) := by
  have h := cfK_least x (tasksL x s) r hr _ (Nat.le_refl _)
  rw [List.take_length] at h
  have e : ∀ i, (i ∈ tasksL x s ∧ 0 < lonF x i r) ↔ usesR x s r i := fun i => by rw [tasksL_mem]; unfold usesR; constructor <;> (rintro h; simp_all)
  exact ⟨h.le, fun i hi => h.lo i ((e i).2 hi), by
    rcases h.at_ with h1 | ⟨i, hi, h1⟩
    · exact .inl h1
    · exact .inr ⟨i, (e i).1 hi, h1⟩⟩
theorem ceilF_join (x : Img) (a b : BitVec 32) (r : Nat) (hr : r < 8) : min (ceilF x a r) (ceilF x b r) = ceilF x (a ||| b) r := by
  have h1 := ceilF_least x a r hr
  have h2 := ceilF_least x b r hr
  refine Least.uniq (p := usesR x (a ||| b) r) ⟨by have := h1.le; omega, fun i hi => ?_, ?_⟩ (ceilF_least x _ r hr)
  · obtain ⟨i1, i2, i3, i4⟩ := hi
    rw [BitVec.getLsbD_or] at i2
    rcases (Bool.or_eq_true _ _).mp i2 with h | h
    · have := h1.lo i ⟨i1, h, i3, i4⟩; omega
    · have := h2.lo i ⟨i1, h, i3, i4⟩; omega
  · rcases Int.le_total (ceilF x a r) (ceilF x b r) with h | h
    · rw [Int.min_eq_left h]
      rcases h1.at_ with h1 | ⟨i, hi, h1⟩
      · exact .inl h1
      · exact .inr ⟨i, ⟨hi.1, by rw [BitVec.getLsbD_or, hi.2.1]; rfl, hi.2.2.1, hi.2.2.2⟩, h1⟩
    · rw [Int.min_eq_right h]
      rcases h2.at_ with h1 | ⟨i, hi, h1⟩
      · exact .inl h1
      · exact .inr ⟨i, ⟨hi.1, by rw [BitVec.getLsbD_or, hi.2.1]; simp, hi.2.2.1, hi.2.2.2⟩, h1⟩
theorem ceilF_le (x : Img) (s : BitVec 32) (r : Nat) (hr : r < 8) : ceilF x s r ≤ 16 := (ceilF_least x s r hr).le
/-- None of the first so many tasks of the set uses a resource. -/
theorem ceilF_first (x : Img) (s : BitVec 32) (r : Nat) (hr : r < 8) (k : Nat) (hk : k < 16) (hn : ∀ j, j < k → ¬ (s.getLsbD j = true ∧ 0 < lonF x j r)) (h : s.getLsbD k = true) (ht : k < x.tasks.length) (h0 : 0 < lonF x k r) : ceilF x s r = (k : Int) :=
  Least.uniq (ceilF_least x s r hr) ⟨by omega, fun i hi => by
    by_cases e : i < k
    · exact absurd ⟨hi.2.1, hi.2.2.2⟩ (hn i e)
    · omega, .inr ⟨k, ⟨by omega, h, ht, h0⟩, rfl⟩⟩
theorem ceilF_none (x : Img) (s : BitVec 32) (r : Nat) (hr : r < 8) (hn : ∀ j, j < min x.tasks.length 16 → ¬ (s.getLsbD j = true ∧ 0 < lonF x j r)) : ceilF x s r = 16 :=
  Least.uniq (ceilF_least x s r hr) ⟨Int.le_refl _, fun i hi => by
    by_cases e : i < 16
    · exact absurd ⟨hi.2.1, hi.2.2.2⟩ (hn i (by have := hi.2.2.1; omega))
    · omega, .inl rfl⟩
end Go.Proofs.YtihomapbncnhaaaDoor
/- Plain lemmas of this prover's own: a loop over a function that collects what it goes through into a row that a variable names: what it owns, what it keeps. No statement about the program. -/
namespace Go.Proofs.YtihomapbncnhaaaDoor
open Go.RowKit

/-- What the collecting loop owns: all that was there before it, its variable, and the row that the variable names. -/
def FC (Oc : Nat) (W : World) (j : Nat) : Prop := j < Oc ∨ j = Oc ∨ ∃ v, W.cell? ⟨Oc, 0, none⟩ = some v ∧ v.ownBlock = some j
/-- k elements (of size cells each, of type e) are collected: they are rf k; m is how many elements that makes. -/
def IC (e : TypeId) (size : Nat) (rf : Nat → List Value) (w0 : World) (Oc : Nat) (k : Nat) (W : World) : Prop :=
  Below Oc w0 W ∧ ∃ v, W.cell? ⟨Oc, 0, none⟩ = some v ∧ W.frozen? ⟨Oc, 0, none⟩ = false ∧ W.ownsRow (Oc + 1) e size v k (rf k)
section
variable {e : TypeId} {size : Nat} {rf : Nat → List Value}
theorem IC.foot {w0 : World} {Oc : Nat} (hs : Oc ≤ w0.heap.size) (k : Nat) : Foot (FC Oc) (IC e size rf w0 Oc k) where
  lt := fun W ⟨h2, v, h3, _, h5⟩ j hj => by
    rcases hj with hj | rfl | ⟨v', hv, hj⟩
    · have := h2.size; omega
    · exact World.block_lt_of_cell? W _ h3
    · rw [h3] at hv; injection hv with hv; subst hv
      exact (h5.lt j hj).2
  keep := fun W W' ⟨h2, v, h3, h4, h5⟩ hc => by
    have nO : ¬ ¬ FC Oc W Oc := fun hn => hn (.inr (.inl rfl))
    have e3 : W'.cell? ⟨Oc, 0, none⟩ = some v := hc.cell h3 nO
    refine ⟨⟨h2.trans (Ch.below hc (fun j hj hn => hn (.inl hj)) (by have := h2.size; omega)), v, e3, (hc.frozenCell h3 nO).trans h4,
      own_same h5 fun g hg => hc.block g (h5.lt g hg).2 fun hn => hn (.inr (.inr ⟨v, h3, hg⟩))⟩, fun j hj => ?_⟩
    rcases hj with hj | hj | ⟨v', hv, hj⟩
    · exact .inl hj
    · exact .inr (.inl hj)
    · rw [e3] at hv; injection hv with hv; subst hv
      exact .inr (.inr ⟨v, h3, hj⟩)
theorem grow_cell {A w1 : World} {Oc : Nat} {v : Value} {n : Nat} {xs : List Value} {ob : Obj} (h3 : A.cell? ⟨Oc, 0, none⟩ = some v) (h4 : A.frozen? ⟨Oc, 0, none⟩ = false)
    (h5 : A.ownsRow (Oc + 1) e size v n xs) (hg : (A.alloc ob).grownBy w1 v.ownBlock) : w1.cell? ⟨Oc, 0, none⟩ = some v ∧ w1.frozen? ⟨Oc, 0, none⟩ = false := by
  have hcr : Ch (fun j => v.ownBlock = some j) A w1 := (((Ch.refl (fun _ => False) A).alloc ob).mono (fun _ _ h => h.elim)).trans (ch_grown hg)
  exact ⟨hcr.cell h3 fun hj => by have := own_ge h5 _ hj; simp only at this; omega, (hcr.frozenCell h3 fun hj => by have := own_ge h5 _ hj; simp only at this; omega).trans h4⟩
/-- A round's append: the row has grown, the variable names it. -/
theorem IC.grow {w0 A w1 : World} {Oc : Nat} {k : Nat} {v v' : Value} {ob : Obj} (h2 : Below Oc w0 A) (hs0 : Oc ≤ w0.heap.size) (h3 : A.cell? ⟨Oc, 0, none⟩ = some v) (h4 : A.frozen? ⟨Oc, 0, none⟩ = false)
    (h5 : A.ownsRow (Oc + 1) e size v k (rf k))
    (ho : w1.ownsRow (Oc + 1) e size v' (k + 1) (rf (k + 1))) (hg : (A.alloc ob).grownBy w1 v.ownBlock) (hat : v'.ownBlock = v.ownBlock ∨ v'.ownBlock = some (A.alloc ob).heap.size) :
    Step (FC Oc) A (w1.setCell ⟨Oc, 0, none⟩ v') ∧ IC e size rf w0 Oc (k + 1) (w1.setCell ⟨Oc, 0, none⟩ v') := by
  have hz := h2.size
  have hge : ∀ j, v.ownBlock = some j → Oc + 1 ≤ j := fun j hj => own_ge h5 j hj
  have hcr : Ch (fun j => v.ownBlock = some j) A w1 := (((Ch.refl (fun _ => False) A).alloc ob).mono (fun _ _ h => h.elim)).trans (ch_grown hg)
  have e3 : w1.cell? ⟨Oc, 0, none⟩ = some v := hcr.cell h3 fun hj => by have := hge _ hj; simp only at this; omega
  have e4 : w1.frozen? ⟨Oc, 0, none⟩ = false := (hcr.frozenCell h3 fun hj => by have := hge _ hj; simp only at this; omega).trans h4
  have e5 : (w1.setCell ⟨Oc, 0, none⟩ v').cell? ⟨Oc, 0, none⟩ = some v' := World.cell?_setCell_same _ _ _ e3
  have hcW : Ch (fun j => j = Oc ∨ v.ownBlock = some j) A (w1.setCell ⟨Oc, 0, none⟩ v') := (hcr.mono fun _ _ h => .inr h).setCell _ _ (.inl (.inl rfl))
  refine ⟨⟨hcW.mono fun j _ hj => ?_, fun j hj => ?_⟩, h2.trans (hcW.below (fun j hj hn => ?_) (by omega)), v', e5, ?_, ?_⟩
  · rcases hj with hj | hj
    · exact .inr (.inl hj)
    · exact .inr (.inr ⟨v, h3, hj⟩)
  · rcases hj with hj | hj | ⟨v'', hv, hj⟩
    · exact .inl (.inl hj)
    · exact .inl (.inr (.inl hj))
    · rw [e5] at hv; injection hv with hv; subst hv
      rcases hat with ha | ha
      · rw [ha] at hj; exact .inl (.inr (.inr ⟨v, h3, hj⟩))
      · rw [ha] at hj; injection hj with hj; subst hj
        right; simp
  · rcases hn with hn | hn
    · omega
    · have := hge _ hn; omega
  · rw [World.frozen?_setCell]; exact e4
  · exact own_same ho fun g hg' => Below.heap_setCell w1 ⟨Oc, 0, none⟩ v' g (by have := own_ge ho g hg'; show g ≠ Oc; omega)
end
end Go.Proofs.YtihomapbncnhaaaDoor
