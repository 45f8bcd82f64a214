/- Several texts in one: PI, Bl2. -/
import Derived.Test.YtchmdnmifpjfkaaDoorPk15
import Derived.Deep.RegionHeld3
import Derived.Test.YtchmdnmifpjfkaaDoorPk01
/- The chapter's window of a task. -/
namespace Go.Proofs.YtchmdnmifpjfkaaDoor
open Go.RowKit
attribute [local go_sem] Oper.semAt_some

def termO (x : Img) (fo : Nat → Int) (L : List Nat) (k : Nat) : List Value := [.int .i64 (x.t (L.getD k 0)).per, .int .i64 (x.t (L.getD k 0)).cost, .int .i64 (fo (L.getD k 0)), .int .i64 0]
theorem tmO_row (x : Img) (fo : Nat → Int) (L : List Nat) : rowsOf (termO x fo L) L.length = tmRow (tmO x fo L) := by
  unfold rowsOf tmRow tmO
  rw [List.map_map]
  congr 1
  apply List.ext_getElem
  · simp
  · intro i h1 h2
    simp at h1 h2
    simp [termO, tmOf2, tmC, h1]
theorem lst_below (Y : BitVec 32) {i : Nat} (hi : i ≤ 32) : lst (btw Y (-1) (i : Int)) 32 = lst Y i := by
  rw [lst_cut (y := btw Y (-1) (i : Int)) hi (fun j h1 h2 => by rw [btw_bit _ _ _ _ h2]; simp; omega)]
  exact lst_ext i fun j hj => by rw [btw_bit _ _ _ _ (by omega)]; simp; omega
set_option maxHeartbeats 8000000 in
set_option maxRecDepth 100000 in
theorem wnwin_any {w : World} {V : Nat → Prop} {x : Img} {S : ImgS} (h : ImgAt w V x S) (ht : Tab w) (hG : GoodI x) (o n s : BitVec 32) (fo fw fb : Nat → Int) (hfo : ∀ j, j < 16 → 0 ≤ fo j ∧ fo j ≤ 16384) (own : Int) (i : Nat) (hi : i < x.tasks.length) :
    Calls Tryd.prog 34 #[.agg (shl_ o n s fo fw fb).toArray, .agg #[.int .i64 x.res, .slice S.t.sp x.tasks.length S.t.c, .slice S.m.sp x.modes.length S.m.c, .slice S.e.sp x.edges.length S.e.c], .int .i64 own, .int .i64 (i : Nat)] w fun e w' => e = .returned (.int .i64 (tT (lookR own ((x.t i).dl + fo i) (tmO x fo (lst (o ||| n ||| s) i))))) ∧ Below w.heap.size w w' := by
  refine (callsIn_wide (n := 0)).1 ?_
  obtain ⟨i0, hi, hz0, hz1, hz2⟩ := info_parts (show (Tryd.prog.info? 118).map (fun i => (i.zero, i.size, i.bytes)) = some (some (.agg #[.int .i64 0, .int .i64 0, .int .i64 0, .int .i64 0]), 4, 32) from by kernel_rfl)
  have hii : i < x.tasks.length := by assumption
  have hp := ht.pos
  have HI := Lib.hid h
  have HTb := Lib.hid (show ∀ w', Below w.heap.size w w' → Tab w' from fun w' hb => ht.below hp hb)
  have H16 := hG.n16
  have Hdl := hG.dl i hii
  have Hfi := hfo i (by omega)
  have HBl := Lib.hid (show ∀ wx, _ from fun wx => below_any (o ||| n ||| s) (i : Int) wx)
  have HBo := Lib.hid (show ∀ wx, _ from fun wx => clsBoth_any o n s wx)
  have HLs := lst_below (o ||| n ||| s) (show i ≤ 32 by omega)
  obtain ⟨nT, hnT⟩ : ∃ n, x.tasks.length = n := ⟨_, rfl⟩
  obtain ⟨nM, hnM⟩ : ∃ n, x.modes.length = n := ⟨_, rfl⟩
  obtain ⟨nE, hnE⟩ : ∃ n, x.edges.length = n := ⟨_, rfl⟩
  rw [hnT] at H16 hii
  rw [hnT, hnM, hnE]
  have HN := Lib.hid hnT
  obtain ⟨Y, hY⟩ : ∃ y, o ||| n ||| s = y := ⟨_, rfl⟩
  rw [hY] at HBl HBo HLs ⊢
  obtain ⟨y, hy⟩ : ∃ y, btw Y (-1) (i : Int) = y := ⟨_, rfl⟩
  rw [hy] at HBl HLs
  obtain ⟨L, hL⟩ : ∃ L, lst y 32 = L := ⟨_, rfl⟩
  have HTL := Lib.hid hL
  rw [hL] at HLs
  rw [← HLs]
  have hLi : ∀ j, j ∈ L → j < i := fun j hj => by rw [HLs] at hj; exact lst_lt19 hj
  have HLt := Lib.hid (show ∀ k, k < L.length → L.getD k 0 < i from fun k hk => hLi _ (by
      rw [List.getD_eq_getElem?_getD, List.getElem?_eq_getElem hk]
      exact List.getElem_mem hk))
  have HL32 := Lib.hid (show L.length ≤ 16 by rw [HLs]; have := lst_len Y i; omega)
  have HT := Lib.hid (show (shl_ o n s fo fw fb).toArray[0]? = some (.int .u32 (w32 o)) ∧ (shl_ o n s fo fw fb).toArray[1]? = some (.int .u32 (w32 n)) ∧ (shl_ o n s fo fw fb).toArray[2]? = some (.int .u32 (w32 s)) ∧ ∀ k, k < 16 → (shl_ o n s fo fw fb).toArray[3 + k]? = some (.int .i64 (fo k)) from ⟨by simp [shl_], by simp [shl_], by simp [shl_], fun k hk => by rw [List.getElem?_toArray]; exact shl_o o n s fo fw fb k hk⟩)
  obtain ⟨T, hT⟩ : ∃ T, (shl_ o n s fo fw fb).toArray = T := ⟨_, rfl⟩
  rw [hT] at HT ⊢
  have HRow := tmO_row x fo L
  have HLen := tmO_len x fo L
  obtain ⟨LT, hLT⟩ : ∃ l, tmO x fo L = l := ⟨_, rfl⟩
  rw [hLT] at HRow HLen ⊢
  have HLe := Lib.hid (fun (wx : World) (V' : Nat → Prop) (S' : Src) (hx : TermsAt wx V' S' LT) => least_any hx (by have := HL32.out; omega) own ((x.t i).dl + fo i) (by omega))
  obtain ⟨dl, hdl⟩ : ∃ d, (x.t i).dl = d := ⟨_, rfl⟩
  obtain ⟨fi, hfi⟩ : ∃ d, fo i = d := ⟨_, rfl⟩
  rw [hdl] at HLe Hdl ⊢
  rw [hfi] at HLe Hfi ⊢
  obtain ⟨R, hR⟩ : ∃ r, lookR own (dl + fi) LT = r := ⟨_, rfl⟩
  rw [hR] at HLe ⊢
  have HDl := Lib.hid hdl
  have HFi := Lib.hid hfi
  clear hdl hfi hR
  obtain ⟨Z, hZ⟩ : ∃ Z, Z = w.heap.size := ⟨_, rfl⟩
  have HZ := Lib.hid hZ
  obtain ⟨N, hN⟩ : ∃ N, L.length = N := ⟨_, rfl⟩
  rw [hN] at HLt HL32 HRow HLen
  have HNN := Lib.hid hN
  obtain ⟨rf, hrf⟩ : ∃ rf, rowsOf (termO x fo L) = rf := ⟨_, rfl⟩
  have HRf := Lib.hid (fun k => show rf (k + 1) = rf k ++ termO x fo L k by rw [← hrf]; exact rowsOf_snoc _ k)
  have HR0 := Lib.hid (show rf 0 = [] by rw [← hrf]; rfl)
  rw [hrf] at HRow
  have HRw := Lib.hid (And.intro HRow HLen)
  clear hLi h ht hp hnT hnM hnE hy hY hL hN hT hLT hrf HLs HRow HLen hG hfo
  have r0 := row_keep (row_keep (RowAt.mk w 36 T) (.cells #[.int .i64 x.res, .slice S.t.sp nT S.t.c, .slice S.m.sp nM S.m.c, .slice S.e.sp nE S.e.c] 26)) (.cells #[.slice none 0 0] 117)
  have c0 := (r0.cell 0).trans HT.out.1
  have c1 := (r0.cell 1).trans HT.out.2.1
  have c2 := (r0.cell 2).trans HT.out.2.2.1
  have HR0w := Lib.hid r0
  clear r0
  refine callsIn_of_wp_marks Tryd.func34 rfl trivial ?_ rfl
  simp only [Tryd.ntmps34, List.size_toArray, List.length_cons, List.length_nil, Nat.reduceAdd, Nat.reduceSub, Array.replicate_succ, Array.replicate_zero, List.push_toArray, List.append_toArray, List.nil_append, List.cons_append]
  gi_wp2_with (first
    | (refine ⟨trivial, rfl, ?_⟩; gi_at_call 33; refine (callsIn_wide.2 (HBo.out _)).mono ?_; rintro e w1 ⟨rfl, b1⟩; have H1 := Lib.hid b1; clear b1 c0 c1 c2)
    | (refine ⟨trivial, rfl, ?_⟩; gi_at_call 61; refine (callsIn_wide.2 (HBl.out _)).mono ?_; rintro e w' ⟨rfl, rfl⟩)
    | (refine ⟨trivial, rfl, ?_⟩; gi_at_call 53; refine (callsIn_wide.2 (All_any _ _)).mono ?_; rintro e w' ⟨rfl, rfl⟩)
    | fail)
  obtain ⟨w2, hw2⟩ : ∃ w2, (w.alloc (.cells T 36)).alloc (.cells #[.int .i64 x.res, .slice S.t.sp nT S.t.c, .slice S.m.sp nM S.m.c, .slice S.e.sp nE S.e.c] 26) = w2 := ⟨_, rfl⟩
  have hw2' : (w.alloc (.cells T 36)).alloc (.cells #[.int .i64 x.res, .slice S.t.sp nT S.t.c, .slice S.m.sp nM S.m.c, .slice S.e.sp nE S.e.c] 26) = w2 := hw2
  have z2 : w2.heap.size = Z + 2 := by rw [← hw2, hZ]; simp
  have b2 : Below w.heap.size w w2 := by rw [← hw2]; exact ((Below.refl _ w).alloc (Nat.le_refl _) _).alloc (by simp) _
  have rs : RowAt w2 Z 36 T := by rw [← hw2, hZ]; exact row_keep (RowAt.mk _ _ _) _
  have ri : RowAt w2 (Z + 1) 26 #[.int .i64 x.res, .slice S.t.sp nT S.t.c, .slice S.m.sp nM S.m.c, .slice S.e.sp nE S.e.c] := by rw [← hw2, hZ]; exact row_next (w.alloc (.cells T 36)) (w.heap.size + 1) (by simp) _ _
  have h1 := H1.out
  rw [hw2] at h1
  have b1 : Below w2.heap.size w2 w1 := alloc_then h1 (Nat.le_refl _)
  have o1 : RowAt w1 (Z + 2) 117 #[.slice none 0 0] := by rw [← z2]; exact (RowAt.mk w2 117 _).new h1
  obtain ⟨B, hB⟩ : ∃ B, B = w1.heap.size := ⟨_, rfl⟩
  have hBz : Z + 3 ≤ B := by have := h1.size; rw [World.size_alloc] at this; omega
  have hZ1 : w.heap.size + 1 = Z + 1 := by rw [hZ]
  have hZ2 : w.heap.size + 1 + 1 = Z + 2 := by rw [hZ]
  rw [← hB, hZ2, hZ1, ← hZ]
  generalize hw3 : World.alloc w1 _ = w3
  have b3 : Below w2.heap.size w2 w3 := by rw [← hw3]; exact below_alloc b1 (Nat.le_refl _) _
  have z3 : w3.heap.size = B + 1 := by rw [← hw3, hB]; simp
  have o3 : RowAt w3 (Z + 2) 117 #[.slice none 0 0] := by rw [← hw3]; exact row_keep o1 _
  have s3 : w3.cell? ⟨B, 0, none⟩ = some (.int .u32 (w32 y)) := by rw [← hw3]; exact (row_next w1 B hB.symm _ _).cell 0
  have H3 := Lib.hid (And.intro z2 (And.intro b2 (And.intro rs (And.intro ri (And.intro b3 (And.intro z3 (And.intro hBz s3)))))))
  have HI0 := Lib.hid (show IC 118 4 rf w2 (Z + 2) 0 w3 from ⟨by rw [← z2]; exact b3, _, o3.cell 0, o3.fr 0, by rw [HR0.out]; exact World.ownsRow_nil _ _ _ _⟩)
  have HBe := Lib.hid (show ∀ (k : Nat) (W' : World), IC 118 4 rf w2 (Z + 2) k W' → Below w.heap.size w W' from fun k W' h => b2.trans (h.1.mono (by rw [← hZ]; omega)))
  have HS1 := Lib.hid (show Z + 2 ≤ w2.heap.size by omega)
  clear hw2 hw2' z2 b2 rs ri h1 b1 o1 hB hBz hZ1 hZ2 hw3 b3 z3 o3 s3 HBl HBo hZ H1 HR0w
  refine wpIn_rangeF3 (gf := 80) (lb := #[.pointer (some ⟨B, 0, none⟩)]) rfl (enters_of Tryd.func80 (by kernel_rfl) rfl)
    N (fun k => #[.int .i64 (nth (ints L) k)]) (fun _ => rfl) (FC (Z + 2))
    (fun k W => IC 118 4 rf w2 (Z + 2) k W) (fun _ _ _ => False)
    (fun k => IC.foot HS1.out k) (fun _ _ => ⟨fun _ h => h.elim, fun _ _ h => h.elim⟩) HI0.out
    (fun k a' W' => a' = { tmps := #[.agg T, .agg #[.int .i64 x.res, .slice S.t.sp nT S.t.c, .slice S.m.sp nM S.m.c, .slice S.e.sp nE S.e.c], .int .i64 own, .int .i64 (i : Nat), .pointer (some ⟨Z, 0, none⟩), .pointer (some ⟨Z + 1, 0, none⟩), undef, undef, .int .i64 0, .pointer (some ⟨Z + 2, 0, none⟩), .int .i64 (nth (ints L) k), undef, undef, .pointer (some ⟨Z, 0, none⟩), .agg #[.int .u32 (w32 o), .int .u32 (w32 n), .int .u32 (w32 s)], .int .u32 (w32 Y), .int .i64 (i : Nat), .int .u32 (w32 y), .func (.func 80) #[] #[.pointer (some ⟨B, 0, none⟩)], .int .i64 (nth (ints L) k), undef, undef, undef, undef, undef, undef, undef, undef, undef, undef, undef, undef, undef, undef, undef, undef, undef, undef, undef, undef, undef, undef, undef, undef, undef, undef, undef, undef, undef, undef, undef], defers := [] })
    (fun _ _ _ _ h _ => h) ?hit ?assign ?body ?done (fun _ _ _ _ h => h.elim)
  case hit =>
    intro J' Jx' W1 h1 h2 h3 h4 h5 h6 h7 h8
    rw [← HTL.out] at h7
    have hN2 : N = (lst y 32).length := by rw [← HNN.out, HTL.out]
    rw [hN2] at h7 ⊢
    exact all_in _ B y _ J' Jx' W1 (fun k W' hJ => HTb.out W' (HBe.out _ W' (h3 k W' hJ).1)) ((h2.cell (p := ⟨B, 0, none⟩) (show B < w3.heap.size by rw [H3.out.2.2.2.2.2.1]; omega)).trans H3.out.2.2.2.2.2.2.2) h7 h8
  case assign =>
    intro k W K hi' hk hz hK
    rw [H3.out.2.2.2.2.2.1] at hz
    have HK := Lib.hid hK
    have HKI := Lib.hid hi'
    clear hK hi'
    gi_wp2
    exact HK.out _ _ rfl (Ch.refl _ _) HKI.out (fun _ h => h)
  case body =>
    rintro k a' W hI hk rfl hz ⟨rec0, hrec⟩ hnl
    rw [H3.out.2.2.2.2.2.1] at hz hrec hnl ⊢
    have hkL : k < L.length := by rw [HNN.out]; exact hk
    have hil := HLt.out k hk
    have hpt := HRf.out k
    unfold termO at hpt
    rw [nth_ints hkL]
    have HBW := Lib.hid (HBe.out k W hI)
    obtain ⟨q, hq'⟩ : ∃ i, L.getD k 0 = i := ⟨_, rfl⟩
    rw [hq'] at hil hpt ⊢
    have hqT : q < nT := by omega
    have HIW := Lib.hid (HI.out.new HBW.out)
    obtain ⟨hcs, h8⟩ := HIW.out.tk q (by rw [HN.out]; exact hqT)
    obtain ⟨hsp, -, -⟩ := HIW.out.st.at_ (by rw [HN.out]; omega)
    have q0 : W.cell? ⟨S.t.b, S.t.o + q * 11, none⟩ = some (.int .i64 (x.t q).per) := hcs 0 _ rfl
    have q1 : W.cell? ⟨S.t.b, S.t.o + q * 11 + 1, none⟩ = some (.int .i64 (x.t q).dl) := hcs 1 _ rfl
    have q2 : W.cell? ⟨S.t.b, S.t.o + q * 11 + 2, none⟩ = some (.int .i64 (x.t q).cost) := hcs 2 _ rfl
    have q3 : W.cell? ⟨S.t.b, S.t.o + q * 11 + 3, none⟩ = some (.int .i64 (lonF x q 0)) := hcs 3 _ (lon_at h8 0 (by omega))
    have q4 : W.cell? ⟨S.t.b, S.t.o + q * 11 + 4, none⟩ = some (.int .i64 (lonF x q 1)) := hcs 4 _ (lon_at h8 1 (by omega))
    have q5 : W.cell? ⟨S.t.b, S.t.o + q * 11 + 5, none⟩ = some (.int .i64 (lonF x q 2)) := hcs 5 _ (lon_at h8 2 (by omega))
    have q6 : W.cell? ⟨S.t.b, S.t.o + q * 11 + 6, none⟩ = some (.int .i64 (lonF x q 3)) := hcs 6 _ (lon_at h8 3 (by omega))
    have q7 : W.cell? ⟨S.t.b, S.t.o + q * 11 + 7, none⟩ = some (.int .i64 (lonF x q 4)) := hcs 7 _ (lon_at h8 4 (by omega))
    have q8 : W.cell? ⟨S.t.b, S.t.o + q * 11 + 8, none⟩ = some (.int .i64 (lonF x q 5)) := hcs 8 _ (lon_at h8 5 (by omega))
    have q9 : W.cell? ⟨S.t.b, S.t.o + q * 11 + 9, none⟩ = some (.int .i64 (lonF x q 6)) := hcs 9 _ (lon_at h8 6 (by omega))
    have q10 : W.cell? ⟨S.t.b, S.t.o + q * 11 + 10, none⟩ = some (.int .i64 (lonF x q 7)) := hcs 10 _ (lon_at h8 7 (by omega))
    obtain ⟨f, hf⟩ : ∃ f, lonF x q = f := ⟨_, rfl⟩
    rw [hf] at q3 q4 q5 q6 q7 q8 q9 q10
    obtain ⟨a0, ha0⟩ : ∃ a, (x.t q).per = a := ⟨_, rfl⟩
    obtain ⟨a1, ha1⟩ : ∃ a, (x.t q).dl = a := ⟨_, rfl⟩
    obtain ⟨a2, ha2⟩ : ∃ a, (x.t q).cost = a := ⟨_, rfl⟩
    rw [ha0] at q0 hpt
    rw [ha1] at q1
    rw [ha2] at q2 hpt
    have z1 : W.cell? ⟨Z + 1, 1, none⟩ = some (.slice S.t.sp nT S.t.c) := (H3.out.2.2.2.1.new (by rw [H3.out.1]; exact hI.1)).cell 1
    have z0 : W.cell? ⟨Z, 3 + q, none⟩ = some (.int .i64 (fo q)) := ((H3.out.2.2.1.new (by rw [H3.out.1]; exact hI.1)).cell (3 + q)).trans (HT.out.2.2.2 q (by omega))
    obtain ⟨a3, ha3⟩ : ∃ a, fo q = a := ⟨_, rfl⟩
    rw [ha3] at z0 hpt
    rw [hsp] at z1 ⊢
    obtain ⟨h2, v, h3, h4, h5⟩ := hI
    obtain ⟨sp', cap, rfl⟩ := own_val h5
    have H5 := Lib.hid h5
    have H1 := Lib.hid h2
    have HP := Lib.hid hpt
    have hi2 : (q : Int) < (nT : Int) := by omega
    have hq16 : (q : Int) < 16 := by omega
    clear h2 h5 hpt hcs h8 hf ha0 ha1 ha2 ha3 hq' HIW hsp hkL hrec hnl
    gi_wp2
    have HW := Lib.hid (show S.t.b < Z + 3 from by
      have h0 := (HI.out.tk q (by rw [HN.out]; omega)).1 0 _ rfl
      have h1 := World.block_lt_of_cell? w _ h0
      rw [HZ.out]; simp only at h1; omega)
    have HO := Lib.hid (show ∀ w', Ch (fun j => Z + 3 ≤ j) W w' → w'.cell? ⟨Z + 2, 0, none⟩ = some (.slice sp' k cap) from fun w' h => h.cell h3 (by simp))
    have HO2 := Lib.hid (show ∀ w', Ch (fun j => Z + 3 ≤ j) W w' → w'.cell? ⟨Z + 1, 1, none⟩ = some (.slice (some ⟨S.t.b, S.t.o, none⟩) nT S.t.c) from fun w' h => h.cell z1 (by simp))
    have HO3 := Lib.hid (show ∀ w', Ch (fun j => Z + 3 ≤ j) W w' → w'.cell? ⟨Z, 3 + q, none⟩ = some (.int .i64 a3) from fun w' h => h.cell z0 (by simp))
    have HO5 := Lib.hid (show ∀ w', Ch (fun j => Z + 3 ≤ j) W w' → w'.cell? ⟨S.t.b, S.t.o + q * 11, none⟩ = some (.int .i64 a0) ∧ w'.cell? ⟨S.t.b, S.t.o + q * 11 + 1, none⟩ = some (.int .i64 a1) ∧ w'.cell? ⟨S.t.b, S.t.o + q * 11 + 2, none⟩ = some (.int .i64 a2) ∧ w'.cell? ⟨S.t.b, S.t.o + q * 11 + 3, none⟩ = some (.int .i64 (f 0)) ∧ w'.cell? ⟨S.t.b, S.t.o + q * 11 + 4, none⟩ = some (.int .i64 (f 1)) ∧ w'.cell? ⟨S.t.b, S.t.o + q * 11 + 5, none⟩ = some (.int .i64 (f 2)) ∧ w'.cell? ⟨S.t.b, S.t.o + q * 11 + 6, none⟩ = some (.int .i64 (f 3)) ∧ w'.cell? ⟨S.t.b, S.t.o + q * 11 + 7, none⟩ = some (.int .i64 (f 4)) ∧ w'.cell? ⟨S.t.b, S.t.o + q * 11 + 8, none⟩ = some (.int .i64 (f 5)) ∧ w'.cell? ⟨S.t.b, S.t.o + q * 11 + 9, none⟩ = some (.int .i64 (f 6)) ∧ w'.cell? ⟨S.t.b, S.t.o + q * 11 + 10, none⟩ = some (.int .i64 (f 7)) from fun w' h => by
      have hT : ¬ (Z + 3 ≤ S.t.b) := by have := HW.out; omega
      exact ⟨h.cell q0 hT, h.cell q1 hT, h.cell q2 hT, h.cell q3 hT, h.cell q4 hT, h.cell q5 hT, h.cell q6 hT, h.cell q7 hT, h.cell q8 hT, h.cell q9 hT, h.cell q10 hT⟩)
    have H34 := Lib.hid (And.intro h3 h4)
    clear h3 h4 q0 q1 q2 q3 q4 q5 q6 q7 q8 q9 q10 z1 z0
    refine wpIn_region_g0 (fun w' => Ch (fun j => Z + 3 ≤ j) W w') 13 (by kernel_rfl) (by kernel_rfl) (fun _ _ h => h) ((Ch.refl _ W).drew) (fun hS => ?_)
    refine wpAnyG_take (i := 0) (oi := { dst := some 20, op := .load 117 (.tmp 9), type := 117, pos := "window.go:68", after := #[], guard := none }) (v := ?_) rfl (by kernel_rfl) (by kernel_rfl) (by kernel_rfl) (by kernel_rfl) (fun _ _ _ h => h) (Or.inl ⟨by rfl, ?_⟩) hS ?_
    rotate_left 1
    · intro w hw; obtain hs := hw; have k0 := HO.out _ hw; go_simp; try (with_reducible rfl)
    simp only [Act.put, List.setIfInBounds_toArray, List.set_cons_zero, List.set_cons_succ]
    refine wpAnyG_take (i := 1) (oi := { dst := some 21, op := .fieldAddr 26 (.tmp 5) 1, type := 0, pos := "window.go:68", after := #[], guard := none }) (v := ?_) rfl (by kernel_rfl) (by kernel_rfl) (by kernel_rfl) (by kernel_rfl) (fun _ _ _ h => h) (Or.inl ⟨by rfl, ?_⟩) hS ?_
    rotate_left 1
    · intro w hw; obtain hs := hw; go_simp; try (with_reducible rfl)
    simp only [Act.put, List.setIfInBounds_toArray, List.set_cons_zero, List.set_cons_succ]
    refine wpAnyG_take (i := 2) (oi := { dst := some 22, op := .load 22 (.tmp 21), type := 22, pos := "window.go:68", after := #[{ on := 1, ground := .data }], guard := none }) (v := ?_) rfl (by kernel_rfl) (by kernel_rfl) (by kernel_rfl) (by kernel_rfl) (fun _ _ _ h => h) (Or.inl ⟨by rfl, ?_⟩) hS ?_
    rotate_left 1
    · intro w hw; obtain hs := hw; have k0 := HO2.out _ hw; go_simp; try (with_reducible rfl)
    simp only [Act.put, List.setIfInBounds_toArray, List.set_cons_zero, List.set_cons_succ]
    refine wpAnyG_take (i := 3) (oi := { dst := some 23, op := .move (.tmp 10), type := 3, pos := "window.go:68", after := #[], guard := none }) (v := ?_) rfl (by kernel_rfl) (by kernel_rfl) (by kernel_rfl) (by kernel_rfl) (fun _ _ _ h => h) (Or.inl ⟨by rfl, ?_⟩) hS ?_
    rotate_left 1
    · intro w hw; obtain hs := hw; go_simp; try (with_reducible rfl)
    simp only [Act.put, List.setIfInBounds_toArray, List.set_cons_zero, List.set_cons_succ]
    refine wpAnyG_take (i := 4) (oi := { dst := some 24, op := .indexAddr 22 (.tmp 22) (.tmp 23), type := 0, pos := "window.go:68", after := #[{ on := 2, ground := .data }, { on := 3, ground := .data }], guard := none }) (v := ?_) rfl (by kernel_rfl) (by kernel_rfl) (by kernel_rfl) (by kernel_rfl) (fun _ _ _ h => h) (Or.inl ⟨by rfl, ?_⟩) hS ?_
    rotate_left 1
    · intro w hw; obtain hs := hw; go_simp; try (with_reducible rfl)
    simp only [Act.put, List.setIfInBounds_toArray, List.set_cons_zero, List.set_cons_succ]
    refine wpAnyG_take (i := 5) (oi := { dst := some 25, op := .load 70 (.tmp 24), type := 70, pos := "window.go:68", after := #[{ on := 4, ground := .data }], guard := none }) (v := ?_) rfl (by kernel_rfl) (by kernel_rfl) (by kernel_rfl) (by kernel_rfl) (fun _ _ _ h => h) (Or.inl ⟨by rfl, ?_⟩) hS ?_
    rotate_left 1
    · intro w hw; obtain hs := hw; obtain ⟨k0, k1, k2, k3, k4, k5, k6, k7, k8, k9, k10⟩ := HO5.out _ hw; go_simp; try (with_reducible rfl)
    simp only [Act.put, List.setIfInBounds_toArray, List.set_cons_zero, List.set_cons_succ]
    refine wpAnyG_take (i := 6) (oi := { dst := some 26, op := .move (.tmp 10), type := 3, pos := "window.go:68", after := #[], guard := none }) (v := ?_) rfl (by kernel_rfl) (by kernel_rfl) (by kernel_rfl) (by kernel_rfl) (fun _ _ _ h => h) (Or.inl ⟨by rfl, ?_⟩) hS ?_
    rotate_left 1
    · intro w hw; obtain hs := hw; go_simp; try (with_reducible rfl)
    simp only [Act.put, List.setIfInBounds_toArray, List.set_cons_zero, List.set_cons_succ]
    refine wpAnyG_take (i := 7) (oi := { dst := some 27, op := .fieldAddr 36 (.tmp 4) 1, type := 0, pos := "window.go:68", after := #[], guard := none }) (v := ?_) rfl (by kernel_rfl) (by kernel_rfl) (by kernel_rfl) (by kernel_rfl) (fun _ _ _ h => h) (Or.inl ⟨by rfl, ?_⟩) hS ?_
    rotate_left 1
    · intro w hw; obtain hs := hw; go_simp; try (with_reducible rfl)
    simp only [Act.put, List.setIfInBounds_toArray, List.set_cons_zero, List.set_cons_succ]
    refine wpAnyG_take (i := 8) (oi := { dst := some 28, op := .indexAddr 34 (.tmp 27) (.tmp 26), type := 0, pos := "window.go:68", after := #[{ on := 7, ground := .data }, { on := 6, ground := .data }], guard := none }) (v := ?_) rfl (by kernel_rfl) (by kernel_rfl) (by kernel_rfl) (by kernel_rfl) (fun _ _ _ h => h) (Or.inl ⟨by rfl, ?_⟩) hS ?_
    rotate_left 1
    · intro w hw; obtain hs := hw; go_simp; try (with_reducible rfl)
    simp only [Act.put, List.setIfInBounds_toArray, List.set_cons_zero, List.set_cons_succ]
    refine wpAnyG_take (i := 9) (oi := { dst := some 29, op := .load 3 (.tmp 28), type := 3, pos := "window.go:68", after := #[{ on := 8, ground := .data }], guard := none }) (v := ?_) rfl (by kernel_rfl) (by kernel_rfl) (by kernel_rfl) (by kernel_rfl) (fun _ _ _ h => h) (Or.inl ⟨by rfl, ?_⟩) hS ?_
    rotate_left 1
    · intro w hw; obtain hs := hw; have k0 := HO3.out _ hw; go_simp; try (with_reducible rfl)
    simp only [Act.put, List.setIfInBounds_toArray, List.set_cons_zero, List.set_cons_succ]
    refine wpAnyG_ready (rs := [10]) (by kernel_rfl) (by simp) (AllReadyG.cons (o := { dst := some 30, op := .call { callee := .value (.func 63), args := #[.tmp 25, .tmp 29], argTypes := #[70, 3] }, type := 118, pos := "window.go:68", after := #[{ on := 5, ground := .data }, { on := 9, ground := .data }], guard := none }) rfl (fun K hK => ?_) AllReadyG.nil)
    go_simp
    go_at_call 63
    refine (dOf_any a0 a1 a2 f a3 _).mono ?_
    rintro e W2 ⟨rfl, hb2⟩
    have H2 := Lib.hid (terms_same H34.out.1 H34.out.2 H5.out H1.out HS1.out hb2)
    have H6 := Lib.hid (show Ch (fun j => Z + 3 ≤ j) W W2 from ((Ch.refl _ W).drew).trans (Ch.new hb2))
    clear hb2
    try dsimp only
    refine hK.out _ _ H6.out (fun hHeld => ?_)
    clear hK K
    try simp only [Act.put, List.setIfInBounds_toArray, List.set_cons_zero, List.set_cons_succ]
    refine wpAnyG_ready (rs := [11]) (by kernel_rfl) (by simp) (AllReadyG.cons (o := { dst := some 31, op := .buildSlice 117 1 #[(0, .tmp 30)], type := 117, pos := "window.go:68", after := #[{ on := 10, ground := .data }], guard := none }) rfl (fun K hK => ?_) AllReadyG.nil)
    go_simp
    refine hK.out _ _ (H6.out.alloc _) (fun hHeld => ?_)
    clear hK K
    try simp only [Act.put, List.setIfInBounds_toArray, List.set_cons_zero, List.set_cons_succ]
    refine wpAnyG_ready (rs := [12]) (by kernel_rfl) (by simp) (AllReadyG.cons (o := { dst := some 32, op := .call { callee := .builtin .append, args := #[.tmp 20, .tmp 31], argTypes := #[117, 117] }, type := 117, pos := "window.go:68", after := #[{ on := 0, ground := .data }, { on := 11, ground := .data }, { on := 10, ground := .chain }], guard := none }) rfl (fun K hK => ?_) AllReadyG.nil)
    rw [if_pos (by rfl)]
    refine wp_append_vary (.tmp 20) (.tmp 31) 117 (by rfl) (Z + 2 + 1) 118 i0 (.agg #[.int .i64 0, .int .i64 0, .int .i64 0, .int .i64 0]) 4 32 Tryd.underlying117 hi hz0 hz1 hz2 rfl (by decide) (.slice sp' k cap) k _ (by rfl) (H2.out.2.2.2.1.alloc _) (some ⟨W2.heap.size, 0, none⟩) 1 1 [.int .i64 a0, .int .i64 a2, .int .i64 a3, .int .i64 0] (by rfl) rfl (fun h => nomatch h) (fun ad h => by obtain rfl := Option.some.inj h; exact four_new _ _ _ _ _ _) (by simp [Value.oneCell']) (by have := HL32.out; unfold maxLen; omega) (by have := HL32.out; omega) (by have := H2.out.2.2.2.2; have := H2.out.1.1.size; simp; omega) ?_
    intro v' w4 hown' hgrow hat
    obtain ⟨sp2, cap', rfl⟩ := own_val hown'
    have HG := Lib.hid (IC.grow (rf := rf) H2.out.2.1 HS1.out H2.out.2.2.1.1 H2.out.2.2.1.2 H2.out.2.2.2.1 (by rw [HP.out]; exact hown') hgrow hat)
    have gA : w4.cell? ⟨Z + 2, 0, none⟩ = some (.slice sp' k cap) := (grow_cell H2.out.2.2.1.1 H2.out.2.2.1.2 H2.out.2.2.2.1 hgrow).1
    have gB : w4.frozen? ⟨Z + 2, 0, none⟩ = false := (grow_cell H2.out.2.2.1.1 H2.out.2.2.1.2 H2.out.2.2.2.1 hgrow).2
    have H8 := Lib.hid (show Ch (fun j => Z + 3 ≤ j) W w4 from (H6.out.alloc _).trans ((ch_grown hgrow).mono fun j _ hj => by have := own_ge H2.out.2.2.2.1 j hj; omega))
    clear hown' hgrow hat
    refine hK.out _ _ H8.out (fun hHeld => ?_)
    clear hK K
    try simp only [Act.put, List.setIfInBounds_toArray, List.set_cons_zero, List.set_cons_succ]
    refine wpAnyG_ready (rs := [13]) (by kernel_rfl) (by simp) (AllReadyG.last (o := { dst := none, op := .store 117 (.tmp 9) (.tmp 32), type := 0, pos := "window.go:68", after := #[{ on := 12, ground := .data }, { on := 12, ground := .chain }, { on := 0, ground := .phase }, { on := 1, ground := .phase }, { on := 2, ground := .phase }, { on := 3, ground := .phase }, { on := 4, ground := .phase }, { on := 5, ground := .phase }, { on := 6, ground := .phase }, { on := 7, ground := .phase }, { on := 8, ground := .phase }, { on := 9, ground := .phase }, { on := 10, ground := .phase }, { on := 11, ground := .phase }, { on := 12, ground := .phase }], guard := none }) rfl (fun K hK => ?_))
    go_simp
    refine hK.out _ _ ?_
    clear hK K
    try simp only [Act.put, List.setIfInBounds_toArray, List.set_cons_zero, List.set_cons_succ]
    refine wpAnyG_done (by kernel_rfl) ?_ _

    exact ⟨H2.out.1.trans HG.out.1, HG.out.2⟩
  case done =>
    rintro A ⟨h2, v, h3, h4, h5⟩ hD hnD hz
    rw [H3.out.2.2.2.2.2.1] at hD hnD hz
    rw [H3.out.2.2.2.2.2.1]
    obtain ⟨ST, hST, hTT⟩ := own_terms (L := LT) (by rw [HRw.out.2, ← HRw.out.1]; exact h5) (by rw [HRw.out.2]; have := HL32.out; omega)
    rw [HRw.out.2] at hST
    subst hST
    have HBA := Lib.hid (show Below w.heap.size w A from H3.out.2.1.trans (h2.mono (by have := HZ.out; omega)))
    have HIW := Lib.hid (HI.out.new HBA.out)
    obtain ⟨hcs, h8⟩ := HIW.out.tk i (by rw [HN.out]; exact hii)
    obtain ⟨hsp, -, -⟩ := HIW.out.st.at_ (by rw [HN.out]; omega)
    have q1 : A.cell? ⟨S.t.b, S.t.o + i * 11 + 1, none⟩ = some (.int .i64 (x.t i).dl) := hcs 1 _ rfl
    have z1 : A.cell? ⟨Z + 1, 1, none⟩ = some (.slice S.t.sp nT S.t.c) := (H3.out.2.2.2.1.new (by rw [H3.out.1]; exact h2)).cell 1
    have z0 : A.cell? ⟨Z, 3 + i, none⟩ = some (.int .i64 (fo i)) := ((H3.out.2.2.1.new (by rw [H3.out.1]; exact h2)).cell (3 + i)).trans (HT.out.2.2.2 i (by omega))
    rw [hsp] at z1
    have HLx := Lib.hid (HLe.out A.drew _ ST (hTT.new (below_dn (Below.refl _ A) 1)))
    have hLn := HRw.out.2
    rw [hLn] at HLx
    rw [HDl.out] at q1
    rw [HFi.out] at z0
    have hw1 : IntKind.i64.wrap (dl + fi) = dl + fi := by rw [IntKind.wrap_i64]; omega
    have hi2 : (i : Int) < (nT : Int) := by omega
    have hi16 : (i : Int) < 16 := by omega
    have HSb := Lib.hid (show S.t.b < A.heap.size from World.block_lt_of_cell? A _ q1)
    have HSz := Lib.hid hz
    have HK := Lib.hid (show ∀ w', Below A.drew.heap.size A.drew w' → (w'.cell? ⟨Z + 1, 1, none⟩ = some (.slice (some ⟨S.t.b, S.t.o, none⟩) nT S.t.c) ∧ w'.cell? ⟨S.t.b, S.t.o + i * 11 + 1, none⟩ = some (.int .i64 dl) ∧ w'.cell? ⟨Z, 3 + i, none⟩ = some (.int .i64 fi) ∧ w'.cell? ⟨Z + 2, 0, none⟩ = some (.slice ST.sp N ST.c)) from fun w' hb =>
      ⟨(hb.cell (show Z + 1 < A.heap.size by have := H3.out.2.2.2.2.2.2.1; omega)).trans z1, (hb.cell HSb.out).trans q1, (hb.cell (show Z < A.heap.size by have := H3.out.2.2.2.2.2.2.1; omega)).trans z0, (hb.cell (show Z + 2 < A.heap.size by have := H3.out.2.2.2.2.2.2.1; omega)).trans h3⟩)
    have HDf := Lib.hid (And.intro hD hz)
    clear h2 h4 h5 hD hnD hz hcs h8 hsp hTT hLn HIW
    gi_wp2
    refine wpIn_wide.2 ?_
    go_region_held3 (fun w' => w'.cell? ⟨Z + 1, 1, none⟩ = some (.slice (some ⟨S.t.b, S.t.o, none⟩) nT S.t.c) ∧ w'.cell? ⟨S.t.b, S.t.o + i * 11 + 1, none⟩ = some (.int .i64 dl) ∧ w'.cell? ⟨Z, 3 + i, none⟩ = some (.int .i64 fi) ∧ w'.cell? ⟨Z + 2, 0, none⟩ = some (.slice ST.sp N ST.c)) (first | exact ⟨z1, q1, z0, h3⟩ | exact HK.out _ bw | go_keep)
      (first
        | (go_at_call 64; refine HLx.out.mono ?_; rintro e w5 ⟨rfl, bw⟩; have H5 := Lib.hid bw)
        | fail)
    clear z1 q1 z0 h3 bw hw1
    gi_wp2
    have hrec : w5.heap[B + 1]? = some (.deferred (some [])) := (H5.out.block (B + 1) (show B + 1 < A.heap.size by have := HDf.out.2; omega)).trans HDf.out.1
    have hp : Ch (fun j => j = B + 1) w5 (w5.putObj (B + 1) (.deferred none)) := (Ch.refl _ _).putObj _ _ rfl
    refine ⟨by simp, .inl ⟨_, _, rfl, run_takeDeferred (w := w5) hrec, ?_⟩⟩
    have hZ := HZ.out
    have hBz := H3.out.2.2.2.2.2.2.1
    refine ⟨.int .i64 (tT R), by simp [results, Tryd.results34, go_sem], rfl, ?_⟩
    have b5 : Below w.heap.size w w5 := HBA.out.trans ((below_dn (Below.refl _ A) 1).mono HBA.out.size |>.trans (H5.out.mono HBA.out.size))
    exact b5.trans (hp.below (fun j hj e => by have e' : j = B + 1 := e; omega) b5.size)
end Go.Proofs.YtchmdnmifpjfkaaDoor
/- A plain lemma of this prover's own: what is taken first may wait for the last operation by way of another one. No statement about the program. -/
namespace Go.Proofs.YtchmdnmifpjfkaaDoor
open Go.RowKit

section
variable {P : Program} {ops : Array Oper} {Q : Exit → Act → World → Prop} {md : Region.Mode} {S : World → Prop} {l : Nat}
theorem wpAnyG_first2 {i : Nat} {oi : Oper} {v : Value} (hi : ops[i]? = some oi) (hsel : ∀ (j : Nat) (o : Oper) cs b, ops[j]? = some o → o.op ≠ .select cs b) {m : Nat} (hwt1 : waitsOn md ops l m = true) (hwt : waitsOn md ops m i = true)
    (hQ : ∀ c a w, Q (.panic c) (a.put oi.dst v) w → Q (.panic c) a w) :
    ∀ (fuel : Nat) (listed : Array Bool) (a : Act) (w : World), listed.getD m false = false →
      (∀ j oj, ops[j]? = some oj → j ≠ i → listed.getD j true = false → (∀ e ∈ oj.after, Region.binds md e = true → e.on ≠ i) → oi.apart ops oj = true) →
      i ∈ Region.ready md ops listed → YieldsIf P ops S oi v a → S w →
      wpAnyG P md ops Q S l fuel (listed.setIfInBounds i true) (a.put oi.dst v) w → wpAnyG P md ops Q S l (fuel + 1) listed a w := by
  intro fuel
  induction fuel with
  | zero =>
    intro listed a w _ _ hr hy hS H
    refine ⟨fun h => (by rw [h] at hr; cases hr), fun j hj => ?_⟩
    by_cases hji : j = i
    · subst hji; exact hy.wpOp hi hS ⟨.inr hS, H⟩
    · have := ready_mono hj hji
      rw [H.1] at this
      cases this
  | succ fuel ih =>
    intro listed a w hlm hfree hr hy hS H
    refine ⟨fun h => (by rw [h] at hr; cases hr), fun j hj => ?_⟩
    by_cases hji : j = i
    · subst hji; exact hy.wpOp hi hS ⟨.inr hS, H⟩
    · have h1 := H.2 j (ready_mono hj hji)
      obtain ⟨hjun, oj, hoj, hall⟩ := mem_ready.1 hj
      have h0i : listed.getD i false = false := by
        have h0 := (mem_ready.1 hr).1
        rcases Nat.lt_or_ge i listed.size with h' | h'
        · simp [h'] at h0 ⊢; exact h0
        · simp [Array.getElem?_eq_none h']
      have hnot : ∀ e ∈ oj.after, Region.binds md e = true → e.on ≠ i := fun e he hb heq => by
        have h1 := hall e he hb
        rw [heq, h0i] at h1; cases h1
      have hjl : j ≠ l := fun e => waitsOn_spec (listed := listed) hwt1 hlm (e ▸ hj)
      have hjm : j ≠ m := fun e => waitsOn_spec (listed := listed) hwt h0i (e ▸ hj)
      have h2 := wpOp_putIf hoj (hfree j oj hoj hji hjun hnot) (fun cs b => hsel i oi cs b hi) (fun cs b => hsel j oj cs b hoj) hQ hy h1
      have hfree' : ∀ k ok, ops[k]? = some ok → k ≠ i → (listed.setIfInBounds j true).getD k true = false →
          (∀ e ∈ ok.after, Region.binds md e = true → e.on ≠ i) → oi.apart ops ok = true := fun k ok hk hki hun hno => by
        refine hfree k ok hk hki ?_ hno
        by_cases hjk : j = k
        · subst hjk; exact hjun
        · rw [getD_set_ne true hjk] at hun; exact hun
      refine wpOp_mono (fun a' w' h3 => ?_) h2
      have hS' : S w' := h3.2.1.resolve_left hjl
      exact ⟨.inr hS', ih (listed.setIfInBounds j true) a' w' (by rw [getD_set_ne false hjm]; exact hlm) hfree' (ready_mono hr (Ne.symm hji)) h3.1 hS' (by rw [Array.setIfInBounds_comm _ _ hji]; exact h3.2.2)⟩
theorem wpAnyG_take2 {i : Nat} {oi : Oper} {v : Value} {fuel : Nat} {listed : Array Bool} {a : Act} {w : World} (hi : ops[i]? = some oi)
    (hs : Region.noSelect ops = true) (hf : Region.free md ops listed i = true) (hr : (Region.ready md ops listed).contains i = true) (m : Nat) (hwt1 : waitsOn md ops l m = true) (hwt : waitsOn md ops m i = true) (hlm : listed.getD m false = false)
    (hQ : ∀ c a w, Q (.panic c) (a.put oi.dst v) w → Q (.panic c) a w) (hy : YieldsIf P ops S oi v a) (hS : S w)
    (h : wpAnyG P md ops Q S l fuel (listed.setIfInBounds i true) (a.put oi.dst v) w) : wpAnyG P md ops Q S l (fuel + 1) listed a w :=
  wpAnyG_first2 hi (Region.noSelect_spec hs) hwt1 hwt hQ fuel listed a w hlm (Region.free_spec hi hf) (by simpa using hr) hy hS h
end
end Go.Proofs.YtchmdnmifpjfkaaDoor
