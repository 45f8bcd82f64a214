/- Several texts in one: TH, TI. -/
import Derived.Test.YtajknfoaiobleaaDoorPk12
import Derived.Test.YtajknfoaiobleaaDoorPk01
import Derived.Test.YtajknfoaiobleaaDoorPk04
import Derived.Handy
import Derived.Deep.QuietTactic
import Derived.DeepKeys
import Derived.ChangeKeysEq
/- The contract of steady's Mode. -/
namespace Go.Proofs.YtajknfoaiobleaaDoor
open Go.RowKit
attribute [local go_sem] Oper.semAt_some

/-- The response of a task of a mode's set. -/
def mdR (x : Img) (s : BitVec 32) (i : Nat) : Option (Int × Int) := rspF x s s (ceilF x s) i
/-- The first task of a set that may be late. -/
def mdBad (x : Img) (s : BitVec 32) : Option Nat := (lst s 32).find? fun i => !tB (mdR x s i)
theorem mdBad_some {x : Img} {s : BitVec 32} {L : List Nat} (hL : lst s 32 = L) {k : Nat} (hk : k < L.length) (hn : ∀ j, j < k → tB (mdR x s (L.getD j 0)) = true) (h : tB (mdR x s (L.getD k 0)) = false) : mdBad x s = some (L.getD k 0) := by
  have e : ∀ j, j < L.length → L.getD j 0 = L[j]! := fun j hj => by simp [List.getD_eq_getElem?_getD, hj]
  unfold mdBad
  rw [hL, List.find?_eq_some_iff_getElem]
  refine ⟨by rw [h]; rfl, k, hk, by simp [hk], fun j hj => ?_⟩
  have := hn j hj
  rw [List.getD_eq_getElem?_getD, List.getElem?_eq_getElem (by omega)] at this
  simp only [Option.getD_some] at this
  rw [this]; rfl
theorem mdBad_none {x : Img} {s : BitVec 32} {L : List Nat} (hL : lst s 32 = L) (hn : ∀ j, j < L.length → tB (mdR x s (L.getD j 0)) = true) : mdBad x s = none := by
  unfold mdBad
  rw [hL, List.find?_eq_none]
  intro i hi
  obtain ⟨j, hj, rfl⟩ := List.getElem_of_mem hi
  have := hn j hj
  rw [List.getD_eq_getElem?_getD, List.getElem?_eq_getElem hj] at this
  simp only [Option.getD_some] at this
  rw [this]; decide
/-- What is told of one. -/
def mdV (x : Img) (s : BitVec 32) (L : List Nat) (k : Nat) : List Value := [.int .i64 (L.getD k 0 : Nat), .int .i64 (blkF x s (ceilF x s) ((L.getD k 0 : Nat) : Int)), .int .i64 (tT (mdR x s (L.getD k 0)))]
/-- What Mode answers. -/
def MdOut (x : Img) (s : BitVec 32) (w' : World) (base : Nat) (v : Value) (ix : Int) (ok : Bool) : Prop :=
  (mdBad x s = none ∧ ix = 0 ∧ ok = true ∧ w'.ownsRow base 37 3 v (lst s 32).length (rowsOf (mdV x s (lst s 32)) (lst s 32).length)) ∨ (∃ b : Nat, mdBad x s = some b ∧ ix = (b : Int) ∧ ok = false ∧ v = .slice none 0 0)
theorem Foot.pure {F : World → Nat → Prop} {I : World → Prop} (p : Prop) (h : Foot F I) : Foot F (fun W => p ∧ I W) where
  lt := fun W hi j hj => h.lt W hi.2 j hj
  keep := fun W W' hi hc => ⟨⟨hi.1, (h.keep W W' hi.2 hc).1⟩, (h.keep W W' hi.2 hc).2⟩
/-- What is there when Mode leaves early. -/
def XM (w : World) (Oc Z : Nat) (x : Img) (s : BitVec 32) (W : World) : Prop :=
  Below w.heap.size w W ∧ (∃ b : Nat, mdBad x s = some b ∧ RowAt W (Z + 2) 75 #[.slice none 0 0] ∧ RowAt W (Z + 3) 3 #[.int .i64 (b : Nat)] ∧ RowAt W (Z + 4) 4 #[.bool false]) ∧ ∃ v n xs, W.cell? ⟨Oc, 0, none⟩ = some v ∧ W.ownsRow (Oc + 1) 37 3 v n xs
theorem XM.foot {w : World} {Oc Z : Nat} {x : Img} {s : BitVec 32} (hZ : Z + 4 < Oc) (hw : w.heap.size ≤ Oc) : Foot (FC Oc) (XM w Oc Z x s) where
  lt := fun W ⟨h1, h2, v, n, xs, h3, h5⟩ j hj => by
    have hO := World.block_lt_of_cell? W _ h3
    simp only at hO
    rcases hj with hj | rfl | ⟨v', hv, hj⟩
    · omega
    · exact hO
    · rw [h3] at hv; injection hv with hv; subst hv
      exact (h5.lt j hj).2
  keep := fun W W' ⟨h1, ⟨b, hb, r2, r3, r4⟩, v, n, xs, h3, h5⟩ hc => by
    have nO : ¬ ¬ FC Oc W Oc := fun hn => hn (.inr (.inl rfl))
    have e3 : W'.cell? ⟨Oc, 0, none⟩ = some v := hc.cell h3 nO
    have nl : ∀ j, j < Oc → ¬ ¬ FC Oc W j := fun j hj hn => hn (.inl hj)
    refine ⟨⟨h1.trans (Ch.below hc (fun j hj hn => hn (.inl (by omega))) h1.size), ⟨b, hb, r2.keep hc (nl _ (by omega)), r3.keep hc (nl _ (by omega)), r4.keep hc (nl _ (by omega))⟩, v, n, xs, e3,
      own_same h5 fun g hg => hc.block g (h5.lt g hg).2 fun hn => hn (.inr (.inr ⟨v, h3, hg⟩))⟩, fun j hj => ?_⟩
    rcases hj with hj | hj | ⟨v', hv, hj⟩
    · exact .inl hj
    · exact .inr (.inl hj)
    · rw [e3] at hv; injection hv with hv; subst hv
      exact .inr (.inr ⟨v, h3, hj⟩)
theorem mode_left {w W W2 : World} {Oc Z i k : Nat} {v : Value} {x : Img} {s : BitVec 32} {xs : List Value} (o : Obj) (hZ : Z + 4 < Oc) (hw : Z = w.heap.size) (hbw : Below w.heap.size w W) (_hs : Oc < W.heap.size)
    (h3 : W.cell? ⟨Oc, 0, none⟩ = some v) (h5 : W.ownsRow (Oc + 1) 37 3 v k xs) (h2 : Below W.heap.size W W2) (r2 : RowAt W (Z + 2) 75 #[.slice none 0 0]) (r3 : RowAt W (Z + 3) 3 #[.int .i64 0]) (r4 : RowAt W (Z + 4) 4 #[.bool false]) (hb : mdBad x s = some i) :
    Step (FC Oc) W ((((W2.alloc o).setCell ⟨Z + 2, 0, none⟩ (.slice none 0 0)).setCell ⟨Z + 3, 0, none⟩ (.int .i64 (i : Nat))).setCell ⟨Z + 4, 0, none⟩ (.bool false)) ∧
    XM w Oc Z x s ((((W2.alloc o).setCell ⟨Z + 2, 0, none⟩ (.slice none 0 0)).setCell ⟨Z + 3, 0, none⟩ (.int .i64 (i : Nat))).setCell ⟨Z + 4, 0, none⟩ (.bool false)) := by
  have cA : Ch (fun j => j = Z + 2 ∨ j = Z + 3 ∨ j = Z + 4) W (W2.alloc o) := (Ch.new h2).alloc _
  have C := ((cA.setCell ⟨Z + 2, 0, none⟩ (.slice none 0 0) (.inl (.inl rfl))).setCell ⟨Z + 3, 0, none⟩ (.int .i64 (i : Nat)) (.inl (.inr (.inl rfl)))).setCell ⟨Z + 4, 0, none⟩ (.bool false) (.inl (.inr (.inr rfl)))
  have e3 := C.cell h3 (fun h => by simp only at h; omega)
  have ch : ∀ (A : World) (j : Nat) (u : Value), Ch (fun q => q = j) A (A.setCell ⟨j, 0, none⟩ u) := fun A j u => (Ch.refl _ _).setCell _ _ (.inl rfl)
  refine ⟨⟨C.mono fun j _ hj => .inl (by omega), fun j hj => ?_⟩, hbw.trans (C.below (fun j hj e => by omega) hbw.size), ⟨i, hb, ?_, ?_, ?_⟩, v, k, xs, e3, own_same h5 fun g hg => C.block g (h5.lt g hg).2 (fun e => by have := (h5.lt g hg).1; omega)⟩
  · rcases hj with hj | hj | ⟨v', hv, hj⟩
    · exact .inl (.inl hj)
    · exact .inl (.inr (.inl hj))
    · rw [e3] at hv; injection hv with hv; subst hv
      exact .inl (.inr (.inr ⟨v, h3, hj⟩))
  · exact (((row_keep (r2.new h2) o).setC 0 _).keep (ch _ _ _) (fun e => by omega)).keep (ch _ _ _) (fun e => by omega)
  · exact (((row_keep (r3.new h2) o).keep (ch _ _ _) (fun e => by omega)).setC 0 _).keep (ch _ _ _) (fun e => by omega)
  · exact (((row_keep (r4.new h2) o).keep (ch _ _ _) (fun e => by omega)).keep (ch _ _ _) (fun e => by omega)).setC 0 _
theorem three_newM (A : World) (x y z : Value) (t : TypeId) : ∀ j u, [x, y, z][j]? = some u → (A.alloc (.cells #[x, y, z] t)).cell? ((⟨A.heap.size, 0, none⟩ : Addr).add j) = some u := by
  intro j u hu
  rw [Addr.add_lit]
  have := (RowAt.mk A t #[x, y, z]).cell (0 + j)
  refine this.trans ?_
  rcases j with _ | _ | _ | j
  · exact hu
  · exact hu
  · exact hu
  · simp at hu
theorem three_newN (A : World) (o : Obj) (x y z : Value) (t : TypeId) : ∀ j u, [x, y, z][j]? = some u → ((A.alloc o).alloc (.cells #[x, y, z] t)).cell? ((⟨A.heap.size + 1, 0, none⟩ : Addr).add j) = some u := by
  have := three_newM (A.alloc o) x y z t
  rwa [World.size_alloc] at this
set_option maxHeartbeats 4000000 in
set_option maxRecDepth 100000 in
theorem stMode_any {w : World} {V : Nat → Prop} {x : Img} {S : ImgS} (h : ImgAt w V x S) (ht : Tab w) (hG : GoodI x) (s : BitVec 32) (hs : ∀ i, i < 32 → s.getLsbD i = true → i < x.tasks.length) :
    Calls Tryd.prog 34 #[.agg #[.int .i64 x.res, .slice S.t.sp x.tasks.length S.t.c, .slice S.m.sp x.modes.length S.m.c, .slice S.e.sp x.edges.length S.e.c], .int .u32 (w32 s)] w fun e w' => ∃ v ix ok, e = .returned (.tuple #[v, .int .i64 ix, .bool ok]) ∧ MdOut x s w' w.heap.size v ix ok ∧ Below w.heap.size w w' := by
  refine (callsIn_wide (n := 0)).1 ?_
  obtain ⟨i0, hi, hz0, hz1, hz2⟩ := info_parts (show (Tryd.prog.info? 37).map (fun i => (i.zero, i.size, i.bytes)) = some (some (.agg #[.int .i64 0, .int .i64 0, .int .i64 0]), 3, 24) from by kernel_rfl)
  have hp := ht.pos
  have HTb := Lib.hid (show ∀ w', Below w.heap.size w w' → Tab w' from fun w' hb => ht.below hp hb)
  have HLt := Lib.hid (show ∀ k, k < (lst s 32).length → (lst s 32).getD k 0 < x.tasks.length from fun k hk => by
    have hm : (lst s 32).getD k 0 ∈ lst s 32 := by rw [List.getD_eq_getElem?_getD, List.getElem?_eq_getElem hk]; exact List.getElem_mem hk
    have := (mem_lst _ _ _).1 hm
    exact hs _ this.1 this.2)
  have HL32 := Lib.hid (lst_len s 32)
  have HOf := Lib.hid (show ∀ wx, Below w.heap.size w wx → _ from fun wx hb => cOf_any (h.new hb) (ht.below hp hb) s)
  have HRs := Lib.hid (show ∀ wx, Below w.heap.size w wx → ∀ i, i < x.tasks.length → _ from fun wx hb i hi => stResp_any (h.new hb) (ht.below hp hb) hG s s (ceilF x s) i hi)
  have HTi := Lib.hid (tb_info (ceilF x s))
  obtain ⟨nT, hnT⟩ : ∃ n, x.tasks.length = n := ⟨_, rfl⟩
  obtain ⟨nM, hnM⟩ : ∃ n, x.modes.length = n := ⟨_, rfl⟩
  obtain ⟨nE, hnE⟩ : ∃ n, x.edges.length = n := ⟨_, rfl⟩
  rw [hnT, hnM, hnE] at HOf HRs
  rw [hnT] at HLt
  rw [hnT, hnM, hnE]
  obtain ⟨T, hT⟩ : ∃ T, tb (ceilF x s) = T := ⟨_, rfl⟩
  have HTs := Lib.hid (And.intro (tb_size (ceilF x s)) (tb_one (ceilF x s)))
  rw [hT] at HOf HRs HTi HTs
  unfold MdOut
  obtain ⟨L, hL⟩ : ∃ L, lst s 32 = L := ⟨_, rfl⟩
  have HTL := Lib.hid hL
  rw [hL] at HLt HL32 ⊢
  obtain ⟨rf, hrf⟩ : ∃ rf, rowsOf (mdV x s L) = rf := ⟨_, rfl⟩
  have HRf := Lib.hid (fun k => show rf (k + 1) = rf k ++ mdV x s L k by rw [← hrf]; exact rowsOf_snoc _ k)
  have HR0 := Lib.hid (show rf 0 = [] by rw [← hrf]; rfl)
  rw [hrf]
  clear hL hrf hT
  obtain ⟨N, hN⟩ : ∃ N, L.length = N := ⟨_, rfl⟩
  rw [hN] at HLt HL32 ⊢
  have HNN := Lib.hid hN
  obtain ⟨Z, hZ⟩ : ∃ Z, Z = w.heap.size := ⟨_, rfl⟩
  have HZ := Lib.hid hZ
  clear h ht hp hnT hnM hnE hG hs hN
  refine callsIn_of_wp_marks Tryd.func34 rfl trivial ?_ rfl
  simp only [Tryd.ntmps34, List.size_toArray, List.length_cons, List.length_nil, Nat.reduceAdd, Nat.reduceSub, Array.replicate_succ, Array.replicate_zero, List.push_toArray, List.append_toArray, List.nil_append, List.cons_append]
  gi_wp2_with (first
    | (refine ⟨trivial, rfl, ?_⟩; gi_at_call 9; generalize hw1 : World.alloc _ _ = w1; have H1 := Lib.hid (rows5_of hw1); refine (callsIn_wide.2 (HOf.out w1 H1.out.1)).mono ?_; rintro e w2 ⟨rfl, b2⟩; have H2 := Lib.hid b2; clear b2)
    | (refine wpListIn_store_rowW rfl 32 (.tmp 7) (.tmp 14) rfl w2.heap.size T rfl rfl 32 (tb (fun _ => 0)) (RowAt.mk w2 _ _) HTi.out (by rw [HTs.out.1]; rfl) HTs.out.2 ?_; generalize hw3 : World.setRow _ _ _ = w3; have H3 := Lib.hid (row_made hw3); have y1 : ∀ o, (w3.alloc o).cell? ⟨w.heap.size + 1, 0, none⟩ = some (.int .u32 (w32 s)) := (fun o => (row_keep ((H1.out.2.2.2.1.new H2.out).new H3.out.1) o).cell 0); clear hw3)
    | (refine ⟨trivial, rfl, ?_⟩; gi_at_call 23; refine (callsIn_wide.2 (All_any _ _)).mono ?_; rintro e w' ⟨rfl, rfl⟩)
    | fail)
  obtain ⟨A7, hA7⟩ : ∃ A, A = w2.heap.size := ⟨_, rfl⟩
  obtain ⟨Oc, hOc⟩ : ∃ A, A = w3.heap.size := ⟨_, rfl⟩
  generalize hw6 : World.alloc (World.alloc w3 _) _ = w6
  have H6 := Lib.hid (show Oc ≤ w3.heap.size ∧ Below w.heap.size w w3 ∧ Below Oc w3 w6 ∧ w6.heap.size = Oc + 2 ∧ Z + 4 < A7 ∧ A7 < Oc ∧ RowAt w6 Oc 75 #[.slice none 0 0] ∧ w6.cell? ⟨Oc + 1, 0, none⟩ = some (.int .u32 (w32 s)) by
    have h1 := H1.out.2.1
    have h2 := H2.out.size
    have h3 := H3.out.2.2
    rw [hOc, hA7, hZ, ← hw6]
    refine ⟨Nat.le_refl _, H1.out.1.trans ((H2.out.trans (H3.out.1.mono h2)).mono H1.out.1.size), ((Below.refl _ _).alloc (Nat.le_refl _) _).alloc (by simp) _, by simp, by omega, by omega, row_keep (RowAt.mk _ _ _) _, (row_next _ (w3.heap.size + 1) (by simp) 28 #[.int .u32 (w32 s)]).cell 0⟩)
  have HRw := Lib.hid (show RowAt w3 Z 26 #[.int .i64 x.res, .slice S.t.sp nT S.t.c, .slice S.m.sp nM S.m.c, .slice S.e.sp nE S.e.c] ∧ RowAt w3 (Z + 1) 28 #[.int .u32 (w32 s)] ∧ RowAt w3 (Z + 2) 75 #[.slice none 0 0] ∧ RowAt w3 (Z + 3) 3 #[.int .i64 0] ∧ RowAt w3 (Z + 4) 4 #[.bool false] ∧ RowAt w3 A7 32 T by
    rw [hA7, hZ]
    exact ⟨(H1.out.2.2.1.new H2.out).new H3.out.1, (H1.out.2.2.2.1.new H2.out).new H3.out.1, (H1.out.2.2.2.2.1.new H2.out).new H3.out.1, (H1.out.2.2.2.2.2.1.new H2.out).new H3.out.1, (H1.out.2.2.2.2.2.2.new H2.out).new H3.out.1, H3.out.2.1⟩)
  rw [← hA7, ← hOc, show w.heap.size + 1 + 1 + 1 + 1 = Z + 4 by omega, show w.heap.size + 1 + 1 + 1 = Z + 3 by omega, show w.heap.size + 1 + 1 = Z + 2 by omega, show w.heap.size + 1 = Z + 1 by omega, ← hZ]
  clear hw6 hA7 hOc hZ y1 H1 H2 H3
  have HI0 := Lib.hid (show (∀ j, j < 0 → tB (mdR x s (L.getD j 0)) = true) ∧ IC 37 3 rf w3 Oc 0 w6 from ⟨fun j hj => absurd hj (Nat.not_lt_zero j), H6.out.2.2.1, _, H6.out.2.2.2.2.2.2.1.cell 0, H6.out.2.2.2.2.2.2.1.fr 0, by rw [HR0.out]; exact World.ownsRow_nil _ _ _ _⟩)
  have HBe := Lib.hid (show ∀ (k : Nat) (W' : World), IC 37 3 rf w3 Oc k W' → Below w.heap.size w W' from fun k W' h => H6.out.2.1.trans (h.1.mono (by have := H6.out.2.2.2.2.1; have := H6.out.2.2.2.2.2.1; have := HZ.out; omega)))
  refine wpIn_rangeF3 (gf := 43) (lb := #[.pointer (some ⟨Oc + 1, 0, none⟩)]) rfl (enters_of Tryd.func43 (by kernel_rfl) rfl)
    N (fun k => #[.int .i64 (nth (ints L) k)]) (fun _ => rfl) (FC Oc)
    (fun k W => (∀ j, j < k → tB (mdR x s (L.getD j 0)) = true) ∧ IC 37 3 rf w3 Oc k W) (fun c _ W => c = .ret ∧ XM w Oc Z x s W)
    (fun k => Foot.pure _ (IC.foot H6.out.1 k)) (fun _ _ => Foot.pure _ (XM.foot (by have := H6.out.2.2.2.2.1; have := H6.out.2.2.2.2.2.1; omega) (by have := H6.out.2.2.2.2.1; have := H6.out.2.2.2.2.2.1; have := HZ.out; omega))) HI0.out
    (fun k a' W' => a' = { tmps := #[.agg #[.int .i64 x.res, .slice S.t.sp nT S.t.c, .slice S.m.sp nM S.m.c, .slice S.e.sp nE S.e.c], .int .u32 (w32 s), .pointer (some ⟨Z, 0, none⟩), .pointer (some ⟨Z + 1, 0, none⟩), .pointer (some ⟨Z + 2, 0, none⟩), .pointer (some ⟨Z + 3, 0, none⟩), .pointer (some ⟨Z + 4, 0, none⟩), .pointer (some ⟨A7, 0, none⟩), .pointer (some ⟨Oc, 0, none⟩), .int .i64 (nth (ints L) k), undef, undef, .agg #[.int .i64 x.res, .slice S.t.sp nT S.t.c, .slice S.m.sp nM S.m.c, .slice S.e.sp nE S.e.c], .int .u32 (w32 s), .agg T, .int .u32 (w32 s), .func (.func 43) #[] #[.pointer (some ⟨Oc + 1, 0, none⟩)], .int .i64 (nth (ints L) k), undef, undef, undef, undef, undef, undef, undef, undef, undef, undef, undef, undef, undef, undef, undef, undef, undef], defers := [] })
    (fun _ _ _ _ h _ => h) ?hit ?assign ?body ?done ?stop
  case hit =>
    intro J' Jx' W1 h1 h2 h3 h4 h5 h6 h7 h8
    rw [H6.out.2.2.2.1] at h1 h2 h3 h4 h5 h6 h7 ⊢
    rw [← HTL.out] at h7
    have hN2 : N = (lst s 32).length := by rw [← HNN.out, HTL.out]
    rw [hN2] at h7 ⊢
    exact all_in _ (Oc + 1) s _ J' Jx' W1 (fun k W' hJ => HTb.out W' (HBe.out k W' (h3 k W' hJ).1.2)) ((h2.cell (p := ⟨Oc + 1, 0, none⟩) (show Oc + 1 < Oc + 2 by omega)).trans H6.out.2.2.2.2.2.2.2) h7 h8
  case assign =>
    intro k W K hi' hk hz hK
    have HK := Lib.hid hK
    have HKI := Lib.hid hi'
    clear hK hi'
    gi_wp2
    exact HK.out _ _ rfl (Ch.refl _ _) HKI.out (fun _ h => h)
  case body =>
    rintro k a' W ⟨hok, hI⟩ hk rfl hz ⟨rec0, hrec⟩ hnl
    rw [H6.out.2.2.2.1] at hz hrec hnl ⊢
    have hkL : k < L.length := by rw [HNN.out]; exact hk
    have hil := HLt.out k hk
    have HBd := Lib.hid (fun h => mdBad_some HTL.out hkL hok h)
    have HOk := Lib.hid (show tB (mdR x s (L.getD k 0)) = true → ∀ j, j < k + 1 → tB (mdR x s (L.getD j 0)) = true from fun h j hj => by
      by_cases e : j = k
      · rw [e]; exact h
      · exact hok j (by omega))
    have hpt := HRf.out k
    unfold mdV at hpt
    rw [nth_ints hkL]
    have HC := Lib.hid (HRs.out W (HBe.out k W hI) (L.getD k 0) hil)
    rw [show rspF x s s (ceilF x s) (L.getD k 0) = mdR x s (L.getD k 0) from rfl] at HC
    obtain ⟨i, hi'⟩ : ∃ i, L.getD k 0 = i := ⟨_, rfl⟩
    rw [hi'] at HBd HOk hpt HC ⊢
    obtain ⟨bk, hbk⟩ : ∃ a, blkF x s (ceilF x s) (i : Int) = a := ⟨_, rfl⟩
    obtain ⟨tt, htt⟩ : ∃ a, tT (mdR x s i) = a := ⟨_, rfl⟩
    rw [hbk, htt] at HC hpt
    have HP := Lib.hid hpt
    obtain ⟨h2, v, h3, h4, h5⟩ := hI
    obtain ⟨sp', cap, rfl⟩ := own_val h5
    have HIW := Lib.hid (And.intro h2 (And.intro h3 (And.intro h4 h5)))
    have hlt : ∀ {b : Nat} {t : TypeId} {cs : Array Value}, b < Oc → RowAt w3 b t cs → RowAt W b t cs := fun hb hr => (h2.block _ hb).trans hr
    have hA := H6.out.2.2.2.2.1
    have hB := H6.out.2.2.2.2.2.1
    have c0 : W.cell? ⟨Z, 0, none⟩ = some (.int .i64 x.res) := (hlt (by omega) HRw.out.1).cell 0
    have c1 : W.cell? ⟨Z, 1, none⟩ = some (.slice S.t.sp nT S.t.c) := (hlt (by omega) HRw.out.1).cell 1
    have c2 : W.cell? ⟨Z, 2, none⟩ = some (.slice S.m.sp nM S.m.c) := (hlt (by omega) HRw.out.1).cell 2
    have c3 : W.cell? ⟨Z, 3, none⟩ = some (.slice S.e.sp nE S.e.c) := (hlt (by omega) HRw.out.1).cell 3
    have d0 : W.cell? ⟨Z + 1, 0, none⟩ = some (.int .u32 (w32 s)) := (hlt (by omega) HRw.out.2.1).cell 0
    have HTr := Lib.hid (hlt hB HRw.out.2.2.2.2.2)
    have HR3 := Lib.hid (And.intro (hlt (show Z + 2 < Oc by omega) HRw.out.2.2.1) (And.intro (hlt (show Z + 3 < Oc by omega) HRw.out.2.2.2.1) (hlt (show Z + 4 < Oc by omega) HRw.out.2.2.2.2.1)))
    clear hok h2 h3 h4 h5 hpt hil hkL hz hrec hnl hlt hbk htt hi' hA hB
    cases hb : tB (mdR x s i)
    case false =>
      rw [hb] at HC
      have HBad := Lib.hid (HBd.out hb)
      clear hb HBd HOk
      gi_wp2_with (first
        | (refine wpListIn_load_rowR rfl 32 (.tmp 7) rfl A7 rfl 32 T (0, 0) _ HTr.out Tryd.underlying32 rfl HTi.out ?_)
        | (refine ⟨trivial, rfl, ?_⟩; gi_at_call 11; refine (CallsIn.inRound _ (callsIn_wide.2 HC.out)).mono ?_; rintro e W2 ⟨rfl, b2⟩; have H2 := Lib.hid b2; clear c0 c1 c2 c3 d0; have p2 : ∀ o, (W2.alloc o).cell? ⟨Z + 2, 0, none⟩ = some (.slice none 0 0) := (fun o => (row_keep (HR3.out.1.new b2) o).cell 0); have p3 : ∀ o, (W2.alloc o).cell? ⟨Z + 3, 0, none⟩ = some (.int .i64 0) := (fun o => (row_keep (HR3.out.2.1.new b2) o).cell 0); have p4 : ∀ o, (W2.alloc o).cell? ⟨Z + 4, 0, none⟩ = some (.bool false) := (fun o => (row_keep (HR3.out.2.2.new b2) o).cell 0); have f2 : ∀ o, (W2.alloc o).frozen? ⟨Z + 2, 0, none⟩ = false := (fun o => (row_keep (HR3.out.1.new b2) o).fr 0); have f3 : ∀ o, (W2.alloc o).frozen? ⟨Z + 3, 0, none⟩ = false := (fun o => (row_keep (HR3.out.2.1.new b2) o).fr 0); have f4 : ∀ o, (W2.alloc o).frozen? ⟨Z + 4, 0, none⟩ = false := (fun o => (row_keep (HR3.out.2.2.new b2) o).fr 0); clear b2)
        | fail)
      have hsz := H6.out.1
      have hB := HIW.out.1.size
      obtain ⟨g1, g2⟩ := mode_left (w := w) (x := x) (s := s) (i := i) (.cells #[.int .i64 (i : Nat), .int .i64 bk, .int .i64 tt] 37) (show Z + 4 < Oc by have := H6.out.2.2.2.2.1; have := H6.out.2.2.2.2.2.1; omega) HZ.out (HBe.out k W ⟨HIW.out.1, _, HIW.out.2.1, HIW.out.2.2.1, HIW.out.2.2.2⟩) (World.block_lt_of_cell? W _ HIW.out.2.1) HIW.out.2.1 HIW.out.2.2.2 H2.out HR3.out.1 HR3.out.2.1 HR3.out.2.2 HBad.out
      exact ⟨g1, rfl, g2⟩
    case true =>
      rw [hb] at HC
      have HOk2 := Lib.hid (HOk.out hb)
      have HW2 := Lib.hid (show ∀ W2, Below W.heap.size W W2 → ∀ o, ((W2.alloc o).cell? ⟨Oc, 0, none⟩ = some (.slice sp' k cap) ∧ (W2.alloc o).frozen? ⟨Oc, 0, none⟩ = false ∧ (W2.alloc o).ownsRow (Oc + 1) 37 3 (.slice sp' k cap) k (rf k) ∧ Step (FC Oc) W (W2.alloc o) ∧ Below Oc w3 (W2.alloc o)) from fun W2 b2 o => by
        have c : Ch (fun _ => False) W (W2.alloc o) := (Ch.new b2).alloc _
        have e3 := c.cell HIW.out.2.1 (fun h => h)
        refine ⟨e3, (c.frozenCell HIW.out.2.1 (fun h => h)).trans HIW.out.2.2.1, own_same HIW.out.2.2.2 fun g hg => c.block g (HIW.out.2.2.2.lt g hg).2 (fun h => h), ⟨c.mono fun _ _ h => h.elim, fun j hj => ?_⟩, HIW.out.1.trans (c.below (fun _ _ h => h) (by have := HIW.out.1.size; have := H6.out.1; omega))⟩
        rcases hj with hj | hj | ⟨v', hv, hj⟩
        · exact .inl (.inl hj)
        · exact .inl (.inr (.inl hj))
        · rw [e3] at hv; injection hv with hv; subst hv
          exact .inl (.inr (.inr ⟨_, HIW.out.2.1, hj⟩)))
      have HN32 := Lib.hid (show k + 1 ≤ 32 by have := HL32.out; omega)
      clear hb HBd HOk
      gi_wp2_with (first
        | (refine wpListIn_load_rowR rfl 32 (.tmp 7) rfl A7 rfl 32 T (0, 0) _ HTr.out Tryd.underlying32 rfl HTi.out ?_)
        | (refine ⟨trivial, rfl, ?_⟩; gi_at_call 11; refine (CallsIn.inRound _ (callsIn_wide.2 HC.out)).mono ?_; rintro e W2 ⟨rfl, b2⟩; have H2 := Lib.hid b2; clear b2 c0 c1 c2 c3 d0; have e8 : ∀ o, (W2.alloc o).cell? ⟨Oc, 0, none⟩ = some (.slice sp' k cap) := (fun o => (HW2.out W2 H2.out o).1); have p0 : (W2.alloc (.cells #[.int .i64 (i : Nat), .int .i64 bk, .int .i64 tt] 37)).cell? ⟨W2.heap.size, 0, none⟩ = some (.int .i64 (i : Nat)) := (RowAt.mk W2 _ _).cell 0; have p1 : (W2.alloc (.cells #[.int .i64 (i : Nat), .int .i64 bk, .int .i64 tt] 37)).cell? ⟨W2.heap.size, 1, none⟩ = some (.int .i64 bk) := (RowAt.mk W2 _ _).cell 1; have p2 : (W2.alloc (.cells #[.int .i64 (i : Nat), .int .i64 bk, .int .i64 tt] 37)).cell? ⟨W2.heap.size, 2, none⟩ = some (.int .i64 tt) := (RowAt.mk W2 _ _).cell 2)
        | (gi_at_builtin; refine wpListIn_append_at _ rfl _ _ 75 rfl (Oc + 1) 37 i0 (.agg #[.int .i64 0, .int .i64 0, .int .i64 0]) 3 24 Tryd.underlying75 hi hz0 hz1 hz2 rfl (by decide) _ _ _ rfl ((HW2.out W2 H2.out _).2.2.1.alloc _) ⟨W2.heap.size + 1, 0, none⟩ 1 1 [.int .i64 (i : Nat), .int .i64 bk, .int .i64 tt] rfl rfl (three_newN _ _ _ _ _ _) (by simp [Value.oneCell']) (by have := HN32.out; unfold maxLen; omega) (by have := HN32.out; omega) (by have h1 := (HW2.out W2 H2.out (.cells #[.int .i64 (i : Nat), .int .i64 bk, .int .i64 tt] 37)).2.2.2.2.size; have h2 := World.block_lt_of_cell? _ _ (e8 (.cells #[.int .i64 (i : Nat), .int .i64 bk, .int .i64 tt] 37)); simp at h2 ⊢; omega) ?_; intro v' w4 hown' hgrow hat; obtain ⟨sp2, cap', rfl⟩ := own_val hown'; have HG := Lib.hid (IC.grow (rf := rf) (HW2.out W2 H2.out _).2.2.2.2 H6.out.1 (e8 _) (HW2.out W2 H2.out _).2.1 (HW2.out W2 H2.out _).2.2.1 (by rw [HP.out]; exact hown') hgrow hat); have gA : w4.cell? ⟨Oc, 0, none⟩ = some (.slice sp' k cap) := (grow_cell (e8 _) (HW2.out W2 H2.out _).2.1 (HW2.out W2 H2.out _).2.2.1 hgrow).1; have gB : w4.frozen? ⟨Oc, 0, none⟩ = false := (grow_cell (e8 _) (HW2.out W2 H2.out _).2.1 (HW2.out W2 H2.out _).2.2.1 hgrow).2; clear hown' hgrow hat e8 p0 p1 p2)
        | fail)
      exact ⟨(HW2.out W2 H2.out _).2.2.2.1.trans HG.out.1, HOk2.out, HG.out.2⟩
  case done =>
    rintro W ⟨hok, hI⟩ hD hnD hz
    rw [H6.out.2.2.2.1] at hD hnD hz
    have HBn := Lib.hid (mdBad_none HTL.out (by rw [HNN.out]; exact hok))
    have HBw := Lib.hid (HBe.out N W hI)
    obtain ⟨h2, v, h3, h4, h5⟩ := hI
    obtain ⟨sp', cap, rfl⟩ := own_val h5
    have hlt : ∀ {b : Nat} {t : TypeId} {cs : Array Value}, b < Oc → RowAt w3 b t cs → RowAt W b t cs := fun hb hr => (h2.block _ hb).trans hr
    have hA := H6.out.2.2.2.2.1
    have hB := H6.out.2.2.2.2.2.1
    have r2 := hlt (show Z + 2 < Oc by omega) HRw.out.2.2.1
    have r3 := hlt (show Z + 3 < Oc by omega) HRw.out.2.2.2.1
    have r4 := hlt (show Z + 4 < Oc by omega) HRw.out.2.2.2.2.1
    have p2 : W.cell? ⟨Z + 2, 0, none⟩ = some (.slice none 0 0) := r2.cell 0
    have p3 : W.cell? ⟨Z + 3, 0, none⟩ = some (.int .i64 0) := r3.cell 0
    have p4 : W.cell? ⟨Z + 4, 0, none⟩ = some (.bool false) := r4.cell 0
    have f2 : W.frozen? ⟨Z + 2, 0, none⟩ = false := r2.fr 0
    have f3 : W.frozen? ⟨Z + 3, 0, none⟩ = false := r3.fr 0
    have f4 : W.frozen? ⟨Z + 4, 0, none⟩ = false := r4.fr 0
    have hne : ∀ g, (Value.slice sp' N cap).ownBlock = some g → g ≠ Oc + 2 := fun g hg e => by subst e; exact hnD (.inr (.inr ⟨_, h3, hg⟩))
    have HK := Lib.hid (And.intro h5 (And.intro hD (And.intro hne (And.intro r2 (And.intro r3 (And.intro r4 h2.size))))))
    clear hok h2 h4 h5 hD hnD hne r2 r3 r4 hlt hA hB
    gi_wp2
    rw [H6.out.2.2.2.1]
    generalize hw5 : World.setCell (World.setCell (World.setCell W _ _) _ _) _ _ = W5
    have hA := H6.out.2.2.2.2.1
    have hB := H6.out.2.2.2.2.2.1
    have hZ := HZ.out
    have ch : ∀ (A : World) (j : Nat) (u : Value), Ch (fun q => q = j) A (A.setCell ⟨j, 0, none⟩ u) := fun A j u => (Ch.refl _ _).setCell _ _ (.inl rfl)
    have c5 : Ch (fun j => j = Z + 2 ∨ j = Z + 3 ∨ j = Z + 4) W W5 := by
      rw [← hw5]
      exact (((Ch.refl _ _).setCell _ _ (.inl (.inl rfl))).setCell _ _ (.inl (.inr (.inl rfl)))).setCell _ _ (.inl (.inr (.inr rfl)))
    have r2 : RowAt W5 (Z + 2) 75 #[.slice sp' N cap] := by
      rw [← hw5]; exact ((HK.out.2.2.2.1.setC 0 _).keep (ch _ _ _) (fun e => by omega)).keep (ch _ _ _) (fun e => by omega)
    have r3 : RowAt W5 (Z + 3) 3 #[.int .i64 0] := by
      rw [← hw5]; exact ((HK.out.2.2.2.2.1.keep (ch _ _ _) (fun e => by omega)).setC 0 _).keep (ch _ _ _) (fun e => by omega)
    have r4 : RowAt W5 (Z + 4) 4 #[.bool true] := by
      rw [← hw5]; exact ((HK.out.2.2.2.2.2.1.keep (ch _ _ _) (fun e => by omega)).keep (ch _ _ _) (fun e => by omega)).setC 0 _
    have hD5 := c5.obj HK.out.2.1 (by omega)
    have hp : Ch (fun j => j = Oc + 2) W5 (W5.putObj (Oc + 2) (.deferred none)) := (Ch.refl _ _).putObj _ _ rfl
    have x2 := (r2.keep hp (fun e => by omega)).cell 0
    have x3 := (r3.keep hp (fun e => by omega)).cell 0
    have x4 := (r4.keep hp (fun e => by omega)).cell 0
    have hown : (W5.putObj (Oc + 2) (.deferred none)).ownsRow w.heap.size 37 3 (.slice sp' N cap) N (rf N) := by
      refine own_mono (base := Oc + 1) (own_same HK.out.1 fun g hg => ?_) (by omega)
      have h1 := HK.out.1.lt g hg
      rw [hp.block g (by have := c5.size; omega) (HK.out.2.2.1 g hg)]
      exact c5.block g h1.2 (fun e => by omega)
    have hbel : Below w.heap.size w (W5.putObj (Oc + 2) (.deferred none)) := by
      have h1 : Below w.heap.size W W5 := c5.below (fun j hj e => by omega) HBw.out.size
      have h2 : Below w.heap.size W5 (W5.putObj (Oc + 2) (.deferred none)) := hp.below (fun j hj e => by omega) (by have := HBw.out.size; have := c5.size; omega)
      exact HBw.out.trans (h1.trans h2)
    refine ⟨by simp, .inl ⟨_, _, rfl, run_takeDeferred hD5, ?_⟩⟩
    refine ⟨.tuple #[.slice sp' N cap, .int .i64 0, .bool true], by simp [results, Tryd.results34, go_sem, x2, x3, x4], _, _, _, rfl, .inl ⟨HBn.out, rfl, rfl, hown⟩, hbel⟩
  case stop =>
    rintro c k W hk ⟨rfl, hX⟩ hD hnD hz
    rw [H6.out.2.2.2.1] at hD hnD hz
    rw [H6.out.2.2.2.1]
    obtain ⟨hbw, ⟨b, hb, r2, r3, r4⟩, -⟩ := hX
    have HX := Lib.hid (And.intro hbw (And.intro hb (And.intro r2 (And.intro r3 (And.intro r4 hD)))))
    clear hbw hb r2 r3 r4 hD hnD
    gi_wp2
    obtain ⟨hbw, hb, r2, r3, r4, hD⟩ := HX.out
    have hA := H6.out.2.2.2.2.1
    have hB := H6.out.2.2.2.2.2.1
    have hZ := HZ.out
    have hp : Ch (fun j => j = Oc + 2) W (W.putObj (Oc + 2) (.deferred none)) := (Ch.refl _ _).putObj _ _ rfl
    have x2 := (r2.keep hp (fun e => by omega)).cell 0
    have x3 := (r3.keep hp (fun e => by omega)).cell 0
    have x4 := (r4.keep hp (fun e => by omega)).cell 0
    have hbel : Below w.heap.size w (W.putObj (Oc + 2) (.deferred none)) := hbw.trans (hp.below (fun j hj e => by omega) hbw.size)
    refine ⟨by simp, .inl ⟨_, _, rfl, run_takeDeferred hD, ?_⟩⟩
    refine ⟨.tuple #[.slice none 0 0, .int .i64 (b : Nat), .bool false], by simp [results, Tryd.results34, go_sem, x2, x3, x4], _, _, _, rfl, .inr ⟨b, hb, rfl, rfl, rfl⟩, hbel⟩
end Go.Proofs.YtajknfoaiobleaaDoor
/- The contracts of the reference's Mode and of steady's Slack. -/
namespace Go.Proofs.YtajknfoaiobleaaDoor
open Go.RowKit

theorem mdBad_first {x : Img} {s : BitVec 32} {i : Nat} (hi : i < 32) (hb : s.getLsbD i = true) (hf : tB (mdR x s i) = false) (hn : ∀ j, j < i → s.getLsbD j = true → tB (mdR x s j) = true) : mdBad x s = some i := by
  unfold mdBad lst
  rw [List.find?_filter]
  refine (List.find?_range_eq_some).2 ⟨by simp [hb, hf], by simpa using hi, fun j hj => ?_⟩
  by_cases h : s.getLsbD j = true
  · simp [h, hn j hj h]
  · simp [h]
theorem mdBad_all {x : Img} {s : BitVec 32} (hn : ∀ j, j < 32 → s.getLsbD j = true → tB (mdR x s j) = true) : mdBad x s = none := by
  unfold mdBad
  rw [List.find?_eq_none]
  intro i hi
  obtain ⟨h1, h2⟩ := (mem_lst _ _ _).1 hi
  rw [hn i h1 h2]; decide
def mdI (x : Img) (s : BitVec 32) : Int := match mdBad x s with | some b => (b : Int) | none => -1
set_option maxHeartbeats 4000000 in
set_option maxRecDepth 100000 in
theorem r18Mode_any {w : World} {V : Nat → Prop} {x : Img} {S : ImgS} (h : ImgAt w V x S) (hG : GoodI x) (s : BitVec 32) (hs : ∀ i, i < 32 → s.getLsbD i = true → i < x.tasks.length) :
    Calls Tryd.prog 35 #[.agg #[.int .i64 x.res, .slice S.t.sp x.tasks.length S.t.c, .slice S.m.sp x.modes.length S.m.c, .slice S.e.sp x.edges.length S.e.c], .int .u32 (w32 s)] w fun e w' => e = .returned (.int .i64 (mdI x s)) ∧ Below w.heap.size w w' := by
  have HRs := Lib.hid (show ∀ wx, Below w.heap.size w wx → ∀ i, i < x.tasks.length → _ from fun wx hb i hi => r18Resp_any (h.new hb) hG s s s i hi)
  have H16 := hG.n16
  have HF := Lib.hid (show ∀ i, i < 32 → s.getLsbD i = true → tB (mdR x s i) = false → (∀ j, j < i → s.getLsbD j = true → tB (mdR x s j) = true) → mdI x s = (i : Int) from fun i a b c d => by unfold mdI; rw [mdBad_first a b c d])
  have HA := Lib.hid (show (∀ j, j < x.tasks.length → s.getLsbD j = true → tB (mdR x s j) = true) → mdI x s = -1 from fun hh => by unfold mdI; rw [mdBad_all fun j h1 h2 => hh j (hs j h1 h2) h2])
  obtain ⟨nT, hnT⟩ : ∃ n, x.tasks.length = n := ⟨_, rfl⟩
  obtain ⟨nM, hnM⟩ : ∃ n, x.modes.length = n := ⟨_, rfl⟩
  obtain ⟨nE, hnE⟩ : ∃ n, x.edges.length = n := ⟨_, rfl⟩
  rw [hnT, hnM, hnE] at HRs
  rw [hnT] at HA H16
  rw [hnT, hnM, hnE]
  obtain ⟨v, hv⟩ : ∃ v, mdI x s = v := ⟨_, rfl⟩
  rw [hv] at HF HA ⊢
  obtain ⟨Z, hZ⟩ : ∃ Z, Z = w.heap.size := ⟨_, rfl⟩
  clear h hnT hnM hnE hG hs hv
  go_enter Tryd.func35, Tryd.ntmps35
  go_upto_region 1 with fail
  rw [← hZ]
  generalize hw2 : World.alloc _ _ = w2
  have H2 := Lib.hid (show Below w.heap.size w w2 ∧ RowAt w2 Z 26 #[.int .i64 x.res, .slice S.t.sp nT S.t.c, .slice S.m.sp nM S.m.c, .slice S.e.sp nE S.e.c] by
    rw [← hw2, hZ]
    exact ⟨(Below.refl _ _).alloc (Nat.le_refl _) _, RowAt.mk _ _ _⟩)
  clear hw2 hZ
  have c1 : w2.cell? ⟨Z, 1, none⟩ = some (.slice S.t.sp nT S.t.c) := H2.out.2.cell 1
  go_wp2
  clear c1
  go_loopg [5] nT (fun g u wr => ∃ i : Nat, i + g = nT ∧ u = .int .i64 (i : Nat) ∧ Aside ((Below w.heap.size w wr ∧ RowAt wr Z 26 #[.int .i64 x.res, .slice S.t.sp nT S.t.c, .slice S.m.sp nM S.m.c, .slice S.e.sp nE S.e.c]) ∧ ∀ j, j < i → s.getLsbD j = true → tB (mdR x s j) = true))
  case atStart => exact ⟨0, by omega, rfl, H2.out, fun j hj => absurd hj (Nat.not_lt_zero j)⟩
  case round =>
    obtain ⟨i, hig, rfl, HQ⟩ := hrel
    clear H2
    have c0 : wr.cell? ⟨Z, 0, none⟩ = some (.int .i64 x.res) := HQ.out.1.2.cell 0
    have c1 : wr.cell? ⟨Z, 1, none⟩ = some (.slice S.t.sp nT S.t.c) := HQ.out.1.2.cell 1
    have c2 : wr.cell? ⟨Z, 2, none⟩ = some (.slice S.m.sp nM S.m.c) := HQ.out.1.2.cell 2
    have c3 : wr.cell? ⟨Z, 3, none⟩ = some (.slice S.e.sp nE S.e.c) := HQ.out.1.2.cell 3
    cases gk with
    | zero =>
      obtain rfl : i = nT := by omega
      have HE := Lib.hid (HA.out HQ.out.2)
      go_wp2
      go_ret
      exact ⟨by rw [HE.out]; rfl, HQ.out.1.1⟩
    | succ g1 =>
      have hk : i < nT := by omega
      have e1 : (i : Int) < (nT : Int) := by omega
      have HH := Lib.hid (has10_any s (i : Int) wr)
      rw [hasB_nat s i (by omega)] at HH
      have HC := Lib.hid (HRs.out wr HQ.out.1.1 i hk)
      rw [show rspF x s s (ceilF x s) i = mdR x s i from rfl] at HC
      have HFi := Lib.hid (fun a b => HF.out i (by omega) a b HQ.out.2)
      have HNx := Lib.hid (show (s.getLsbD i = true → tB (mdR x s i) = true) → ∀ j, j < i + 1 → s.getLsbD j = true → tB (mdR x s j) = true from fun h j hj hb => by
        by_cases e : j = i
        · subst e; exact h hb
        · exact HQ.out.2 j (by omega) hb)
      obtain ⟨tt, htt⟩ : ∃ a, tT (mdR x s i) = a := ⟨_, rfl⟩
      rw [htt] at HC
      clear htt
      cases hbb : s.getLsbD i
      case false =>
        rw [hbb] at HH
        have HN := Lib.hid (HNx.out (fun h => by rw [hbb] at h; cases h))
        clear hbb HNx HFi
        go_wp2_with (first
          | (go_at_call 20; refine HH.out.mono ?_; rintro e w' ⟨rfl, rfl⟩)
          | fail)
        go_roundg g1
        case measure => omega
        case rel => exact ⟨i + 1, by omega, by go_num, HQ.out.1, HN.out⟩
      case true =>
        rw [hbb] at HH
        cases ht : tB (mdR x s i)
        case false =>
          have HE := Lib.hid (HFi.out hbb ht)
          rw [ht] at HC
          clear hbb HNx HFi ht
          go_wp2_with (first
            | (go_at_call 20; refine HH.out.mono ?_; rintro e w' ⟨rfl, rfl⟩)
            | (go_at_call 10; refine HC.out.mono ?_; rintro e w3 ⟨rfl, b3⟩; have H3 := Lib.hid (HQ.out.1.1.trans (b3.mono HQ.out.1.1.size)); clear b3)
            | fail)
          go_ret
          exact ⟨by rw [HE.out]; rfl, H3.out⟩
        case true =>
          have HN := Lib.hid (HNx.out (fun _ => ht))
          rw [ht] at HC
          clear hbb HNx HFi ht
          go_wp2_with (first
            | (go_at_call 20; refine HH.out.mono ?_; rintro e w' ⟨rfl, rfl⟩)
            | (go_at_call 10; refine HC.out.mono ?_; rintro e w3 ⟨rfl, b3⟩; have H3 := Lib.hid (And.intro (HQ.out.1.1.trans (b3.mono HQ.out.1.1.size)) (HQ.out.1.2.new b3)); clear b3)
            | fail)
          go_roundg g1
          case measure => omega
          case rel => exact ⟨i + 1, by omega, by go_num, H3.out, HN.out⟩
/-- The least slack of the first so many of a list. -/
def slK (x : Img) (s : BitVec 32) (L : List Nat) : Nat → Int
  | 0 => 4096
  | k + 1 => min (slK x s L k) ((x.t (L.getD k 0)).dl - tT (mdR x s (L.getD k 0)))
/-- What Slack answers. -/
def slV (x : Img) (s : BitVec 32) : Int := if mdBad x s = none ∧ 0 < (lst s 32).length then slK x s (lst s 32) (lst s 32).length else 0
def slB (x : Img) (s : BitVec 32) : Bool := (mdBad x s).isNone && decide (0 < (lst s 32).length)
theorem rsp_rng {x : Img} (hG : GoodI x) (s hold : BitVec 32) (f : Nat → Int) {i : Nat} (hi : i < x.tasks.length) : 0 ≤ tT (rspF x s hold f i) ∧ tT (rspF x s hold f i) ≤ (x.t i).dl := by
  have h1 := ownF_rng hG hold f hi
  have h2 := hG.dl i hi
  have hg := good_tm hG (L := aheadL x s i) (fun j hj => (aheadL_lt hj).1)
  have hl : (tmL x (aheadL x s i)).length ≤ 20 := by rw [tmL_len]; have := aheadL_len hG s i; omega
  obtain ⟨g1, -⟩ := lookR_spec (own := ownF x hold f i) (most := (x.t i).dl) (L := tmL x (aheadL x s i)) (by omega) (fun t a b => ⟨_, good_ff hg hl (by omega) (by omega) a (by omega)⟩)
  unfold rspF
  cases hr : lookR (ownF x hold f i) (x.t i).dl (tmL x (aheadL x s i)) with
  | none => exact ⟨Int.le_refl _, by show (0 : Int) ≤ _; omega⟩
  | some q =>
    obtain ⟨a, b⟩ := q
    obtain ⟨c1, c2, -⟩ := g1 a b hr
    show 0 ≤ a ∧ a ≤ _
    split at c1 <;> omega
theorem slK_rng {x : Img} (hG : GoodI x) (s : BitVec 32) {L : List Nat} (hL : ∀ k, k < L.length → L.getD k 0 < x.tasks.length) : ∀ k, k ≤ L.length → 0 ≤ slK x s L k ∧ slK x s L k ≤ 4096
  | 0, _ => by unfold slK; omega
  | k + 1, hk => by
    have ih := slK_rng hG s hL k (by omega)
    have h1 := rsp_rng hG s s (ceilF x s) (hL k (by omega))
    unfold slK mdR
    omega
set_option maxHeartbeats 4000000 in
set_option maxRecDepth 100000 in
theorem stSlack_any {w : World} {V : Nat → Prop} {x : Img} {S : ImgS} (h : ImgAt w V x S) (ht : Tab w) (hG : GoodI x) (s : BitVec 32) (hs : ∀ i, i < 32 → s.getLsbD i = true → i < x.tasks.length) :
    Calls Tryd.prog 36 #[.agg #[.int .i64 x.res, .slice S.t.sp x.tasks.length S.t.c, .slice S.m.sp x.modes.length S.m.c, .slice S.e.sp x.edges.length S.e.c], .int .u32 (w32 s)] w fun e w' => e = .returned (.tuple #[.int .i64 (slV x s), .bool (slB x s)]) ∧ Below w.heap.size w w' := by
  have hp := ht.pos
  have HI := Lib.hid h
  have HMd := Lib.hid (show ∀ wx, Below w.heap.size w wx → _ from fun wx hb => stMode_any (h.new hb) (ht.below hp hb) hG s hs)
  have HLt := Lib.hid (show ∀ k, k < (lst s 32).length → (lst s 32).getD k 0 < x.tasks.length from fun k hk => by
    have hm : (lst s 32).getD k 0 ∈ lst s 32 := by rw [List.getD_eq_getElem?_getD, List.getElem?_eq_getElem hk]; exact List.getElem_mem hk
    have := (mem_lst _ _ _).1 hm
    exact hs _ this.1 this.2)
  have HSr := Lib.hid (slK_rng hG s HLt.out)
  have HRr := Lib.hid (show ∀ k, k < (lst s 32).length → 0 ≤ tT (mdR x s ((lst s 32).getD k 0)) ∧ tT (mdR x s ((lst s 32).getD k 0)) ≤ (x.t ((lst s 32).getD k 0)).dl ∧ (x.t ((lst s 32).getD k 0)).dl ≤ 4096 from fun k hk => ⟨(rsp_rng hG s s (ceilF x s) (HLt.out k hk)).1, (rsp_rng hG s s (ceilF x s) (HLt.out k hk)).2, (hG.dl _ (HLt.out k hk)).2⟩)
  have HL32 := Lib.hid (lst_len s 32)
  unfold MdOut at HMd
  have HSV := Lib.hid (show slV x s = (if mdBad x s = none ∧ 0 < (lst s 32).length then slK x s (lst s 32) (lst s 32).length else 0) ∧ slB x s = ((mdBad x s).isNone && decide (0 < (lst s 32).length)) from ⟨rfl, rfl⟩)
  obtain ⟨sv, hsv⟩ : ∃ v, slV x s = v := ⟨_, rfl⟩
  obtain ⟨sb, hsb⟩ : ∃ v, slB x s = v := ⟨_, rfl⟩
  rw [hsv, hsb] at HSV ⊢
  clear hsv hsb
  obtain ⟨L, hL⟩ : ∃ L, lst s 32 = L := ⟨_, rfl⟩
  rw [hL] at HLt HL32 HMd HSr HRr HSV
  obtain ⟨nT, hnT⟩ : ∃ n, x.tasks.length = n := ⟨_, rfl⟩
  obtain ⟨nM, hnM⟩ : ∃ n, x.modes.length = n := ⟨_, rfl⟩
  obtain ⟨nE, hnE⟩ : ∃ n, x.edges.length = n := ⟨_, rfl⟩
  rw [hnT, hnM, hnE] at HMd
  rw [hnT] at HLt
  rw [hnT, hnM, hnE]
  have HN := Lib.hid hnT
  obtain ⟨Z, hZ⟩ : ∃ Z, Z = w.heap.size := ⟨_, rfl⟩
  clear h ht hp hnT hnM hnE hG hs hL
  go_enter Tryd.func36, Tryd.ntmps36
  go_upto_region 1 with fail
  rw [← hZ]
  generalize hw2 : World.alloc _ _ = w2
  have H2 := Lib.hid (show Below w.heap.size w w2 ∧ RowAt w2 Z 26 #[.int .i64 x.res, .slice S.t.sp nT S.t.c, .slice S.m.sp nM S.m.c, .slice S.e.sp nE S.e.c] by
    rw [← hw2, hZ]
    exact ⟨(Below.refl _ _).alloc (Nat.le_refl _) _, RowAt.mk _ _ _⟩)
  clear hw2 hZ
  have c0 : w2.cell? ⟨Z, 0, none⟩ = some (.int .i64 x.res) := H2.out.2.cell 0
  have c1 : w2.cell? ⟨Z, 1, none⟩ = some (.slice S.t.sp nT S.t.c) := H2.out.2.cell 1
  have c2 : w2.cell? ⟨Z, 2, none⟩ = some (.slice S.m.sp nM S.m.c) := H2.out.2.cell 2
  have c3 : w2.cell? ⟨Z, 3, none⟩ = some (.slice S.e.sp nE S.e.c) := H2.out.2.cell 3
  go_upto_region 2 with (first
    | (go_at_call 34; refine (HMd.out _ H2.out.1).mono ?_; rintro e w3 ⟨v, ix, ok, rfl, hm, b3⟩; have H3 := Lib.hid (And.intro (H2.out.1.trans (b3.mono H2.out.1.size)) (H2.out.2.new b3)); have HM := Lib.hid hm; clear b3 hm c0 c1 c2 c3)
    | fail)
  clear H2 HMd
  obtain ⟨hn, rfl, rfl, ho⟩ | ⟨b, hb, rfl, rfl, rfl⟩ := HM.out
  · clear HM
    obtain ⟨N, hN⟩ : ∃ N, L.length = N := ⟨_, rfl⟩
    rw [hN] at ho
    obtain ⟨sp, cap, rfl⟩ := own_val ho
    have HO := Lib.hid ho
    by_cases h0 : N = 0
    · subst h0
      have HE := Lib.hid (show sv = 0 ∧ sb = false by rw [HSV.out.1, HSV.out.2, hN]; simp)
      clear ho hn
      go_wp2
      go_ret2
      exact ⟨by rw [HE.out.1, HE.out.2]; rfl, H3.out.1⟩
    · have HE := Lib.hid (show sv = slK x s L N ∧ sb = true by rw [HSV.out.1, HSV.out.2, hN, hn, if_pos ⟨rfl, by omega⟩]; simp; omega)
      have hN0 : ¬ (N : Int) = 0 := by omega
      clear ho hn
      obtain ⟨S4, e4, h4, at4⟩ := own_rows HO.out (fun _ _ => rfl) (by have := HL32.out; omega)
      obtain ⟨hp4, -, hl4, -⟩ := h4 (by omega)
      have hs4 : sp = some ⟨S4.b, S4.o, none⟩ := by injection e4 with e4; rw [e4, hp4]
      subst hs4
      have HAt := Lib.hid (show ∀ k, k < N → ∀ wx, Below w3.heap.size w3 wx → (wx.cell? ⟨S4.b, S4.o + k * 3, none⟩ = some (.int .i64 (L.getD k 0 : Nat)) ∧ wx.cell? ⟨S4.b, S4.o + k * 3 + 1, none⟩ = some (.int .i64 (blkF x s (ceilF x s) ((L.getD k 0 : Nat) : Int))) ∧ wx.cell? ⟨S4.b, S4.o + k * 3 + 2, none⟩ = some (.int .i64 (tT (mdR x s (L.getD k 0))))) from fun k hk wx hb =>
        ⟨(hb.cell hl4).trans (at4 k hk 0 _ rfl), (hb.cell hl4).trans (at4 k hk 1 _ rfl), (hb.cell hl4).trans (at4 k hk 2 _ rfl)⟩)
      clear e4 h4 at4 hp4 hl4 HO
      have HNN := Lib.hid hN
      clear hN
      go_wp2
      simp only [show ((N : Int) == 0) = false from by simpa using h0]
      clear hN0 h0
      go_loopg [9, 28] N (fun g u v wr => ∃ k : Nat, k + g = N ∧ u = .int .i64 (slK x s L k) ∧ v = .int .i64 (k : Nat) ∧ Aside (Below w3.heap.size w3 wr))
      case atStart => exact ⟨0, by omega, rfl, rfl, Below.refl _ _⟩
      case round =>
        obtain ⟨k, hkg, rfl, rfl, HQ⟩ := hrel
        cases gk with
        | zero =>
          obtain rfl : k = N := by omega
          go_wp2
          go_ret2
          exact ⟨by rw [HE.out.1, HE.out.2]; rfl, H3.out.1.trans (HQ.out.mono H3.out.1.size)⟩
        | succ g1 =>
          have hk : k < N := by omega
          have hk2 : (k : Int) < (N : Int) := by omega
          have hkL : k < L.length := by rw [HNN.out]; exact hk
          have hk32 : (k : Int) < 32 := by have := HL32.out; omega
          obtain ⟨r0, r1, r2⟩ := HAt.out k hk wr HQ.out
          have hil := HLt.out k hkL
          have hsr := HSr.out k (by rw [HNN.out]; omega)
          have hrr := HRr.out k hkL
          have HSt := Lib.hid (show slK x s L (k + 1) = min (slK x s L k) ((x.t (L.getD k 0)).dl - tT (mdR x s (L.getD k 0))) from rfl)
          obtain ⟨i, hi⟩ : ∃ i, L.getD k 0 = i := ⟨_, rfl⟩
          rw [hi] at r0 r1 r2 hil hrr HSt
          have HIw := Lib.hid (HI.out.new (H3.out.1.trans (HQ.out.mono H3.out.1.size)))
          obtain ⟨hsp, hbs, -⟩ := HIw.out.st.at_ (by rw [HN.out]; omega)
          obtain ⟨-, q1, -⟩ := task_cells HIw.out (i := i) (by rw [HN.out]; exact hil)
          obtain ⟨tt, htt⟩ : ∃ a, tT (mdR x s i) = a := ⟨_, rfl⟩
          obtain ⟨dl, hdl⟩ : ∃ a, (x.t i).dl = a := ⟨_, rfl⟩
          obtain ⟨bk, hbk⟩ : ∃ a, blkF x s (ceilF x s) (i : Int) = a := ⟨_, rfl⟩
          obtain ⟨m, hm⟩ : ∃ a, slK x s L k = a := ⟨_, rfl⟩
          rw [hdl] at q1 hrr HSt
          rw [htt] at r2 hrr HSt
          rw [hbk] at r1
          rw [hm] at hsr HSt ⊢
          clear htt hdl hbk hm hi
          have i1 : (i : Int) < (nT : Int) := by omega
          have hwr : IntKind.i64.wrap (dl - tt) = dl - tt := by rw [IntKind.wrap_i64]; omega
          go_upto_region 8 with fail
          obtain ⟨B, hB⟩ : ∃ B, B = wr.heap.size := ⟨_, rfl⟩
          rw [← hB]
          generalize hw5 : World.alloc wr _ = w5
          have H5 := Lib.hid (show Below w3.heap.size w3 w5 ∧ Below wr.heap.size wr w5 ∧ RowAt w5 B 37 #[.int .i64 (i : Nat), .int .i64 bk, .int .i64 tt] by
            rw [← hw5, hB]; exact ⟨below_alloc HQ.out (Nat.le_refl _) _, (Below.refl _ _).alloc (Nat.le_refl _) _, RowAt.mk _ _ _⟩)
          clear hw5 hB r0 r1 r2
          have r0 : w5.cell? ⟨B, 0, none⟩ = some (.int .i64 (i : Nat)) := H5.out.2.2.cell 0
          have r2 : w5.cell? ⟨B, 2, none⟩ = some (.int .i64 tt) := H5.out.2.2.cell 2
          have c1 : w5.cell? ⟨Z, 1, none⟩ = some (.slice S.t.sp nT S.t.c) := (H3.out.2.new H5.out.1).cell 1
          rw [hsp] at c1
          have q1 := (H5.out.2.1.cell hbs).trans q1
          clear hsp hbs HIw
          by_cases hlt : dl - tt < m
          · have HS2 := Lib.hid (show slK x s L (k + 1) = dl - tt by rw [HSt.out]; omega)
            go_quiet (fail)
            go_wp2
            go_roundg g1
            case measure => omega
            case rel => exact ⟨k + 1, by omega, by rw [HS2.out], by go_num, below_dn H5.out.1 _⟩
          · have HS2 := Lib.hid (show slK x s L (k + 1) = m by rw [HSt.out]; omega)
            go_quiet (fail)
            go_wp2
            go_roundg g1
            case measure => omega
            case rel => exact ⟨k + 1, by omega, by rw [HS2.out], by go_num, below_dn H5.out.1 _⟩
  · have HE := Lib.hid (show sv = 0 ∧ sb = false by rw [HSV.out.1, HSV.out.2, hb]; simp)
    clear hb HM
    go_wp2
    go_ret2
    exact ⟨by rw [HE.out.1, HE.out.2]; rfl, H3.out.1⟩
end Go.Proofs.YtajknfoaiobleaaDoor
