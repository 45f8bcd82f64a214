/- Several texts in one: PG, MList, PH. -/
import Derived.Test.YtchmdnmifpjfkaaDoorPk14
import Derived.Test.YtchmdnmifpjfkaaDoorPk11
import Derived.Test.YtchmdnmifpjfkaaDoorPk03
/- The contract of the reference's Window. -/
namespace Go.Proofs.YtchmdnmifpjfkaaDoor
open Go.RowKit

def tmOf2 (x : Img) (fo : Nat → Int) (i : Nat) : Tm := ⟨(x.t i).per, (x.t i).cost, fo i, 0⟩
def tmO (x : Img) (fo : Nat → Int) (L : List Nat) : List Tm := L.map (tmOf2 x fo)
theorem tmO_len (x : Img) (fo : Nat → Int) (L : List Nat) : (tmO x fo L).length = L.length := by simp [tmO]
theorem tmO_succ (x : Img) (fo : Nat → Int) (s : BitVec 32) (i : Nat) : tmRow (tmO x fo (lst s (i + 1))) = if s.getLsbD i = true then tmRow (tmO x fo (lst s i)) ++ tmC (tmOf2 x fo i) else tmRow (tmO x fo (lst s i)) := by
  rw [lst_succ]
  split
  · unfold tmO
    rw [List.map_append, List.map_singleton, tmRow_snoc]
  · rfl
theorem lst_lt19 {y : BitVec 32} {n j : Nat} (h : j ∈ lst y n) : j < n := by
  unfold lst at h
  exact List.mem_range.1 (List.mem_filter.1 h).1
/-- A task's window. -/
def winF (x : Img) (y : BitVec 32) (fo : Nat → Int) (i : Nat) : Option (Int × Int) := lookR ((x.t i).cost + blkF x y (ceilF x y) (i : Int)) ((x.t i).dl + fo i) (tmO x fo (lst y i))
theorem good_tmO {x : Img} (h : GoodI x) {fo : Nat → Int} (hf : ∀ j, j < 16 → 0 ≤ fo j ∧ fo j ≤ 16384) {L : List Nat} (hL : ∀ i, i ∈ L → i < x.tasks.length) : ∀ t ∈ tmO x fo L, GoodT t := by
  intro t ht
  obtain ⟨i, hi, rfl⟩ := List.mem_map.1 ht
  have hn := h.n16
  have hl := hL i hi
  have p := h.per i hl
  have c := h.cost i hl
  have o := hf i (by omega)
  exact ⟨⟨p.1, show (x.t i).per ≤ _ by omega⟩, ⟨show 0 ≤ (x.t i).cost by omega, show (x.t i).cost ≤ _ by omega⟩, ⟨o.1, show fo i ≤ _ by omega⟩, ⟨Int.le_refl _, show (0 : Int) ≤ _ by omega⟩⟩
theorem offR_rng {a b : BitVec 32} {l : Nat → Int} (hf : ∀ j, j < 16 → 0 ≤ l j ∧ l j ≤ 16384) : ∀ j, j < 16 → 0 ≤ offR a b l j ∧ offR a b l j ≤ 16384 := fun j hj => by
  unfold offR
  split
  · exact hf j hj
  · omega
set_option maxHeartbeats 8000000 in
set_option maxRecDepth 100000 in
theorem win19_any {w : World} {V : Nat → Prop} {x : Img} {S : ImgS} (h : ImgAt w V x S) (hr : rightB x = true) (k : Nat) (hk : k < x.edges.length) (l : Nat → Int) (hl : ∀ j, j < 16 → 0 ≤ l j ∧ l j ≤ 16384) (i : Nat) (hi : i < x.tasks.length) :
    Calls Tryd.prog 14 #[.agg #[.int .i64 x.res, .slice S.t.sp x.tasks.length S.t.c, .slice S.m.sp x.modes.length S.m.c, .slice S.e.sp x.edges.length S.e.c], .int .i64 (k : Nat), .agg (tml l).toArray, .int .i64 (i : Nat)] w fun e w' => e = .returned (.tuple #[.int .i64 (if hasB (edgeA x k ||| edgeB x k) (i : Int) then tT (winF x (edgeA x k ||| edgeB x k) (offR (edgeA x k) (edgeB x k) l) i) else 0), .bool (hasB (edgeA x k ||| edgeB x k) (i : Int) && tB (winF x (edgeA x k ||| edgeB x k) (offR (edgeA x k) (edgeB x k) l) i))]) ∧ Below w.heap.size w w' := by
  obtain ⟨i0, hi0, hz0, hz1, hz2⟩ := info_parts (show (Tryd.prog.info? 89).map (fun i => (i.zero, i.size, i.bytes)) = some (some (.agg #[.int .i64 0, .int .i64 0, .int .i64 0, .int .i64 0]), 4, 32) from by kernel_rfl)
  have hG := rightB_good hr
  have h16 := hG.n16
  have HS := Lib.hid (show ∀ wx, Below w.heap.size w wx → _ from fun wx hb => sets19_any (h.new hb) hr k hk)
  have HO := Lib.hid (show ∀ j, j < 16 → ∀ wx, Below w.heap.size w wx → _ from fun j hj wx hb => off19_any (h.new hb) hr k hk l j hj)
  obtain ⟨A, hA⟩ : ∃ A, edgeA x (k : Int) = A := ⟨_, rfl⟩
  obtain ⟨B, hB⟩ : ∃ A, edgeB x (k : Int) = A := ⟨_, rfl⟩
  rw [hA, hB] at HS HO ⊢
  have HOr := Lib.hid (or32 A B)
  have hfo := offR_rng (a := A) (b := B) hl
  obtain ⟨fo, hfoe⟩ : ∃ f, offR A B l = f := ⟨_, rfl⟩
  have HO2 := Lib.hid (show ∀ j, offR A B l j = fo j from fun j => by rw [hfoe])
  rw [hfoe] at hfo ⊢
  simp only [HO2.out] at HO
  obtain ⟨y, hy⟩ : ∃ y, A ||| B = y := ⟨_, rfl⟩
  rw [hy] at HOr ⊢
  clear hA hB hfoe hy HO2
  have HBk := Lib.hid (show ∀ wx, Below w.heap.size w wx → _ from fun wx hb => r18Block_any (h.new hb) hG y y i hi)
  have hbk := blkF_rng hG y (ceilF x y) (i : Int)
  have HH := Lib.hid (fun (j : Nat) wx => has10_any y (j : Int) wx)
  have HTc := Lib.hid (show ∀ wx, Below w.heap.size w wx → ∀ j, j < x.tasks.length → _ from fun wx hb j hj => task_cells (h.new hb) hj)
  obtain ⟨hsp, -, -⟩ := h.st.at_ (by omega)
  have HTi := Lib.hid (show (Tryd.prog.info? 27).map (·.size) = some (tml l).toArray.size by rw [List.size_toArray, tml_len]; kernel_rfl)
  obtain ⟨T, hT⟩ : ∃ T, (tml l).toArray = T := ⟨_, rfl⟩
  rw [hT] at HO HTi ⊢
  obtain ⟨nT, hnT⟩ : ∃ n, x.tasks.length = n := ⟨_, rfl⟩
  obtain ⟨nM, hnM⟩ : ∃ n, x.modes.length = n := ⟨_, rfl⟩
  obtain ⟨nE, hnE⟩ : ∃ n, x.edges.length = n := ⟨_, rfl⟩
  have HGd := Lib.hid (And.intro hG hfo)
  have HN := Lib.hid hnT
  rw [hnT, hnM, hnE] at HS HO HBk ⊢
  rw [hnT] at HTc hi h16
  rw [hsp] at HS HO HBk ⊢
  obtain ⟨Z, hZ⟩ : ∃ Z, Z = w.heap.size := ⟨_, rfl⟩
  have HZ := Lib.hid hZ
  have e16 : i < 16 := by omega
  have ei : (i : Int) < (nT : Int) := by omega
  clear h hr hk hT hnT hnM hnE hsp hl
  have HHi := Lib.hid (HH.out i)
  cases hb : hasB y (i : Int)
  case false =>
    rw [hb] at HHi
    clear hb hG hfo
    go_enter Tryd.func14, Tryd.ntmps14
    go_upto_region 1 with fail
    rw [← hZ]
    generalize hw2 : World.alloc (World.alloc w _) _ = w2
    have H2 := Lib.hid (show Below w.heap.size w w2 ∧ RowAt w2 Z 26 #[.int .i64 x.res, .slice (some ⟨S.t.b, S.t.o, none⟩) nT S.t.c, .slice S.m.sp nM S.m.c, .slice S.e.sp nE S.e.c] by
      rw [← hw2, hZ]
      exact ⟨((Below.refl _ _).alloc (Nat.le_refl _) _).alloc (by simp) _, row_keep (RowAt.mk _ _ _) _⟩)
    clear hw2 hZ
    obtain ⟨c0, c1, c2, c3⟩ := img_cells H2.out.2
    have hor := HOr.out
    go_wp2_with (first
      | (go_at_call 40; refine (HS.out _ H2.out.1).mono ?_; rintro e w3 ⟨rfl, b3⟩; have H3 := Lib.hid (H2.out.1.trans (b3.mono H2.out.1.size)); clear b3)
      | (go_at_call 41; refine (HHi.out _).mono ?_; rintro e w' ⟨rfl, rfl⟩)
      | fail)
    go_ret2
    exact ⟨rfl, H3.out⟩
  case true =>
    rw [hb] at HHi
    clear hb
    obtain ⟨LO, hLO⟩ : ∃ L, winF x y fo i = L := ⟨_, rfl⟩
    rw [hLO]
    have HLO := Lib.hid hLO
    clear hLO
    go_enter Tryd.func14, Tryd.ntmps14
    go_upto_region 1 with fail
    rw [← hZ]
    generalize hw2 : World.alloc (World.alloc w _) _ = w2
    have H2 := Lib.hid (show Below w.heap.size w w2 ∧ w2.heap.size = Z + 2 ∧ RowAt w2 Z 26 #[.int .i64 x.res, .slice (some ⟨S.t.b, S.t.o, none⟩) nT S.t.c, .slice S.m.sp nM S.m.c, .slice S.e.sp nE S.e.c] ∧ RowAt w2 (Z + 1) 27 T by
      rw [← hw2, hZ]
      exact ⟨((Below.refl _ _).alloc (Nat.le_refl _) _).alloc (by simp) _, by simp, row_keep (RowAt.mk _ _ _) _, row_next _ _ (by simp) _ _⟩)
    clear hw2 hZ
    obtain ⟨c0, c1, c2, c3⟩ := img_cells H2.out.2.2.1
    have hor := HOr.out
    go_upto_region 6 with (first
      | (go_at_call 40; refine (HS.out _ H2.out.1).mono ?_; rintro e w3 ⟨rfl, b3⟩; have H3 := Lib.hid (And.intro (H2.out.1.trans (b3.mono H2.out.1.size)) (And.intro (H2.out.2.2.1.new b3) (And.intro (H2.out.2.2.2.new b3) (show Z + 2 ≤ w3.heap.size by have := b3.size; have := H2.out.2.1; omega)))); clear b3 c0 c1 c2 c3)
      | (go_at_call 41; refine (HHi.out _).mono ?_; rintro e w' ⟨rfl, rfl⟩)
      | fail)
    clear H2 HS HHi hor
    have HKp := Lib.hid (show ∀ wx, Below w3.heap.size w3 wx → Below w.heap.size w wx ∧ RowAt wx Z 26 #[.int .i64 x.res, .slice (some ⟨S.t.b, S.t.o, none⟩) nT S.t.c, .slice S.m.sp nM S.m.c, .slice S.e.sp nE S.e.c] ∧ RowAt wx (Z + 1) 27 T from fun wx hb => ⟨H3.out.1.trans (hb.mono H3.out.1.size), H3.out.2.1.new hb, H3.out.2.2.1.new hb⟩)
    obtain ⟨rf, hrf⟩ : ∃ rf : Nat → List Value, (fun i => tmRow (tmO x fo (lst y i))) = rf := ⟨_, rfl⟩
    have HRf := Lib.hid (show ∀ i, rf (i + 1) = if y.getLsbD i = true then rf i ++ tmC (tmOf2 x fo i) else rf i from fun i => by rw [← hrf]; exact tmO_succ x fo y i)
    have HR0 := Lib.hid (show rf 0 = [] by rw [← hrf]; rfl)
    have HRi := Lib.hid (show rf i = tmRow (tmO x fo (lst y i)) by rw [← hrf])
    have HTs := Lib.hid (show ∀ (wr : World) u, wr.ownsRow w3.heap.size 89 4 u (lst y i).length (rf i) → ∃ S : Src, u = .slice S.sp (tmO x fo (lst y i)).length S.c ∧ TermsAt wr (fun j => j < w3.heap.size) S (tmO x fo (lst y i)) from fun wr u h => by
      rw [HRi.out, ← tmO_len x fo] at h
      exact own_terms h (by rw [tmO_len]; have := lst_len y i; omega))
    have HGt := Lib.hid (good_tmO HGd.out.1 HGd.out.2 (L := lst y i) (fun j hj => by have := lst_lt19 hj; rw [HN.out]; omega))
    clear hrf
    go_wp2
    go_loopg [13, 14] i (fun g u v wr => ∃ j : Nat, j + g = i ∧ v = .int .i64 (j : Nat) ∧ Aside (Below w3.heap.size w3 wr ∧ wr.ownsRow w3.heap.size 89 4 u (lst y j).length (rf j)))
    case atStart => exact ⟨0, by omega, rfl, Below.refl _ _, by rw [HR0.out]; exact World.ownsRow_nil _ _ _ _⟩
    case round =>
      obtain ⟨j, hjg, rfl, HQ⟩ := hrel
      cases gk with
      | zero =>
        obtain rfl : i = j := by omega
        clear hjg
        have HTe := Lib.hid (HTs.out _ _ HQ.out.2)
        obtain ⟨S6, rfl, t6⟩ := HTe.out
        have H6 := Lib.hid t6
        obtain ⟨hbw, hrz, hrt⟩ := HKp.out wr HQ.out.1
        obtain ⟨q0, q1, q2, q3, q4, q5, q6, q7, q8, q9, q10⟩ := HTc.out wr hbw i hi
        obtain ⟨c0, c1, c2, c3⟩ := img_cells hrz
        have hcs := hG.cost i (by rw [HN.out]; exact hi)
        have hdl := hG.dl i (by rw [HN.out]; exact hi)
        have hoi := HGd.out.2 i e16
        have HOj := Lib.hid (HO.out i e16)
        obtain ⟨f, hf⟩ : ∃ f, lonF x i = f := ⟨_, rfl⟩
        obtain ⟨a0, ha0⟩ : ∃ a, (x.t i).per = a := ⟨_, rfl⟩
        obtain ⟨a1, ha1⟩ : ∃ a, (x.t i).dl = a := ⟨_, rfl⟩
        obtain ⟨a2, ha2⟩ : ∃ a, (x.t i).cost = a := ⟨_, rfl⟩
        obtain ⟨oi, ho⟩ : ∃ a, fo i = a := ⟨_, rfl⟩
        obtain ⟨bk, hbk2⟩ : ∃ a, blkF x y (ceilF x y) (i : Int) = a := ⟨_, rfl⟩
        have HR := Lib.hid (show lookR (a2 + bk) (a1 + oi) (tmO x fo (lst y i)) = LO by rw [← ha1, ← ha2, ← ho, ← hbk2]; exact HLO.out)
        have HBj := Lib.hid HBk.out
        rw [hbk2] at HBj hbk
        rw [ha0] at q0
        rw [hf] at q3 q4 q5 q6 q7 q8 q9 q10
        rw [ha1] at q1 hdl
        rw [ha2] at q2 hcs
        rw [ho] at HOj hoi
        have HWr := Lib.hid (show IntKind.i64.wrap (a2 + bk) = a2 + bk ∧ IntKind.i64.wrap (a1 + oi) = a1 + oi by rw [IntKind.wrap_i64, IntKind.wrap_i64]; omega)
        have HLe := Lib.hid (show ∀ (wx : World) (V' : Nat → Prop) (S' : Src), TermsAt wx V' S' (tmO x fo (lst y i)) → _ from fun wx V' S' ht => rleast_any ht (by rw [tmO_len]; have := lst_len y i; omega) (a2 + bk) (a1 + oi) (by omega) (by omega) (by omega) HGt.out)
        obtain ⟨L, hL⟩ : ∃ L, tmO x fo (lst y i) = L := ⟨_, rfl⟩
        rw [hL] at HLe HR H6 ⊢
        clear hL HTe
        have hkb := World.block_lt_of_cell? wr _ q0
        simp only at hkb
        go_upto_region 12 with fail
        generalize hw4 : World.alloc wr _ = w4
        have H4 := Lib.hid (show Below wr.heap.size wr w4 ∧ w4.cell? ⟨wr.heap.size, 1, none⟩ = some (.int .i64 a1) ∧ w4.cell? ⟨wr.heap.size, 2, none⟩ = some (.int .i64 a2) ∧ wr.heap.size < w4.heap.size by
          rw [← hw4]
          have r1 := RowAt.mk wr 70 #[.int .i64 a0, .int .i64 a1, .int .i64 a2, .int .i64 (f 0), .int .i64 (f 1), .int .i64 (f 2), .int .i64 (f 3), .int .i64 (f 4), .int .i64 (f 5), .int .i64 (f 6), .int .i64 (f 7)]
          exact ⟨(Below.refl _ _).alloc (Nat.le_refl _) _, r1.cell 1, r1.cell 2, by simp⟩)
        have HBr := Lib.hid (show ∀ w', Below w4.heap.size w4 w' → Below wr.heap.size wr w' from fun w' hb => H4.out.1.trans (hb.mono H4.out.1.size))
        have HB3 := Lib.hid (show ∀ w', Below w4.heap.size w4 w' → Below w3.heap.size w3 w' from fun w' hb => HQ.out.1.trans ((HBr.out w' hb).mono HQ.out.1.size))
        have HBw := Lib.hid (show ∀ w', Below w4.heap.size w4 w' → Below w.heap.size w w' from fun w' hb => (HKp.out w' (HB3.out w' hb)).1)
        have HCe := Lib.hid (show ∀ w', Below w4.heap.size w4 w' → (w'.cell? ⟨Z, 0, none⟩ = some (.int .i64 x.res) ∧ w'.cell? ⟨Z, 1, none⟩ = some (.slice (some ⟨S.t.b, S.t.o, none⟩) nT S.t.c) ∧ w'.cell? ⟨Z, 2, none⟩ = some (.slice S.m.sp nM S.m.c) ∧ w'.cell? ⟨Z, 3, none⟩ = some (.slice S.e.sp nE S.e.c) ∧ w'.cell? ⟨wr.heap.size, 1, none⟩ = some (.int .i64 a1) ∧ w'.cell? ⟨wr.heap.size, 2, none⟩ = some (.int .i64 a2)) ∧ RowAt w' (Z + 1) 27 T from fun w' hb => by
          have kk := HKp.out w' (HB3.out w' hb)
          exact ⟨⟨kk.2.1.cell 0, kk.2.1.cell 1, kk.2.1.cell 2, kk.2.1.cell 3, (hb.cell H4.out.2.2.2).trans H4.out.2.1, (hb.cell H4.out.2.2.2).trans H4.out.2.2.1⟩, kk.2.2⟩)
        have HTm := Lib.hid (show ∀ w', Below w4.heap.size w4 w' → TermsAt w' (fun j => j < w3.heap.size) S6 L from fun w' hb => H6.out.new (HBr.out w' hb))
        clear hw4 q0 q1 q2 q3 q4 q5 q6 q7 q8 q9 q10 hkb c0 c1 c2 c3 hrz hrt t6
        refine wp_region_held_drew (S := fun w' => Below w4.heap.size w4 w') (by kernel_rfl) (below_dn (Below.refl _ _) 1) (fun hS => ?_)
        refine wpAnyH_take (i := 0) (oi := { dst := some 63, op := .fieldAddr 70 (.tmp 15) 2, type := 0, pos := "ref.go:40", after := #[], guard := none }) (v := ?_) rfl (by kernel_rfl) (by kernel_rfl) (by kernel_rfl) (fun _ _ _ h => h) (Or.inl ⟨by rfl, ?_⟩) hS ?_
        rotate_left 1
        · intro w hw; obtain hs := hw; go_simp; try (with_reducible rfl)
        simp only [Act.put, List.setIfInBounds_toArray, List.set_cons_zero, List.set_cons_succ]
        refine wpAnyH_take (i := 1) (oi := { dst := some 64, op := .load 3 (.tmp 63), type := 3, pos := "ref.go:40", after := #[{ on := 0, ground := .data }], guard := none }) (v := ?_) rfl (by kernel_rfl) (by kernel_rfl) (by kernel_rfl) (fun _ _ _ h => h) (Or.inl ⟨by rfl, ?_⟩) hS ?_
        rotate_left 1
        · intro w hw; obtain hs := hw; obtain ⟨⟨k0, k1, k2, k3, k4, k5⟩, -⟩ := HCe.out _ hw; go_simp; try (with_reducible rfl)
        simp only [Act.put, List.setIfInBounds_toArray, List.set_cons_zero, List.set_cons_succ]
        refine wpAnyH_take (i := 2) (oi := { dst := some 65, op := .load 26 (.tmp 4), type := 26, pos := "ref.go:40", after := #[], guard := none }) (v := ?_) rfl (by kernel_rfl) (by kernel_rfl) (by kernel_rfl) (fun _ _ _ h => h) (Or.inl ⟨by rfl, ?_⟩) hS ?_
        rotate_left 1
        · intro w hw; obtain hs := hw; obtain ⟨⟨k0, k1, k2, k3, k4, k5⟩, -⟩ := HCe.out _ hw; go_simp; try (with_reducible rfl)
        simp only [Act.put, List.setIfInBounds_toArray, List.set_cons_zero, List.set_cons_succ]
        refine wpAnyH_take (i := 3) (oi := { dst := some 66, op := .move (.tmp 12), type := 30, pos := "ref.go:40", after := #[], guard := none }) (v := ?_) rfl (by kernel_rfl) (by kernel_rfl) (by kernel_rfl) (fun _ _ _ h => h) (Or.inl ⟨by rfl, ?_⟩) hS ?_
        rotate_left 1
        · intro w hw; obtain hs := hw; go_simp; try (with_reducible rfl)
        simp only [Act.put, List.setIfInBounds_toArray, List.set_cons_zero, List.set_cons_succ]
        refine wpAnyH_take (i := 4) (oi := { dst := some 67, op := .move (.tmp 12), type := 30, pos := "ref.go:40", after := #[], guard := none }) (v := ?_) rfl (by kernel_rfl) (by kernel_rfl) (by kernel_rfl) (fun _ _ _ h => h) (Or.inl ⟨by rfl, ?_⟩) hS ?_
        rotate_left 1
        · intro w hw; obtain hs := hw; go_simp; try (with_reducible rfl)
        simp only [Act.put, List.setIfInBounds_toArray, List.set_cons_zero, List.set_cons_succ]
        refine wpAnyH_take (i := 5) (oi := { dst := some 68, op := .move (.tmp 3), type := 3, pos := "ref.go:40", after := #[], guard := none }) (v := ?_) rfl (by kernel_rfl) (by kernel_rfl) (by kernel_rfl) (fun _ _ _ h => h) (Or.inl ⟨by rfl, ?_⟩) hS ?_
        rotate_left 1
        · intro w hw; obtain hs := hw; go_simp; try (with_reducible rfl)
        simp only [Act.put, List.setIfInBounds_toArray, List.set_cons_zero, List.set_cons_succ]
        refine wpAnyH_take (i := 8) (oi := { dst := some 71, op := .fieldAddr 70 (.tmp 15) 1, type := 0, pos := "ref.go:40", after := #[], guard := none }) (v := ?_) rfl (by kernel_rfl) (by kernel_rfl) (by kernel_rfl) (fun _ _ _ h => h) (Or.inl ⟨by rfl, ?_⟩) hS ?_
        rotate_left 1
        · intro w hw; obtain hs := hw; go_simp; try (with_reducible rfl)
        simp only [Act.put, List.setIfInBounds_toArray, List.set_cons_zero, List.set_cons_succ]
        refine wpAnyH_take (i := 9) (oi := { dst := some 72, op := .load 3 (.tmp 71), type := 3, pos := "ref.go:40", after := #[{ on := 8, ground := .data }], guard := none }) (v := ?_) rfl (by kernel_rfl) (by kernel_rfl) (by kernel_rfl) (fun _ _ _ h => h) (Or.inl ⟨by rfl, ?_⟩) hS ?_
        rotate_left 1
        · intro w hw; obtain hs := hw; obtain ⟨⟨k0, k1, k2, k3, k4, k5⟩, -⟩ := HCe.out _ hw; go_simp; try (with_reducible rfl)
        simp only [Act.put, List.setIfInBounds_toArray, List.set_cons_zero, List.set_cons_succ]
        refine wpAnyH_take (i := 10) (oi := { dst := some 73, op := .load 26 (.tmp 4), type := 26, pos := "ref.go:40", after := #[], guard := none }) (v := ?_) rfl (by kernel_rfl) (by kernel_rfl) (by kernel_rfl) (fun _ _ _ h => h) (Or.inl ⟨by rfl, ?_⟩) hS ?_
        rotate_left 1
        · intro w hw; obtain hs := hw; obtain ⟨⟨k0, k1, k2, k3, k4, k5⟩, -⟩ := HCe.out _ hw; go_simp; try (with_reducible rfl)
        simp only [Act.put, List.setIfInBounds_toArray, List.set_cons_zero, List.set_cons_succ]
        refine wpAnyH_take (i := 11) (oi := { dst := some 74, op := .move (.tmp 1), type := 3, pos := "ref.go:40", after := #[], guard := none }) (v := ?_) rfl (by kernel_rfl) (by kernel_rfl) (by kernel_rfl) (fun _ _ _ h => h) (Or.inl ⟨by rfl, ?_⟩) hS ?_
        rotate_left 1
        · intro w hw; obtain hs := hw; go_simp; try (with_reducible rfl)
        simp only [Act.put, List.setIfInBounds_toArray, List.set_cons_zero, List.set_cons_succ]
        refine wpAnyH_take (i := 12) (oi := { dst := some 75, op := .load 27 (.tmp 6), type := 27, pos := "ref.go:40", after := #[], guard := none }) (v := (.agg T)) rfl (by kernel_rfl) (by kernel_rfl) (by kernel_rfl) (fun _ _ _ h => h) (Or.inl ⟨by rfl, ?_⟩) hS ?_
        · intro w hw; obtain hs := hw; exact exec_load_row 27 (.tmp 6) (by exact rfl) (Z + 1) (by exact rfl) 27 T (0, 0) _ (HCe.out _ hw).2 Tryd.underlying27 rfl HTi.out
        simp only [Act.put, List.setIfInBounds_toArray, List.set_cons_zero, List.set_cons_succ]
        refine wpAnyH_take (i := 13) (oi := { dst := some 76, op := .move (.tmp 3), type := 3, pos := "ref.go:40", after := #[], guard := none }) (v := ?_) rfl (by kernel_rfl) (by kernel_rfl) (by kernel_rfl) (fun _ _ _ h => h) (Or.inl ⟨by rfl, ?_⟩) hS ?_
        rotate_left 1
        · intro w hw; obtain hs := hw; go_simp; try (with_reducible rfl)
        simp only [Act.put, List.setIfInBounds_toArray, List.set_cons_zero, List.set_cons_succ]
        refine wpAnyH_take (i := 16) (oi := { dst := some 79, op := .move (.tmp 13), type := 86, pos := "ref.go:40", after := #[], guard := none }) (v := ?_) rfl (by kernel_rfl) (by kernel_rfl) (by kernel_rfl) (fun _ _ _ h => h) (Or.inl ⟨by rfl, ?_⟩) hS ?_
        rotate_left 1
        · intro w hw; obtain hs := hw; go_simp; try (with_reducible rfl)
        simp only [Act.put, List.setIfInBounds_toArray, List.set_cons_zero, List.set_cons_succ]
        refine wpAnyH_ready (rs := [6]) (by kernel_rfl) (by simp) (AllReadyH.cons (o := { dst := some 69, op := .call { callee := .value (.func 44), args := #[.tmp 65, .tmp 66, .tmp 67, .tmp 68], argTypes := #[26, 30, 30, 3] }, type := 3, pos := "ref.go:40", after := #[{ on := 2, ground := .data }, { on := 3, ground := .data }, { on := 4, ground := .data }, { on := 5, ground := .data }], guard := none }) rfl (fun K hK => ?_) AllReadyH.nil)
        go_simp
        go_at_call 44
        refine (HBj.out _ (HBw.out _ hS)).mono ?_
        rintro e w5 ⟨rfl, b5⟩
        have H5 := Lib.hid (show Below w4.heap.size w4 w5 from (hS).trans (b5.mono (hS).size))
        clear b5
        try dsimp only
        refine hK.out _ _ H5.out (fun hHeld => ?_)
        clear hK K
        try simp only [Act.put, List.setIfInBounds_toArray, List.set_cons_zero, List.set_cons_succ]
        refine wpAnyH_take (i := 7) (oi := { dst := some 70, op := .binOp .add 3 (.tmp 64) (.tmp 69) 3, type := 3, pos := "ref.go:40", after := #[{ on := 1, ground := .data }, { on := 6, ground := .data }], guard := none }) (v := (.int .i64 (a2 + bk))) rfl (by kernel_rfl) (by kernel_rfl) (by kernel_rfl) (fun _ _ _ h => h) (Or.inl ⟨by rfl, ?_⟩) H5.out ?_
        · intro w hw; obtain hs := hw; have k0 := HWr.out.1; go_simp; try (with_reducible rfl)
        simp only [Act.put, List.setIfInBounds_toArray, List.set_cons_zero, List.set_cons_succ]
        refine wpAnyH_ready (rs := [14]) (by kernel_rfl) (by simp) (AllReadyH.cons (o := { dst := some 77, op := .call { callee := .value (.func 42), args := #[.tmp 73, .tmp 74, .tmp 75, .tmp 76], argTypes := #[26, 3, 27, 3] }, type := 3, pos := "ref.go:40", after := #[{ on := 10, ground := .data }, { on := 11, ground := .data }, { on := 12, ground := .data }, { on := 13, ground := .data }, { on := 6, ground := .chain }], guard := none }) rfl (fun K hK => ?_) AllReadyH.nil)
        go_simp
        go_at_call 42
        refine (HOj.out _ (HBw.out _ H5.out)).mono ?_
        rintro e w6 ⟨rfl, b6⟩
        have H6b := Lib.hid (show Below w4.heap.size w4 w6 from (H5.out).trans (b6.mono (H5.out).size))
        clear b6
        try dsimp only
        refine hK.out _ _ H6b.out (fun hHeld => ?_)
        clear hK K
        try simp only [Act.put, List.setIfInBounds_toArray, List.set_cons_zero, List.set_cons_succ]
        refine wpAnyH_take (i := 15) (oi := { dst := some 78, op := .binOp .add 3 (.tmp 72) (.tmp 77) 3, type := 3, pos := "ref.go:40", after := #[{ on := 9, ground := .data }, { on := 14, ground := .data }], guard := none }) (v := (.int .i64 (a1 + oi))) rfl (by kernel_rfl) (by kernel_rfl) (by kernel_rfl) (fun _ _ _ h => h) (Or.inl ⟨by rfl, ?_⟩) H6b.out ?_
        · intro w hw; obtain hs := hw; have k0 := HWr.out.2; go_simp; try (with_reducible rfl)
        simp only [Act.put, List.setIfInBounds_toArray, List.set_cons_zero, List.set_cons_succ]
        refine wpAnyH_ready (rs := [17]) (by kernel_rfl) (by simp) (AllReadyH.cons (o := { dst := some 80, op := .call { callee := .value (.func 43), args := #[.tmp 70, .tmp 78, .tmp 79], argTypes := #[3, 3, 86] }, type := 40, pos := "ref.go:40", after := #[{ on := 7, ground := .data }, { on := 15, ground := .data }, { on := 16, ground := .data }, { on := 14, ground := .chain }], guard := none }) rfl (fun K hK => ?_) AllReadyH.nil)
        go_simp
        go_at_call 43
        refine (HLe.out _ _ S6 (HTm.out _ H6b.out)).mono ?_
        rintro e w7 ⟨rfl, b7⟩
        rw [HR.out]
        have H7 := Lib.hid (show Below w4.heap.size w4 w7 from H6b.out.trans (b7.mono H6b.out.size))
        clear b7
        try dsimp only
        refine hK.out _ _ H7.out (fun hHeld => ?_)
        clear hK K
        try simp only [Act.put, List.setIfInBounds_toArray, List.set_cons_zero, List.set_cons_succ]
        refine wpAnyH_take (i := 18) (oi := { dst := some 81, op := .extract (.tmp 80) 0, type := 3, pos := "ref.go:40", after := #[{ on := 17, ground := .data }], guard := none }) (v := ?_) rfl (by kernel_rfl) (by kernel_rfl) (by kernel_rfl) (fun _ _ _ h => h) (Or.inl ⟨by rfl, ?_⟩) H7.out ?_
        rotate_left 1
        · intro w hw; obtain hs := hw; go_simp; try (with_reducible rfl)
        simp only [Act.put, List.setIfInBounds_toArray, List.set_cons_zero, List.set_cons_succ]
        refine wpAnyH_take (i := 19) (oi := { dst := some 82, op := .extract (.tmp 80) 1, type := 4, pos := "ref.go:40", after := #[{ on := 17, ground := .data }], guard := none }) (v := ?_) rfl (by kernel_rfl) (by kernel_rfl) (by kernel_rfl) (fun _ _ _ h => h) (Or.inl ⟨by rfl, ?_⟩) H7.out ?_
        rotate_left 1
        · intro w hw; obtain hs := hw; go_simp; try (with_reducible rfl)
        simp only [Act.put, List.setIfInBounds_toArray, List.set_cons_zero, List.set_cons_succ]
        refine wpAnyH_take (i := 20) (oi := { dst := some 8, op := .assign (.tmp 81), type := 3, pos := "ref.go:40", after := #[{ on := 18, ground := .data }, { on := 17, ground := .chain }, { on := 0, ground := .phase }, { on := 1, ground := .phase }, { on := 2, ground := .phase }, { on := 3, ground := .phase }, { on := 4, ground := .phase }, { on := 5, ground := .phase }, { on := 6, ground := .phase }, { on := 7, ground := .phase }, { on := 8, ground := .phase }, { on := 9, ground := .phase }, { on := 10, ground := .phase }, { on := 11, ground := .phase }, { on := 12, ground := .phase }, { on := 13, ground := .phase }, { on := 14, ground := .phase }, { on := 15, ground := .phase }, { on := 16, ground := .phase }, { on := 17, ground := .phase }, { on := 18, ground := .phase }, { on := 19, ground := .phase }], guard := none }) (v := ?_) rfl (by kernel_rfl) (by kernel_rfl) (by kernel_rfl) (fun _ _ _ h => h) (Or.inl ⟨by rfl, ?_⟩) H7.out ?_
        rotate_left 1
        · intro w hw; obtain hs := hw; go_simp; try (with_reducible rfl)
        simp only [Act.put, List.setIfInBounds_toArray, List.set_cons_zero, List.set_cons_succ]
        refine wpAnyH_take (i := 21) (oi := { dst := some 9, op := .assign (.tmp 82), type := 4, pos := "ref.go:40", after := #[{ on := 19, ground := .data }, { on := 20, ground := .chain }, { on := 0, ground := .phase }, { on := 1, ground := .phase }, { on := 2, ground := .phase }, { on := 3, ground := .phase }, { on := 4, ground := .phase }, { on := 5, ground := .phase }, { on := 6, ground := .phase }, { on := 7, ground := .phase }, { on := 8, ground := .phase }, { on := 9, ground := .phase }, { on := 10, ground := .phase }, { on := 11, ground := .phase }, { on := 12, ground := .phase }, { on := 13, ground := .phase }, { on := 14, ground := .phase }, { on := 15, ground := .phase }, { on := 16, ground := .phase }, { on := 17, ground := .phase }, { on := 18, ground := .phase }, { on := 19, ground := .phase }, { on := 20, ground := .phase }], guard := none }) (v := ?_) rfl (by kernel_rfl) (by kernel_rfl) (by kernel_rfl) (fun _ _ _ h => h) (Or.inl ⟨by rfl, ?_⟩) H7.out ?_
        rotate_left 1
        · intro w hw; obtain hs := hw; go_simp; try (with_reducible rfl)
        simp only [Act.put, List.setIfInBounds_toArray, List.set_cons_zero, List.set_cons_succ]
        refine wpAnyH_done (by kernel_rfl) ?_ _

        go_wp2
        go_ret2
        exact ⟨rfl, HBw.out _ H7.out⟩
      | succ g1 =>
        obtain ⟨sp', cap, rfl⟩ := own_val HQ.out.2
        have hjk : j < nT := by omega
        have e1 : (j : Int) < (nT : Int) := by omega
        have e2 : (j : Int) < (i : Int) := by omega
        have HH2 := Lib.hid (HH.out j)
        rw [hasB_nat y j (by omega)] at HH2
        have hls := HRf.out j
        have hl1 := lst_succ y j
        cases hbb : y.getLsbD j
        case false =>
          rw [hbb] at HH2 hls hl1
          have HLS := Lib.hid (And.intro hls hl1)
          clear hls hl1 hbb
          go_wp2_with (first
            | (go_at_call 41; refine (HH2.out _).mono ?_; rintro e w' ⟨rfl, rfl⟩)
            | fail)
          go_roundg g1
          case measure => omega
          case rel => exact ⟨j + 1, by omega, by go_num, HQ.out.1, by rw [HLS.out.1, HLS.out.2]; exact HQ.out.2⟩
        case true =>
          rw [hbb] at HH2 hls hl1
          have HLS := Lib.hid (And.intro hls hl1)
          obtain ⟨q0, q1, q2, q3, q4, q5, q6, q7, q8, q9, q10⟩ := HTc.out wr (HKp.out wr HQ.out.1).1 j hjk
          have HOj := Lib.hid (HO.out j (by omega))
          have hkb := World.block_lt_of_cell? wr _ q0
          simp only at hkb
          obtain ⟨a0, ha0⟩ : ∃ a, (x.t j).per = a := ⟨_, rfl⟩
          obtain ⟨a2, ha2⟩ : ∃ a, (x.t j).cost = a := ⟨_, rfl⟩
          obtain ⟨oj, hoj⟩ : ∃ a, fo j = a := ⟨_, rfl⟩
          have HT := Lib.hid (show tmC (tmOf2 x fo j) = [.int .i64 a0, .int .i64 a2, .int .i64 oj, .int .i64 0] by rw [← ha0, ← ha2, ← hoj]; rfl)
          rw [ha0] at q0
          rw [ha2] at q2
          rw [hoj] at HOj
          have HCe := Lib.hid (show ∀ w', Below w3.heap.size w3 w' → (w'.cell? ⟨Z, 0, none⟩ = some (.int .i64 x.res) ∧ w'.cell? ⟨Z, 1, none⟩ = some (.slice (some ⟨S.t.b, S.t.o, none⟩) nT S.t.c) ∧ w'.cell? ⟨Z, 2, none⟩ = some (.slice S.m.sp nM S.m.c) ∧ w'.cell? ⟨Z, 3, none⟩ = some (.slice S.e.sp nE S.e.c) ∧ w'.cell? ⟨S.t.b, S.t.o + j * 11, none⟩ = some (.int .i64 a0) ∧ w'.cell? ⟨S.t.b, S.t.o + j * 11 + 2, none⟩ = some (.int .i64 a2)) ∧ RowAt w' (Z + 1) 27 T from fun w' hb => by
            have kk := HKp.out w' hb
            obtain ⟨p0, -, p2, -⟩ := HTc.out w' kk.1 j hjk
            rw [ha0] at p0
            rw [ha2] at p2
            exact ⟨⟨kk.2.1.cell 0, kk.2.1.cell 1, kk.2.1.cell 2, kk.2.1.cell 3, p0, p2⟩, kk.2.2⟩)
          have HBw := Lib.hid (show ∀ w', Below w3.heap.size w3 w' → Below w.heap.size w w' from fun w' hb => (HKp.out w' hb).1)
          have HLen := Lib.hid (show (lst y j).length ≤ 16 by have := lst_len y j; omega)
          have HSz := Lib.hid (show w3.heap.size ≤ wr.heap.size from HQ.out.1.size)
          clear hls hl1 hbb q0 q1 q2 q3 q4 q5 q6 q7 q8 q9 q10 hkb ha0 ha2 hoj
          go_upto_region 10 with (first
            | (go_at_call 41; refine (HH2.out _).mono ?_; rintro e w' ⟨rfl, rfl⟩)
            | fail)
          clear HH2
          refine wp_region_g (fun w' => Below w3.heap.size w3 w') 21 (by kernel_rfl) (below_dn HQ.out.1 1) (fun hS => ?_)
          refine wpAnyG_take (i := 0) (oi := { dst := some 37, op := .move (.tmp 13), type := 86, pos := "ref.go:36", after := #[], guard := none }) (v := ?_) rfl (by kernel_rfl) (by kernel_rfl) (by kernel_rfl) (by kernel_rfl) (fun _ _ _ h => h) (Or.inl ⟨by rfl, ?_⟩) hS ?_
          rotate_left 1
          · intro w hw; obtain hs := hw; go_simp; try (with_reducible rfl)
          simp only [Act.put, List.setIfInBounds_toArray, List.set_cons_zero, List.set_cons_succ]
          refine wpAnyG_take (i := 1) (oi := { dst := some 38, op := .fieldAddr 26 (.tmp 4) 1, type := 0, pos := "ref.go:36", after := #[], guard := none }) (v := ?_) rfl (by kernel_rfl) (by kernel_rfl) (by kernel_rfl) (by kernel_rfl) (fun _ _ _ h => h) (Or.inl ⟨by rfl, ?_⟩) hS ?_
          rotate_left 1
          · intro w hw; obtain hs := hw; go_simp; try (with_reducible rfl)
          simp only [Act.put, List.setIfInBounds_toArray, List.set_cons_zero, List.set_cons_succ]
          refine wpAnyG_take (i := 2) (oi := { dst := some 39, op := .load 22 (.tmp 38), type := 22, pos := "ref.go:36", after := #[{ on := 1, ground := .data }], guard := none }) (v := ?_) rfl (by kernel_rfl) (by kernel_rfl) (by kernel_rfl) (by kernel_rfl) (fun _ _ _ h => h) (Or.inl ⟨by rfl, ?_⟩) hS ?_
          rotate_left 1
          · intro w hw; obtain hs := hw; obtain ⟨⟨k0, k1, k2, k3, k4, k5⟩, -⟩ := HCe.out _ hw; go_simp; try (with_reducible rfl)
          simp only [Act.put, List.setIfInBounds_toArray, List.set_cons_zero, List.set_cons_succ]
          refine wpAnyG_take (i := 3) (oi := { dst := some 40, op := .move (.tmp 14), type := 3, pos := "ref.go:36", after := #[], guard := none }) (v := ?_) rfl (by kernel_rfl) (by kernel_rfl) (by kernel_rfl) (by kernel_rfl) (fun _ _ _ h => h) (Or.inl ⟨by rfl, ?_⟩) hS ?_
          rotate_left 1
          · intro w hw; obtain hs := hw; go_simp; try (with_reducible rfl)
          simp only [Act.put, List.setIfInBounds_toArray, List.set_cons_zero, List.set_cons_succ]
          refine wpAnyG_take (i := 4) (oi := { dst := some 41, op := .indexAddr 22 (.tmp 39) (.tmp 40), type := 0, pos := "ref.go:36", after := #[{ on := 2, ground := .data }, { on := 3, ground := .data }], guard := none }) (v := ?_) rfl (by kernel_rfl) (by kernel_rfl) (by kernel_rfl) (by kernel_rfl) (fun _ _ _ h => h) (Or.inl ⟨by rfl, ?_⟩) hS ?_
          rotate_left 1
          · intro w hw; obtain hs := hw; obtain ⟨⟨k0, k1, k2, k3, k4, k5⟩, -⟩ := HCe.out _ hw; go_simp; try (with_reducible rfl)
          simp only [Act.put, List.setIfInBounds_toArray, List.set_cons_zero, List.set_cons_succ]
          refine wpAnyG_take (i := 5) (oi := { dst := some 42, op := .fieldAddr 70 (.tmp 41) 0, type := 0, pos := "ref.go:36", after := #[{ on := 4, ground := .data }], guard := none }) (v := ?_) rfl (by kernel_rfl) (by kernel_rfl) (by kernel_rfl) (by kernel_rfl) (fun _ _ _ h => h) (Or.inl ⟨by rfl, ?_⟩) hS ?_
          rotate_left 1
          · intro w hw; obtain hs := hw; go_simp; try (with_reducible rfl)
          simp only [Act.put, List.setIfInBounds_toArray, List.set_cons_zero, List.set_cons_succ]
          refine wpAnyG_take (i := 6) (oi := { dst := some 43, op := .load 3 (.tmp 42), type := 3, pos := "ref.go:36", after := #[{ on := 5, ground := .data }], guard := none }) (v := ?_) rfl (by kernel_rfl) (by kernel_rfl) (by kernel_rfl) (by kernel_rfl) (fun _ _ _ h => h) (Or.inl ⟨by rfl, ?_⟩) hS ?_
          rotate_left 1
          · intro w hw; obtain hs := hw; obtain ⟨⟨k0, k1, k2, k3, k4, k5⟩, -⟩ := HCe.out _ hw; go_simp; try (with_reducible rfl)
          simp only [Act.put, List.setIfInBounds_toArray, List.set_cons_zero, List.set_cons_succ]
          refine wpAnyG_take (i := 7) (oi := { dst := some 44, op := .fieldAddr 26 (.tmp 4) 1, type := 0, pos := "ref.go:36", after := #[], guard := none }) (v := ?_) rfl (by kernel_rfl) (by kernel_rfl) (by kernel_rfl) (by kernel_rfl) (fun _ _ _ h => h) (Or.inl ⟨by rfl, ?_⟩) hS ?_
          rotate_left 1
          · intro w hw; obtain hs := hw; go_simp; try (with_reducible rfl)
          simp only [Act.put, List.setIfInBounds_toArray, List.set_cons_zero, List.set_cons_succ]
          refine wpAnyG_take (i := 8) (oi := { dst := some 45, op := .load 22 (.tmp 44), type := 22, pos := "ref.go:36", after := #[{ on := 7, ground := .data }], guard := none }) (v := ?_) rfl (by kernel_rfl) (by kernel_rfl) (by kernel_rfl) (by kernel_rfl) (fun _ _ _ h => h) (Or.inl ⟨by rfl, ?_⟩) hS ?_
          rotate_left 1
          · intro w hw; obtain hs := hw; obtain ⟨⟨k0, k1, k2, k3, k4, k5⟩, -⟩ := HCe.out _ hw; go_simp; try (with_reducible rfl)
          simp only [Act.put, List.setIfInBounds_toArray, List.set_cons_zero, List.set_cons_succ]
          refine wpAnyG_take (i := 9) (oi := { dst := some 46, op := .move (.tmp 14), type := 3, pos := "ref.go:36", after := #[], guard := none }) (v := ?_) rfl (by kernel_rfl) (by kernel_rfl) (by kernel_rfl) (by kernel_rfl) (fun _ _ _ h => h) (Or.inl ⟨by rfl, ?_⟩) hS ?_
          rotate_left 1
          · intro w hw; obtain hs := hw; go_simp; try (with_reducible rfl)
          simp only [Act.put, List.setIfInBounds_toArray, List.set_cons_zero, List.set_cons_succ]
          refine wpAnyG_take (i := 10) (oi := { dst := some 47, op := .indexAddr 22 (.tmp 45) (.tmp 46), type := 0, pos := "ref.go:36", after := #[{ on := 8, ground := .data }, { on := 9, ground := .data }], guard := none }) (v := ?_) rfl (by kernel_rfl) (by kernel_rfl) (by kernel_rfl) (by kernel_rfl) (fun _ _ _ h => h) (Or.inl ⟨by rfl, ?_⟩) hS ?_
          rotate_left 1
          · intro w hw; obtain hs := hw; obtain ⟨⟨k0, k1, k2, k3, k4, k5⟩, -⟩ := HCe.out _ hw; go_simp; try (with_reducible rfl)
          simp only [Act.put, List.setIfInBounds_toArray, List.set_cons_zero, List.set_cons_succ]
          refine wpAnyG_take (i := 11) (oi := { dst := some 48, op := .fieldAddr 70 (.tmp 47) 2, type := 0, pos := "ref.go:36", after := #[{ on := 10, ground := .data }], guard := none }) (v := ?_) rfl (by kernel_rfl) (by kernel_rfl) (by kernel_rfl) (by kernel_rfl) (fun _ _ _ h => h) (Or.inl ⟨by rfl, ?_⟩) hS ?_
          rotate_left 1
          · intro w hw; obtain hs := hw; go_simp; try (with_reducible rfl)
          simp only [Act.put, List.setIfInBounds_toArray, List.set_cons_zero, List.set_cons_succ]
          refine wpAnyG_take (i := 12) (oi := { dst := some 49, op := .load 3 (.tmp 48), type := 3, pos := "ref.go:36", after := #[{ on := 11, ground := .data }], guard := none }) (v := ?_) rfl (by kernel_rfl) (by kernel_rfl) (by kernel_rfl) (by kernel_rfl) (fun _ _ _ h => h) (Or.inl ⟨by rfl, ?_⟩) hS ?_
          rotate_left 1
          · intro w hw; obtain hs := hw; obtain ⟨⟨k0, k1, k2, k3, k4, k5⟩, -⟩ := HCe.out _ hw; go_simp; try (with_reducible rfl)
          simp only [Act.put, List.setIfInBounds_toArray, List.set_cons_zero, List.set_cons_succ]
          refine wpAnyG_take (i := 13) (oi := { dst := some 50, op := .load 26 (.tmp 4), type := 26, pos := "ref.go:36", after := #[], guard := none }) (v := ?_) rfl (by kernel_rfl) (by kernel_rfl) (by kernel_rfl) (by kernel_rfl) (fun _ _ _ h => h) (Or.inl ⟨by rfl, ?_⟩) hS ?_
          rotate_left 1
          · intro w hw; obtain hs := hw; obtain ⟨⟨k0, k1, k2, k3, k4, k5⟩, -⟩ := HCe.out _ hw; go_simp; try (with_reducible rfl)
          simp only [Act.put, List.setIfInBounds_toArray, List.set_cons_zero, List.set_cons_succ]
          refine wpAnyG_take (i := 14) (oi := { dst := some 51, op := .move (.tmp 1), type := 3, pos := "ref.go:36", after := #[], guard := none }) (v := ?_) rfl (by kernel_rfl) (by kernel_rfl) (by kernel_rfl) (by kernel_rfl) (fun _ _ _ h => h) (Or.inl ⟨by rfl, ?_⟩) hS ?_
          rotate_left 1
          · intro w hw; obtain hs := hw; go_simp; try (with_reducible rfl)
          simp only [Act.put, List.setIfInBounds_toArray, List.set_cons_zero, List.set_cons_succ]
          refine wpAnyG_take (i := 15) (oi := { dst := some 52, op := .load 27 (.tmp 6), type := 27, pos := "ref.go:36", after := #[], guard := none }) (v := (.agg T)) rfl (by kernel_rfl) (by kernel_rfl) (by kernel_rfl) (by kernel_rfl) (fun _ _ _ h => h) (Or.inl ⟨by rfl, ?_⟩) hS ?_
          · intro w hw; obtain hs := hw; exact exec_load_row 27 (.tmp 6) (by exact rfl) (Z + 1) (by exact rfl) 27 T (0, 0) _ (HCe.out _ hw).2 Tryd.underlying27 rfl HTi.out
          simp only [Act.put, List.setIfInBounds_toArray, List.set_cons_zero, List.set_cons_succ]
          refine wpAnyG_take (i := 16) (oi := { dst := some 53, op := .move (.tmp 14), type := 3, pos := "ref.go:36", after := #[], guard := none }) (v := ?_) rfl (by kernel_rfl) (by kernel_rfl) (by kernel_rfl) (by kernel_rfl) (fun _ _ _ h => h) (Or.inl ⟨by rfl, ?_⟩) hS ?_
          rotate_left 1
          · intro w hw; obtain hs := hw; go_simp; try (with_reducible rfl)
          simp only [Act.put, List.setIfInBounds_toArray, List.set_cons_zero, List.set_cons_succ]
          refine wpAnyG_ready (rs := [17]) (by kernel_rfl) (by simp) (AllReadyG.cons (o := { dst := some 54, op := .call { callee := .value (.func 42), args := #[.tmp 50, .tmp 51, .tmp 52, .tmp 53], argTypes := #[26, 3, 27, 3] }, type := 3, pos := "ref.go:36", after := #[{ on := 13, ground := .data }, { on := 14, ground := .data }, { on := 15, ground := .data }, { on := 16, ground := .data }], guard := none }) rfl (fun K hK => ?_) AllReadyG.nil)
          go_simp
          go_at_call 42
          refine (HOj.out _ (HBw.out _ hS)).mono ?_
          rintro e w5 ⟨rfl, b5⟩
          have H5 := Lib.hid (show Below wr.heap.size wr w5 ∧ w5.ownsRow w3.heap.size 89 4 (.slice sp' (lst y j).length cap) (lst y j).length (rf j) from ⟨(below_dn (Below.refl wr.heap.size wr) 1).trans (b5.mono (below_dn (Below.refl wr.heap.size wr) 1).size), own_below (own_below HQ.out.2 (below_dn (Below.refl _ _) 1) (Nat.le_refl _)) b5 (Nat.le_refl _)⟩)
          clear b5
          try dsimp only
          refine hK.out _ _ (HQ.out.1.trans (H5.out.1.mono HQ.out.1.size)) (fun hHeld => ?_)
          clear hK K
          try simp only [Act.put, List.setIfInBounds_toArray, List.set_cons_zero, List.set_cons_succ]
          refine wpAnyG_take (i := 18) (oi := { dst := some 55, op := .build 89 #[(0, .tmp 43), (1, .tmp 49), (2, .tmp 54)], type := 89, pos := "ref.go:36", after := #[{ on := 6, ground := .data }, { on := 12, ground := .data }, { on := 17, ground := .data }], guard := none }) (v := ?_) rfl (by kernel_rfl) (by kernel_rfl) (by kernel_rfl) (by kernel_rfl) (fun _ _ _ h => h) (Or.inl ⟨by rfl, ?_⟩) (HQ.out.1.trans (H5.out.1.mono HQ.out.1.size)) ?_
          rotate_left 1
          · intro w hw; obtain hs := hw; go_simp; try (with_reducible rfl)
          simp only [Act.put, List.setIfInBounds_toArray, List.set_cons_zero, List.set_cons_succ]
          refine wpAnyG_ready (rs := [19]) (by kernel_rfl) (by simp) (AllReadyG.cons (o := { dst := some 56, op := .buildSlice 86 1 #[(0, .tmp 55)], type := 86, pos := "ref.go:36", after := #[{ on := 18, ground := .data }], guard := none }) rfl (fun K hK => ?_) AllReadyG.nil)
          go_simp
          refine hK.out _ _ (HQ.out.1.trans ((H5.out.1.alloc H5.out.1.size _).mono HQ.out.1.size)) (fun hHeld => ?_)
          clear hK K
          try simp only [Act.put, List.setIfInBounds_toArray, List.set_cons_zero, List.set_cons_succ]
          refine wpAnyG_ready (rs := [20]) (by kernel_rfl) (by simp) (AllReadyG.cons (o := { dst := some 57, op := .call { callee := .builtin .append, args := #[.tmp 37, .tmp 56], argTypes := #[86, 86] }, type := 86, pos := "ref.go:36", after := #[{ on := 0, ground := .data }, { on := 19, ground := .data }, { on := 17, ground := .chain }], guard := none }) rfl (fun K hK => ?_) AllReadyG.nil)
          rw [if_pos (by rfl)]
          refine wp_append_vary (.tmp 37) (.tmp 56) 86 (by rfl) w3.heap.size 89 i0 (.agg #[.int .i64 0, .int .i64 0, .int .i64 0, .int .i64 0]) 4 32 Tryd.underlying86 hi0 hz0 hz1 hz2 rfl (by decide) (.slice sp' (lst y j).length cap) (lst y j).length _ (by rfl) (H5.out.2.alloc _) (some ⟨w5.heap.size, 0, none⟩) 1 1 [.int .i64 a0, .int .i64 a2, .int .i64 oj, .int .i64 0] (by rfl) rfl (fun h => nomatch h) (fun ad h => by obtain rfl := Option.some.inj h; exact four_new _ _ _ _ _ _) (by simp [Value.oneCell']) (by have := HLen.out; unfold maxLen; omega) (by have := HLen.out; omega) (by have h1 := H5.out.1.size; have h2 := HSz.out; rw [World.size_alloc]; omega) ?_
          intro v' w7 hown' hgrow hat
          obtain ⟨sp2, cap', rfl⟩ := own_val hown'
          have H7 := Lib.hid (show Below w3.heap.size w3 w7 from HQ.out.1.trans (Below.grown ((H5.out.1.mono HSz.out).alloc (by have h1 := H5.out.1.size; have h2 := HSz.out; omega) _) hgrow (by have h1 := H5.out.1.size; have h2 := HSz.out; rw [World.size_alloc]; omega) (own_ge H5.out.2)))
          have H9 := Lib.hid hown'
          clear hown' hgrow hat
          refine hK.out _ _ H7.out (fun hHeld => ?_)
          clear hK K
          try simp only [Act.put, List.setIfInBounds_toArray, List.set_cons_zero, List.set_cons_succ]
          refine wpAnyG_ready (rs := [21]) (by kernel_rfl) (by simp) (AllReadyG.last (o := { dst := some 13, op := .assign (.tmp 57), type := 86, pos := "ref.go:36", after := #[{ on := 20, ground := .data }, { on := 20, ground := .chain }, { on := 0, ground := .phase }, { on := 1, ground := .phase }, { on := 2, ground := .phase }, { on := 3, ground := .phase }, { on := 4, ground := .phase }, { on := 5, ground := .phase }, { on := 6, ground := .phase }, { on := 7, ground := .phase }, { on := 8, ground := .phase }, { on := 9, ground := .phase }, { on := 10, ground := .phase }, { on := 11, ground := .phase }, { on := 12, ground := .phase }, { on := 13, ground := .phase }, { on := 14, ground := .phase }, { on := 15, ground := .phase }, { on := 16, ground := .phase }, { on := 17, ground := .phase }, { on := 18, ground := .phase }, { on := 19, ground := .phase }, { on := 20, ground := .phase }], guard := none }) rfl (fun K hK => ?_))
          go_simp
          refine hK.out _ _ ?_
          clear hK K
          try simp only [Act.put, List.setIfInBounds_toArray, List.set_cons_zero, List.set_cons_succ]
          refine wpAnyG_done (by kernel_rfl) ?_ _

          go_wp2
          go_roundg g1
          case measure => omega
          case rel =>
            refine ⟨j + 1, by omega, by go_num, H7.out, ?_⟩
            rw [HLS.out.1, if_pos trivial, HT.out, HLS.out.2, if_pos trivial, List.length_append, List.length_singleton]
            exact H9.out
end Go.Proofs.YtchmdnmifpjfkaaDoor
/- The contract of the reference's List; owned rows of ints. -/
namespace Go.Proofs.YtchmdnmifpjfkaaDoor
open Go.RowKit

theorem info3 : (Tryd.prog.info? 3).map (fun i => (i.zero, i.size, i.bytes)) = some (some (.int .i64 0), 1, 8) := by kernel_rfl
theorem rowI_get (l : List Int) (j : Nat) (h : j < l.length) : (rowI l)[j]? = some (.int .i64 (nth l j)) := by
  unfold rowI nth
  rw [List.getElem?_map, List.getElem?_eq_getElem h]; simp [h]
theorem odd_testM (x : BitVec 32) (k : Nat) : ((w32 x / 2 ^ k).tmod 2 == 1) = x.getLsbD k := by
  have e1 : w32 x / 2 ^ k = ((x.toNat / 2 ^ k : Nat) : Int) := by unfold w32; simp
  have e2 : ((x.toNat / 2 ^ k : Nat) : Int).tmod 2 = ((x.toNat / 2 ^ k % 2 : Nat) : Int) := rfl
  rw [e1, e2, BitVec.getLsbD, Nat.testBit_eq_decide_div_mod_eq]
  have : x.toNat / 2 ^ k % 2 < 2 := Nat.mod_lt _ (by omega)
  rw [Bool.eq_iff_iff, beq_iff_eq, decide_eq_true_iff]
  omega
theorem one_cell (n : Int) : ∀ u ∈ [Value.int .i64 n], u.oneCell' = true := by intro u hu; simp at hu; subst hu; rfl

/-- An owned row, as a slice that lies. -/
theorem own_lies {w : World} {base : Nat} {v : Value} {l : List Int} (h : w.ownsRow base 3 1 v l.length (rowI l)) :
    ∃ sp g cap, v = .slice sp l.length cap ∧ Lies w sp g 0 l ∧ (0 < l.length → base ≤ g ∧ g < w.heap.size) := by
  rcases h.2 with ⟨rfl, h0⟩ | ⟨g, cap, cur, rfl, _⟩
  · exact ⟨none, 0, 0, by rw [h0], ⟨fun h => by omega, fun k hk => by omega⟩, fun h => by omega⟩
  · have hl := h.lt g rfl
    exact ⟨some ⟨g, 0, none⟩, g, cap, rfl, ⟨fun _ => ⟨rfl, hl.2⟩, fun k hk => by rw [Nat.zero_add]; exact (h.cellAt k (by omega)).trans (rowI_get _ k hk)⟩, fun _ => hl⟩

end Go.Proofs.YtchmdnmifpjfkaaDoor
/- The contract of the reference's Late. -/
namespace Go.Proofs.YtchmdnmifpjfkaaDoor
open Go.RowKit

def w19t (x : Img) (k : Nat) (l : Nat → Int) (i : Nat) : Int := if hasB (edgeA x k ||| edgeB x k) (i : Int) then tT (winF x (edgeA x k ||| edgeB x k) (offR (edgeA x k) (edgeB x k) l) i) else 0
def w19b (x : Img) (k : Nat) (l : Nat → Int) (i : Nat) : Bool := hasB (edgeA x k ||| edgeB x k) (i : Int) && tB (winF x (edgeA x k ||| edgeB x k) (offR (edgeA x k) (edgeB x k) l) i)
def b19t (x : Img) (k i : Nat) : Int := if hasB (edgeB x k) (i : Int) then tT (rspF x (edgeB x k) (edgeA x k ||| edgeB x k) (ceilF x (edgeA x k ||| edgeB x k)) i) else 0
def b19b (x : Img) (k i : Nat) : Bool := hasB (edgeB x k) (i : Int) && tB (rspF x (edgeB x k) (edgeA x k ||| edgeB x k) (ceilF x (edgeA x k ||| edgeB x k)) i)
def late19 (x : Img) (k : Nat) (l : Nat → Int) (i : Nat) : Bool := hasB (edgeA x k ||| edgeB x k) (i : Int) && (!w19b x k l i || (hasB (edgeB x k) (i : Int) && !b19b x k i))
def fl19 (x : Img) (k : Nat) (l : Nat → Int) (n : Nat) : List Nat := (List.range n).filter (late19 x k l)
theorem fl19_succ (x : Img) (k : Nat) (l : Nat → Int) (n : Nat) : fl19 x k l (n + 1) = if late19 x k l n = true then fl19 x k l n ++ [n] else fl19 x k l n := by
  unfold fl19
  rw [List.range_succ, List.filter_append]
  cases h : late19 x k l n <;> simp [h]
theorem fl19_len (x : Img) (k : Nat) (l : Nat → Int) (n : Nat) : (fl19 x k l n).length ≤ n := by
  unfold fl19; have := List.length_filter_le (late19 x k l) (List.range n); simpa using this
set_option maxHeartbeats 8000000 in
set_option maxRecDepth 100000 in
theorem late19_any {w : World} {V : Nat → Prop} {x : Img} {S : ImgS} (h : ImgAt w V x S) (hr : rightB x = true) (k : Nat) (hk : k < x.edges.length) (l : Nat → Int) (hl : ∀ j, j < 16 → 0 ≤ l j ∧ l j ≤ 16384) :
    Calls Tryd.prog 17 #[.agg #[.int .i64 x.res, .slice S.t.sp x.tasks.length S.t.c, .slice S.m.sp x.modes.length S.m.c, .slice S.e.sp x.edges.length S.e.c], .int .i64 (k : Nat), .agg (tml l).toArray] w fun e w' => ∃ v, e = .returned v ∧ w'.ownsRow w.heap.size 3 1 v (fl19 x k l x.tasks.length).length (rowI (ints (fl19 x k l x.tasks.length))) ∧ Below w.heap.size w w' := by
  obtain ⟨i0, hi, hz0, hz1, hz2⟩ := info_parts info3
  have h16 := (rightB_good hr).n16
  have HS := Lib.hid (show ∀ wx, Below w.heap.size w wx → _ from fun wx hb => sets19_any (h.new hb) hr k hk)
  have HW := Lib.hid (show ∀ wx, Below w.heap.size w wx → ∀ i, i < x.tasks.length → Calls Tryd.prog 14 #[.agg #[.int .i64 x.res, .slice S.t.sp x.tasks.length S.t.c, .slice S.m.sp x.modes.length S.m.c, .slice S.e.sp x.edges.length S.e.c], .int .i64 (k : Nat), .agg (tml l).toArray, .int .i64 (i : Nat)] wx fun e w' => e = .returned (.tuple #[.int .i64 (w19t x k l i), .bool (w19b x k l i)]) ∧ Below wx.heap.size wx w' from fun wx hb i hi => win19_any (h.new hb) hr k hk l hl i hi)
  have HBh := Lib.hid (show ∀ wx, Below w.heap.size w wx → ∀ i, i < x.tasks.length → Calls Tryd.prog 15 #[.agg #[.int .i64 x.res, .slice S.t.sp x.tasks.length S.t.c, .slice S.m.sp x.modes.length S.m.c, .slice S.e.sp x.edges.length S.e.c], .int .i64 (k : Nat), .int .i64 (i : Nat)] wx fun e w' => e = .returned (.tuple #[.int .i64 (b19t x k i), .bool (b19b x k i)]) ∧ Below wx.heap.size wx w' from fun wx hb i hi => beh19_any (h.new hb) hr k hk i hi)
  have HLt := Lib.hid (show ∀ i, late19 x k l i = (hasB (edgeA x k ||| edgeB x k) (i : Int) && (!w19b x k l i || (hasB (edgeB x k) (i : Int) && !b19b x k i))) from fun i => rfl)
  have HFl := Lib.hid (And.intro (fl19_succ x k l) (And.intro (fl19_len x k l) (show fl19 x k l 0 = [] from rfl)))
  obtain ⟨A, hA⟩ : ∃ A, edgeA x (k : Int) = A := ⟨_, rfl⟩
  obtain ⟨B, hB⟩ : ∃ A, edgeB x (k : Int) = A := ⟨_, rfl⟩
  rw [hA, hB] at HS HLt
  have HOr := Lib.hid (or32 A B)
  obtain ⟨y, hy⟩ : ∃ y, A ||| B = y := ⟨_, rfl⟩
  rw [hy] at HOr HLt
  obtain ⟨wt, hwt⟩ : ∃ f, w19t x k l = f := ⟨_, rfl⟩
  obtain ⟨wb, hwb⟩ : ∃ f, w19b x k l = f := ⟨_, rfl⟩
  obtain ⟨bt, hbt⟩ : ∃ f, b19t x k = f := ⟨_, rfl⟩
  obtain ⟨bb, hbb⟩ : ∃ f, b19b x k = f := ⟨_, rfl⟩
  obtain ⟨lt, hlt⟩ : ∃ f, late19 x k l = f := ⟨_, rfl⟩
  obtain ⟨fl, hfl⟩ : ∃ f, fl19 x k l = f := ⟨_, rfl⟩
  rw [hwt, hwb] at HW
  rw [hbt, hbb] at HBh
  rw [hlt, hwb, hbb] at HLt
  rw [hfl, hlt] at HFl
  rw [hfl]
  have HHo := Lib.hid (fun (j : Nat) wx => has10_any y (j : Int) wx)
  have HHb := Lib.hid (fun (j : Nat) wx => has10_any B (j : Int) wx)
  obtain ⟨T, hT⟩ : ∃ T, (tml l).toArray = T := ⟨_, rfl⟩
  have HTi := Lib.hid (show (Tryd.prog.info? 27).map (·.size) = some T.size by rw [← hT, List.size_toArray, tml_len]; kernel_rfl)
  rw [hT] at HW ⊢
  obtain ⟨nT, hnT⟩ : ∃ n, x.tasks.length = n := ⟨_, rfl⟩
  obtain ⟨nM, hnM⟩ : ∃ n, x.modes.length = n := ⟨_, rfl⟩
  obtain ⟨nE, hnE⟩ : ∃ n, x.edges.length = n := ⟨_, rfl⟩
  rw [hnT, hnM, hnE] at HS HW HBh ⊢
  rw [hnT] at h16
  obtain ⟨Z, hZ⟩ : ∃ Z, Z = w.heap.size := ⟨_, rfl⟩
  have HZ := Lib.hid hZ
  clear h hr hk hl hA hB hy hwt hwb hbt hbb hlt hfl hT hnT hnM hnE
  go_enter Tryd.func17, Tryd.ntmps17
  go_upto_region 1 with fail
  rw [← hZ]
  generalize hw2 : World.alloc (World.alloc w _) _ = w2
  have H2 := Lib.hid (show Below w.heap.size w w2 ∧ RowAt w2 Z 26 #[.int .i64 x.res, .slice S.t.sp nT S.t.c, .slice S.m.sp nM S.m.c, .slice S.e.sp nE S.e.c] ∧ RowAt w2 (Z + 1) 27 T by
    rw [← hw2, hZ]
    exact ⟨((Below.refl _ _).alloc (Nat.le_refl _) _).alloc (by simp) _, row_keep (RowAt.mk _ _ _) _, row_next _ _ (by simp) _ _⟩)
  clear hw2 hZ
  obtain ⟨c0, c1, c2, c3⟩ := img_cells H2.out.2.1
  go_upto_region 4 with (first
    | (go_at_call 40; refine (HS.out _ H2.out.1).mono ?_; rintro e w3 ⟨rfl, b3⟩; have H3 := Lib.hid (And.intro (H2.out.1.trans (b3.mono H2.out.1.size)) (And.intro (H2.out.2.1.new b3) (H2.out.2.2.new b3))); clear b3 c0 c1 c2 c3)
    | fail)
  clear H2 HS
  have HKp := Lib.hid (show ∀ wx, Below w3.heap.size w3 wx → Below w.heap.size w wx ∧ RowAt wx Z 26 #[.int .i64 x.res, .slice S.t.sp nT S.t.c, .slice S.m.sp nM S.m.c, .slice S.e.sp nE S.e.c] ∧ RowAt wx (Z + 1) 27 T from fun wx hb => ⟨H3.out.1.trans (hb.mono H3.out.1.size), H3.out.2.1.new hb, H3.out.2.2.new hb⟩)
  have HSz := Lib.hid H3.out.1.size
  clear H3
  go_loopg [9, 10] nT (fun g u v wr => ∃ j : Nat, j + g = nT ∧ v = .int .i64 (j : Nat) ∧ Aside (Below w3.heap.size w3 wr ∧ wr.ownsRow w3.heap.size 3 1 u (fl j).length (rowI (ints (fl j)))))
  case atStart => exact ⟨0, by omega, rfl, Below.refl _ _, by rw [HFl.out.2.2]; exact World.ownsRow_nil _ _ _ _⟩
  case round =>
    obtain ⟨j, hjg, rfl, HQ⟩ := hrel
    have HK := Lib.hid (HKp.out wr HQ.out.1)
    obtain ⟨c0, c1, c2, c3⟩ := img_cells HK.out.2.1
    cases gk with
    | zero =>
      obtain rfl : nT = j := by omega
      clear hjg
      go_wp2
      go_ret
      exact ⟨_, rfl, own_mono HQ.out.2 HSz.out, HK.out.1⟩
    | succ g1 =>
      have hjk : j < nT := by omega
      have e1 : (j : Int) < (nT : Int) := by omega
      have HWj := Lib.hid (HW.out wr HK.out.1 j hjk)
      have HBj := Lib.hid (show ∀ wx, Below wr.heap.size wr wx → _ from fun wx hb => HBh.out wx (HKp.out wx (HQ.out.1.trans (hb.mono HQ.out.1.size))).1 j hjk)
      have HHoj := Lib.hid (HHo.out j)
      have HHbj := Lib.hid (HHb.out j)
      have hfs := HFl.out.1 j
      have hlen := HFl.out.2.1 j
      rw [HLt.out j] at hfs
      obtain ⟨t1, ht1⟩ : ∃ t, wt j = t := ⟨_, rfl⟩
      obtain ⟨b1, hb1⟩ : ∃ t, wb j = t := ⟨_, rfl⟩
      obtain ⟨t2, ht2⟩ : ∃ t, bt j = t := ⟨_, rfl⟩
      obtain ⟨b2, hb2⟩ : ∃ t, bb j = t := ⟨_, rfl⟩
      obtain ⟨o1, ho1⟩ : ∃ t, hasB y (j : Int) = t := ⟨_, rfl⟩
      obtain ⟨h1, hh1⟩ : ∃ t, hasB B (j : Int) = t := ⟨_, rfl⟩
      rw [ht1, hb1] at HWj
      rw [ht2, hb2] at HBj
      rw [ho1] at HHoj
      rw [hh1] at HHbj
      rw [ho1, hb1, hh1, hb2] at hfs
      clear ht1 hb1 ht2 hb2 ho1 hh1
      have hor := HOr.out
      go_upto_region 7 with (first
          | (refine wpList_load_row rfl 27 (.tmp 5) rfl (Z + 1) rfl 27 T (0, 0) _ HK.out.2.2 Tryd.underlying27 rfl HTi.out ?_)
          | (go_at_call 14; refine HWj.out.mono ?_; rintro e w4 ⟨rfl, b4⟩; have H4 := Lib.hid b4; obtain ⟨d0, d1, d2, d3⟩ := img_cells (HK.out.2.1.new b4); clear b4)
          | fail)
      clear c0 c1 c2 c3
      go_upto_region 8 with (first
          | (go_at_call 15; refine (HBj.out _ H4.out).mono ?_; rintro e w5 ⟨rfl, b5⟩; have H5 := Lib.hid (And.intro (HQ.out.1.trans ((H4.out.trans (b5.mono H4.out.size)).mono HQ.out.1.size)) (own_below HQ.out.2 (H4.out.trans (b5.mono H4.out.size)) (Nat.le_refl _))); clear b5)
          | fail)
      clear d0 d1 d2 d3 HK HWj HBj H4
      have hcomb : ∀ o b h c : Bool, o = false ∨ (o = true ∧ b = true ∧ h = false) ∨ (o = true ∧ b = true ∧ h = true ∧ c = true) ∨ (o = true ∧ b = false) ∨ (o = true ∧ b = true ∧ h = true ∧ c = false) := by decide
      rcases hcomb o1 b1 h1 b2 with rfl | ⟨rfl, rfl, rfl⟩ | ⟨rfl, rfl, rfl, rfl⟩ | ⟨rfl, rfl⟩ | ⟨rfl, rfl, rfl, rfl⟩
      · have HFS := Lib.hid (show fl (j + 1) = fl j from by rw [hfs]; rfl)
        clear hfs
        go_wp2_with (first
          | (go_at_call 41; refine (HHoj.out _).mono ?_; rintro e w' ⟨rfl, rfl⟩; clear HHoj)
          | (go_at_call 41; refine (HHbj.out _).mono ?_; rintro e w' ⟨rfl, rfl⟩)
          | fail)
        go_roundg g1
        case measure => omega
        case rel => exact ⟨j + 1, by omega, by go_num, H5.out.1, by rw [HFS.out]; exact H5.out.2⟩
      · have HFS := Lib.hid (show fl (j + 1) = fl j from by rw [hfs]; rfl)
        clear hfs
        go_wp2_with (first
          | (go_at_call 41; refine (HHoj.out _).mono ?_; rintro e w' ⟨rfl, rfl⟩; clear HHoj)
          | (go_at_call 41; refine (HHbj.out _).mono ?_; rintro e w' ⟨rfl, rfl⟩)
          | fail)
        go_roundg g1
        case measure => omega
        case rel => exact ⟨j + 1, by omega, by go_num, H5.out.1, by rw [HFS.out]; exact H5.out.2⟩
      · have HFS := Lib.hid (show fl (j + 1) = fl j from by rw [hfs]; rfl)
        clear hfs
        go_wp2_with (first
          | (go_at_call 41; refine (HHoj.out _).mono ?_; rintro e w' ⟨rfl, rfl⟩; clear HHoj)
          | (go_at_call 41; refine (HHbj.out _).mono ?_; rintro e w' ⟨rfl, rfl⟩)
          | fail)
        go_roundg g1
        case measure => omega
        case rel => exact ⟨j + 1, by omega, by go_num, H5.out.1, by rw [HFS.out]; exact H5.out.2⟩
      · have HFS := Lib.hid (show fl (j + 1) = fl j ++ [j] from by rw [hfs]; rfl)
        clear hfs
        go_wp2_with (first
          | (go_at_call 41; refine (HHoj.out _).mono ?_; rintro e w' ⟨rfl, rfl⟩; clear HHoj)
          | (go_at_call 41; refine (HHbj.out _).mono ?_; rintro e w' ⟨rfl, rfl⟩)
          | (at_builtin; refine wpList_append_own _ rfl (.tmp 61) (.tmp 63) 44 rfl w3.heap.size 3 i0 (.int .i64 0) 1 8 Tryd.underlying44 hi hz0 hz1 hz2 rfl Nat.one_pos _ (fl j).length (rowI (ints (fl j))) rfl (H5.out.2.alloc _) ⟨w5.heap.size, 0, none⟩ 1 1 [.int .i64 j] rfl rfl (cell_one_new _ _ _) (one_cell _) (by unfold maxLen; omega) (by omega) (by rw [World.size_alloc]; exact Nat.le_succ_of_le H5.out.1.size) ?_; intro v1 w1 hown1 hg1 _; have HO1 := Lib.hid hown1; have HB1 := Lib.hid (Below.grown (Below.alloc H5.out.1 H5.out.1.size _) hg1 (by rw [World.size_alloc]; exact Nat.le_succ_of_le H5.out.1.size) (fun j e => (H5.out.2.lt j e).1)); clear hown1 hg1)
          | fail)
        go_roundg g1
        case measure => omega
        case rel =>
          refine ⟨j + 1, by omega, by go_num, HB1.out, ?_⟩
          have h := HO1.out
          rw [HFS.out]
          unfold ints rowI at h ⊢
          rw [List.length_append, List.map_append, List.map_append]
          exact h
      · have HFS := Lib.hid (show fl (j + 1) = fl j ++ [j] from by rw [hfs]; rfl)
        clear hfs
        go_wp2_with (first
          | (go_at_call 41; refine (HHoj.out _).mono ?_; rintro e w' ⟨rfl, rfl⟩; clear HHoj)
          | (go_at_call 41; refine (HHbj.out _).mono ?_; rintro e w' ⟨rfl, rfl⟩)
          | (at_builtin; refine wpList_append_own _ rfl (.tmp 61) (.tmp 63) 44 rfl w3.heap.size 3 i0 (.int .i64 0) 1 8 Tryd.underlying44 hi hz0 hz1 hz2 rfl Nat.one_pos _ (fl j).length (rowI (ints (fl j))) rfl (H5.out.2.alloc _) ⟨w5.heap.size, 0, none⟩ 1 1 [.int .i64 j] rfl rfl (cell_one_new _ _ _) (one_cell _) (by unfold maxLen; omega) (by omega) (by rw [World.size_alloc]; exact Nat.le_succ_of_le H5.out.1.size) ?_; intro v1 w1 hown1 hg1 _; have HO1 := Lib.hid hown1; have HB1 := Lib.hid (Below.grown (Below.alloc H5.out.1 H5.out.1.size _) hg1 (by rw [World.size_alloc]; exact Nat.le_succ_of_le H5.out.1.size) (fun j e => (H5.out.2.lt j e).1)); clear hown1 hg1)
          | fail)
        go_roundg g1
        case measure => omega
        case rel =>
          refine ⟨j + 1, by omega, by go_num, HB1.out, ?_⟩
          have h := HO1.out
          rw [HFS.out]
          unfold ints rowI at h ⊢
          rw [List.length_append, List.map_append, List.map_append]
          exact h
end Go.Proofs.YtchmdnmifpjfkaaDoor
