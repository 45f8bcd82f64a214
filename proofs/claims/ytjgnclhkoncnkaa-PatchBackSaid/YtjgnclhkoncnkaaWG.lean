/- The walks of PatchGreat and PatchBack. -/
import Derived.Test.YtjgnclhkoncnkaaWF
namespace Go.Proofs.Ytjgnclhkoncnkaa
open Go.RowKit

set_option maxHeartbeats 8000000 in
set_option maxRecDepth 100000 in
theorem law_great (x many : Int) (w : World) : Calls Try.prog 11 #[.int .u32 x, .int .i64 many] w fun e w' => e = .returned (.bool true) ∧ Below w.heap.size w w' := by
  by_cases g0 : many < 4097
  · go_enter Try.func11, Try.ntmps11
    go_wp2
    go_ret
    exact ⟨rfl, Below.refl _ _⟩
  by_cases g1 : 5000 < many
  · go_enter Try.func11, Try.ntmps11
    go_wp2
    go_ret
    exact ⟨rfl, Below.refl _ _⟩
  obtain ⟨n, rfl⟩ := Int.eq_ofNat_of_zero_le (show 0 ≤ many by omega)
  have hn : 4096 < n ∧ n ≤ 5000 := by omega
  obtain ⟨i0, hi, hz0, hz1, hz2⟩ := info_parts (show (Try.prog.info? 73).map (fun i => (i.zero, i.size, i.bytes)) = some (some (.int .u32 0), 1, 4) from by kernel_rfl)
  obtain ⟨w1, hmk, hown, hgr⟩ := run_makeSlice_full (P := Try.prog) w w.heap.size 63 73 i0 (.int .u32 0) 1 Try.underlying63 hi hz0 hz1 .i64 .i64 n (by omega) (by rw [hz2]; omega) (by unfold maxLen; omega) (Nat.le_refl _)
  obtain ⟨Z, hZ⟩ : ∃ Z, w.heap.size = Z := ⟨_, rfl⟩
  have H1 := Lib.hid (show Below w.heap.size w w1 ∧ w1.ownsRow w.heap.size 73 1 (.slice (some ⟨Z, 0, none⟩) n n) n (madeCells (Value.int .u32 0).cells (n * 1)).toList ∧ w.heap.size ≤ Z from by
    rw [← hZ]
    exact ⟨(Below.refl _ _).grown hgr (Nat.le_refl _) (fun k hk => by cases hk), hown, Nat.le_refl _⟩)
  have HB1 := Lib.hid (fun (wx : World) => make_big (w := wx) (sp := some ⟨Z, 0, none⟩) (sq := none) (n := n) (m := 0) (c := n) (d := 0) (.inl hn.1))
  have HB2 := Lib.hid (fun (wx : World) => make_big (w := wx) (sp := none) (sq := some ⟨Z, 0, none⟩) (n := 0) (m := n) (c := 0) (d := n) (.inr hn.1))
  rw [hZ] at hmk
  clear hi hz0 hz1 hz2 hown hgr hZ
  go_enter Try.func11, Try.ntmps11
  go_wp2
  go_loopg [6] n (fun g u wr => ∃ (k : Nat) (xs : List Value), k + g = n ∧ u = .int .i64 (k : Nat) ∧ Aside (Below w.heap.size w wr ∧ wr.ownsRow w.heap.size 73 1 (.slice (some ⟨Z, 0, none⟩) n n) n xs))
  case atStart => exact ⟨0, _, by omega, rfl, H1.out.1, H1.out.2.1⟩
  case round =>
    obtain ⟨k, xs, hkg, rfl, HR⟩ := hrel
    cases gk with
    | zero =>
      obtain rfl : k = n := by omega
      clear hmk
      go_wp2_with (first
        | (go_at_call 32; refine (HB1.out _).mono ?_; clear HB1; rintro e w3 ⟨rfl, rfl⟩)
        | (go_at_call 32; refine (HB2.out _).mono ?_; clear HB2; rintro e w4 ⟨rfl, rfl⟩)
        | (go_at_call 35; refine (l55alive_any _).mono ?_; rintro e w6 ⟨rfl, b6⟩; have H6 := Lib.hid (HR.out.1.trans (b6.mono HR.out.1.size)); clear b6)
        | fail)
      go_ret
      exact ⟨rfl, H6.out⟩
    | succ g1 =>
      have hk : k < n := by omega
      have hk2 : (k : Int) < n := by omega
      have hc := HR.out.2.cellAt k (by omega)
      have hl := HR.out.2.1
      rw [List.getElem?_eq_getElem (by omega)] at hc
      obtain ⟨y, hy⟩ : ∃ y, xs[k] = y := ⟨_, rfl⟩
      rw [hy] at hc
      have hf := HR.out.2.frozenAt k
      have HSt := Lib.hid (HR.out.2.stored k (.int .u32 x))
      have HO := Lib.hid (show Below w.heap.size w (wr.setCell ⟨Z, k, none⟩ (.int .u32 x)) from HR.out.1.setCell H1.out.2.2 _)
      clear hl hy hmk
      go_wp2
      go_roundg g1
      case measure => omega
      case rel => exact ⟨k + 1, _, by omega, by go_num, HO.out, HSt.out.1⟩
theorem good_piece {a : List Int} {o : OpM} (h : GoodP a o) : pieceB a.length o.toI = true ∧ wordsI a o.toI = wordsM a o := by
  unfold pieceB wordsI wordsM OpM.toI
  dsimp only
  rcases h with ⟨h1, h2, h3⟩ | ⟨h1, h2, h3⟩
  · rw [if_neg h1, if_neg h1, if_neg h1, h2, h3]; exact ⟨by simp, rfl⟩
  · rw [if_pos h1, if_pos h1, if_pos h1]
    exact ⟨decide_eq_true (by omega), by simp⟩
theorem apply_good (a : List Int) : ∀ (P : List OpM) (acc : List Int), (∀ o ∈ P, GoodP a o) → acc.length + (appM a P).length ≤ 4096 → applyM a (P.map OpM.toI) acc = (0, acc ++ appM a P)
  | [], acc, _, _ => by simp [applyM, appM]
  | o :: r, acc, h, hl => by
    obtain ⟨h1, h2⟩ := good_piece (h o (List.mem_cons_self ..))
    have ha : appM a (o :: r) = wordsM a o ++ appM a r := by simp [appM]
    rw [ha, List.length_append] at hl
    show (if pieceB a.length o.toI then _ else _) = _
    rw [h1, h2, if_pos rfl, if_neg (by omega), apply_good a r (acc ++ wordsM a o) (fun x hx => h x (List.mem_cons_of_mem _ hx)) (by rw [List.length_append]; omega), ha, List.append_assoc]
theorem size_toI (P : List OpM) : sizeI (P.map OpM.toI) = sizeM P := by
  unfold sizeI sizeM
  rw [List.map_map]
  rfl
theorem size_bds : ∀ (P : List OpM), P.length * 2 ≤ sizeM P ∧ ∀ o ∈ P, o.new.length ≤ sizeM P
  | [] => ⟨by simp, fun o h => by simp at h⟩
  | x :: r => by
    obtain ⟨h1, h2⟩ := size_bds r
    have hs : sizeM (x :: r) = 1 + max x.new.length 1 + sizeM r := by simp [sizeM]
    refine ⟨by rw [hs, List.length_cons]; omega, fun o ho => ?_⟩
    rcases List.mem_cons.1 ho with rfl | h
    · omega
    · have := h2 o h; omega
set_option maxHeartbeats 8000000 in
set_option maxRecDepth 100000 in
theorem law_back {w : World} {A B : Src} {a b : List Int} (ha : WAt w A a) (hb : WAt w B b) : Calls Try.prog 10 #[.slice A.sp a.length A.c, .slice B.sp b.length B.c] w fun e w' => e = .returned (.bool true) ∧ Below w.heap.size w w' := by
  by_cases g0 : 400 < a.length
  · have g0i : (400 : Int) < a.length := by omega
    clear ha hb g0
    generalize a.length = N at g0i ⊢
    generalize b.length = M
    generalize A.sp = sp
    generalize A.c = c
    generalize B.sp = sq
    generalize B.c = d
    go_enter Try.func10, Try.ntmps10
    go_wp2
    go_ret
    exact ⟨rfl, Below.refl _ _⟩
  by_cases g1 : 400 < b.length
  · have g0i : ¬ (400 : Int) < a.length := by omega
    have g1i : (400 : Int) < b.length := by omega
    clear ha hb g0 g1
    generalize a.length = N at g0i ⊢
    generalize b.length = M at g1i ⊢
    generalize A.sp = sp
    generalize A.c = c
    generalize B.sp = sq
    generalize B.c = d
    go_enter Try.func10, Try.ntmps10
    go_wp2
    go_ret
    exact ⟨rfl, Below.refl _ _⟩
  obtain ⟨p1, p2, p3⟩ := makeM_good a b.length b [] (Nat.le_refl _) (fun o ho => by simp at ho) (by simp [sizeM, appM])
  have ht := makeM_good a b.length b [] (Nat.le_refl _) (fun o ho => by simp at ho) (by simp [sizeM, appM])
  have HMk := Lib.hid (make_any ha hb (by omega) (by omega))
  obtain ⟨P, hP⟩ : ∃ P, makeM a b.length b [] = P := ⟨_, rfl⟩
  rw [hP] at p1 p2 p3 HMk
  have e0 : appM a [] ++ b = b := by simp [appM]
  rw [e0] at p2 p3
  obtain ⟨s1, s2⟩ := size_bds P
  have hAp : applyM a (P.map OpM.toI) [] = (0, b) := by
    have := apply_good a P [] p1 (by rw [p2]; simp; omega)
    rw [p2] at this
    exact this
  have hmI : ∀ o ∈ P.map OpM.toI, o.new.length ≤ 5000 ∧ o.fr ≤ 9223372036854775807 := fun o ho => by
    obtain ⟨q, hq, rfl⟩ := List.mem_map.1 ho
    have h1 := s2 q hq
    refine ⟨by show q.new.length ≤ 5000; omega, ?_⟩
    show ((q.fr : Nat) : Int) ≤ _
    rcases p1 q hq with ⟨-, h, -⟩ | ⟨-, -, h⟩ <;> omega
  have HAp := Lib.hid (fun (S : Src) (Sn : Nat → Src) (wx : World) (hx : Below w.heap.size w wx) (hp : PAt wx S (P.map OpM.toI) Sn) => show Calls Try.prog 36 #[.slice A.sp a.length A.c, .slice S.sp P.length S.c] wx fun e w' => ∃ R : Src, e = .returned (.tuple #[.slice R.sp b.length R.c, .int .i64 0]) ∧ WAt w' R b ∧ Below wx.heap.size wx w' from by
    have h1 := apply_any (ha.new hx) hp (by omega) (by rw [List.length_map]; omega) (fun o ho => (hmI o ho).1) (fun o ho => (hmI o ho).2)
    rw [hAp, List.length_map] at h1
    refine h1.mono ?_
    rintro e w' ⟨v, rfl, ho, hbl⟩
    obtain ⟨R, rfl, hR, -⟩ := own_words ho rfl
    exact ⟨R, rfl, hR, hbl⟩)
  have HSz := Lib.hid (fun (S : Src) (Sn : Nat → Src) (wx : World) (hp : PAt wx S (P.map OpM.toI) Sn) => show Calls Try.prog 38 #[.slice S.sp P.length S.c] wx fun e w' => e = .returned (.int .i64 (sizeM P : Nat)) ∧ Below wx.heap.size wx w' from by
    have h1 := size_any hp (by rw [List.length_map]; omega) (fun o ho => (hmI o ho).1)
    rw [List.length_map, size_toI] at h1
    exact h1)
  have HEq := Lib.hid (fun (R : Src) (wx : World) (hx : Below w.heap.size w wx) (hR : WAt wx R b) => show Calls Try.prog 34 #[.slice R.sp b.length R.c, .slice B.sp b.length B.c] wx fun e w' => e = .returned (.bool true) ∧ Below wx.heap.size wx w' from by
    have h1 := equalU_any hR (hb.new hx) (by omega) (by omega)
    rw [decide_eq_true rfl] at h1
    exact h1)
  have hPl : P.length ≤ 1000000 := by omega
  have HMk2 := Lib.hid (show Calls Try.prog 32 #[.slice A.sp a.length A.c, .slice B.sp b.length B.c] w fun e w' => ∃ (S : Src) (Sn : Nat → Src), e = .returned (.tuple #[.slice S.sp P.length S.c, .int .i64 0]) ∧ PAt w' S (P.map OpM.toI) Sn ∧ Below w.heap.size w w' from HMk.out.mono fun e w' ⟨v, nv, h1, h2, h3⟩ => by
    obtain ⟨S, Sn, rfl, h4⟩ := h2.toP hPl
    exact ⟨S, Sn, h1, h4, h3⟩)
  obtain ⟨z, hz⟩ : ∃ z, sizeM P = z := ⟨_, rfl⟩
  rw [hz] at HSz p3
  obtain ⟨N, hN⟩ : ∃ n, a.length = n := ⟨_, rfl⟩
  obtain ⟨M, hM⟩ : ∃ n, b.length = n := ⟨_, rfl⟩
  obtain ⟨K, hK⟩ : ∃ n, P.length = n := ⟨_, rfl⟩
  have g0i : ¬ (400 : Int) < N := by omega
  have g1i : ¬ (400 : Int) < M := by omega
  have hzi : (z : Int) ≤ (M : Int) + 1 := by omega
  rw [hN, hM, hK] at HMk2
  rw [hN, hM, hK] at HAp
  rw [hK] at HSz
  rw [hM] at HEq
  rw [hN, hM]
  obtain ⟨pa, qa, oa, ca⟩ := A
  obtain ⟨pb, qb, ob, cb⟩ := B
  dsimp only at HMk2 HAp HEq ⊢
  clear ha hb g0 g1 p1 p2 p3 ht HMk hP e0 s1 s2 hAp hmI hPl hz hN hM hK
  go_enter Try.func10, Try.ntmps10
  go_wp2_with (first
    | (go_at_call 32; refine HMk2.out.mono ?_; rintro e w3 ⟨S, Sn, rfl, hp, b3⟩; have H3 := Lib.hid (And.intro b3 hp); clear b3 hp HMk2)
    | (go_at_call 36; refine (HAp.out S Sn _ H3.out.1 H3.out.2).mono ?_; rintro e w4 ⟨R, rfl, hR, b4⟩; have H4 := Lib.hid (And.intro (H3.out.1.trans (b4.mono H3.out.1.size)) (And.intro hR (H3.out.2.new b4))); clear b4 hR HAp)
    | (go_at_call 34; refine (HEq.out R _ H4.out.1 H4.out.2.1).mono ?_; rintro e w5 ⟨rfl, b5⟩; have H5 := Lib.hid (And.intro (H4.out.1.trans (b5.mono H4.out.1.size)) (H4.out.2.2.new b5)); clear b5 HEq)
    | (go_at_call 38; refine (HSz.out S Sn _ H5.out.2).mono ?_; rintro e w6 ⟨rfl, b6⟩; have H6 := Lib.hid (H5.out.1.trans (b6.mono H5.out.1.size)); clear b6 HSz)
    | (go_at_call 35; refine (l55alive_any _).mono ?_; rintro e w7 ⟨rfl, b7⟩; have H7 := Lib.hid (H6.out.trans (b7.mono H6.out.size)); clear b7)
    | fail)
  go_ret
  exact ⟨by simp, H7.out⟩
end Go.Proofs.Ytjgnclhkoncnkaa
