/- The walk of HeaderCut. -/
import Derived.Test.YtdfknobohgncaaaHO
namespace Go.Proofs.Ytdfknobohgncaaa
open Go.RowKit

theorem kind11 (k : Int) : ∃ r, k.tmod 11 = r ∧ -10 ≤ r ∧ r ≤ 10 ∧ ∃ Y : Nat, (r + 11) % 11 = (Y : Int) ∧ Y ≤ 10 := by
  have h1 := Int.tmod_lt_of_pos k (show (0 : Int) < 11 by decide)
  have h2 := Int.lt_tmod_of_pos k (show (0 : Int) < 11 by decide)
  exact ⟨_, rfl, by omega, by omega, ((k.tmod 11 + 11) % 11).toNat, by omega, by omega⟩
/-- A blank header's words, the first so many of them set. -/
def blW (k i : Nat) : BitVec 32 := if i < k then BitVec.allOnes 32 else wd0 0#32 0#32 0#32 i
theorem blW_succ (k : Nat) : updB (blW k) k (BitVec.allOnes 32) = blW (k + 1) := by
  funext i
  unfold updB blW
  by_cases e : i = k
  · subst e; rw [if_pos rfl, if_pos (by omega)]
  · rw [if_neg e]
    by_cases h : i < k
    · rw [if_pos h, if_pos (by omega)]
    · rw [if_neg h, if_neg (by omega)]
theorem blW_six (s l c : BitVec 32) (n : Nat) : rowH (blW 6) n = rowH (cutW s l c 0 (BitVec.allOnes 32)) n := by
  unfold rowH
  refine List.map_congr_left fun i _ => ?_
  congr 2
  unfold blW cutW
  by_cases h : i < 6
  · rw [if_pos h, if_neg (by omega)]; split <;> rfl
  · rw [if_neg h, if_neg (by omega)]
    obtain ⟨j, rfl⟩ : ∃ j, i = j + 6 := ⟨i - 6, by omega⟩
    rw [if_neg (by omega)]; rfl
theorem cutW_succ (s l c : BitVec 32) (k : Nat) : updB (cutW s l c k (BitVec.allOnes 32)) k (wantW s l c k) = cutW s l c (k + 1) (BitVec.allOnes 32) := by
  funext i
  unfold updB cutW
  by_cases e : i = k
  · subst e; rw [if_pos rfl, if_pos (by omega)]
  · rw [if_neg e]
    by_cases h : i < k
    · rw [if_pos h, if_pos (by omega)]
    · rw [if_neg h, if_neg e, if_neg (by omega)]; split <;> rfl
theorem cutW_last (s l c x : BitVec 32) (k : Nat) : updB (cutW s l c k (BitVec.allOnes 32)) k x = cutW s l c k x := by
  funext i
  unfold updB cutW
  by_cases e : i = k
  · subst e; rw [if_pos rfl, if_neg (by omega), if_pos rfl]
  · rw [if_neg e]
    by_cases h : i < k
    · rw [if_pos h, if_pos h]
    · rw [if_neg h, if_neg e, if_neg h, if_neg e]
theorem own_apart {w : World} {base g cap n gw : Nat} {xs : List Value} (h : w.ownsRow base 45 2 (.slice (some ⟨g, 0, none⟩) n cap) n xs) (hg : g ≠ gw) (j : Nat) (v : Value) : (w.setCell ⟨gw, j, none⟩ v).ownsRow base 45 2 (.slice (some ⟨g, 0, none⟩) n cap) n xs :=
  own_ch h ((Ch.refl (fun j => j = gw) _).setCell ⟨gw, j, none⟩ v (.inl rfl)) fun g' h1 h2 => by injection h1 with h1; exact hg (h1.trans h2)

set_option maxHeartbeats 16000000 in
set_option maxRecDepth 100000 in
theorem law_hcut (s l c : BitVec 32) (at_ : Int) (m : BitVec 32) (w : World) : Calls Try.prog 5 #[.agg #[.int .u32 (w32 s), .int .u32 (w32 l), .int .u32 (w32 c)], .int .i64 at_, .int .u32 (w32 m)] w fun e w' => e = .returned (.bool true) ∧ Below w.heap.size w w' := by
  obtain ⟨i0, hi, hz0, hz1, hz2⟩ := info_parts info45
  obtain ⟨r, hr⟩ : ∃ r, r = w.heap.size := ⟨_, rfl⟩
  obtain ⟨w1, hw1⟩ : ∃ w1, w1 = w.alloc (.cells #[.int .u32 (w32 s), .int .u32 (w32 l), .int .u32 (w32 c)] 29) := ⟨_, rfl⟩
  have x1 : RowAt w1 r 29 #[.int .u32 (w32 s), .int .u32 (w32 l), .int .u32 (w32 c)] := by rw [hw1, hr]; exact RowAt.mk w _ _
  have HX := Lib.hid (show ∀ wz, Below w1.heap.size w1 wz → wz.cell? ⟨r, 0, none⟩ = some (.int .u32 (w32 s)) ∧ wz.cell? ⟨r, 1, none⟩ = some (.int .u32 (w32 l)) ∧ wz.cell? ⟨r, 2, none⟩ = some (.int .u32 (w32 c)) from
    fun wz hz => ⟨(x1.new hz).cell 0, (x1.new hz).cell 1, (x1.new hz).cell 2⟩)
  have HB := Lib.hid (show ∀ wz, Below w1.heap.size w1 wz → Below r w wz from fun wz hz => by
    have b1 : Below r w w1 := by rw [hw1, hr]; exact (Below.refl _ _).alloc (Nat.le_refl _) _
    exact b1.trans (hz.mono (by have := x1.lt; omega)))
  rw [← hr]
  clear x1
  go_enter Try.func5, Try.ntmps5
  go_wp2_with fail
  rw [← hw1, ← hr]
  clear hw1 hr
  refine (writes_any s l c w1).mono ?_
  rintro e w2 ⟨v1, rfl, g1, b2⟩
  have G1 := Lib.hid (list_give g1 (by decide) (by decide))
  have B2 := Lib.hid b2
  obtain ⟨_, _, _, _, _, _, rfl, _⟩ := g1
  clear b2
  go_wp2_with fail
  refine G1.out.mono ?_
  rintro e w3 ⟨u1, rfl, o1, b3⟩
  obtain ⟨q1, p1, rfl, _, lt1⟩ := own_some o1 (by decide)
  have O1 := Lib.hid (And.intro o1 (And.intro (B2.out.trans (b3.mono B2.out.size)) b3.size))
  clear o1 b3 G1 lt1
  go_wp2_with fail
  refine (commits_any w3).mono ?_
  rintro e w4 ⟨v2, rfl, g2, b4⟩
  have G2 := Lib.hid (list_give g2 (by decide) (by decide))
  have O2 := Lib.hid (And.intro (own_below O1.out.1 b4 (Nat.le_refl _)) (And.intro (O1.out.2.1.trans (b4.mono O1.out.2.1.size)) (Nat.le_trans O1.out.2.2 b4.size)))
  obtain ⟨_, _, _, _, _, _, rfl, _⟩ := g2
  clear b4
  go_wp2_with fail
  refine G2.out.mono ?_
  rintro e w5 ⟨u2, rfl, o2, b5⟩
  obtain ⟨q2, p2, rfl, _, lt2⟩ := own_some o2 (by decide)
  have OA0 := Lib.hid (show w5.ownsRow w2.heap.size 45 2 (.slice (some ⟨q1, 0, none⟩) 6 p1) 6 (rowWr 0 (hdW s l c) 6) ∧ w5.ownsRow w4.heap.size 45 2 (.slice (some ⟨q2, 0, none⟩) 2 p2) 2 (rowWr 6 (fun _ => comW) 2) from ⟨own_below O2.out.1 b5 (Nat.le_refl _), o2⟩)
  have OB := Lib.hid (O2.out.2.1.trans (b5.mono O2.out.2.1.size))
  have OS := Lib.hid (Nat.le_trans O2.out.2.2 b5.size)
  clear o2 b5 G2 lt2
  go_wp2_with (first
    | (at_builtin; refine wpList_append_own_at _ rfl (.tmp 15) (.tmp 17) 38 rfl w2.heap.size 45 i0 (.agg #[.int .i64 0, .int .u32 0]) 2 16 Try.underlying38 hi hz0 hz1 hz2 rfl (by decide) _ 6 (rowWr 0 (hdW s l c) 6) rfl OA0.out.1 ⟨q2, 0, none⟩ 2 p2 (rowWr 6 (fun _ => comW) 2) rfl (rowWr_len _ _ _) (own_news OA0.out.2) (rowWr_one _ _ _) (by unfold maxLen; decide) (by decide) OS.out ?_; intro va wa oa ga _ _; have OA := Lib.hid (show wa.ownsRow w2.heap.size 45 2 va 8 ((rowWr 0 (hdW s l c) 6) ++ (rowWr 6 (fun _ => comW) 2)) from oa); have BA := Lib.hid (Below.grown OB.out ga OB.out.size (fun g hg => by have := own_ge OA0.out.1 g hg; have := B2.out.size; omega)); have SA := Lib.hid (show w2.heap.size ≤ wa.heap.size from Nat.le_trans OS.out ga.size); clear oa ga)
    | fail)
  refine (confirms_any wa).mono ?_
  rintro e w6 ⟨v3, rfl, g3, b6⟩
  have G3 := Lib.hid (list_give g3 (by decide) (by decide))
  have O4 := Lib.hid (And.intro (own_below OA.out b6 (Nat.le_refl _)) (And.intro (BA.out.trans (b6.mono BA.out.size)) (Nat.le_trans SA.out b6.size)))
  obtain ⟨_, _, _, _, _, _, rfl, _⟩ := g3
  clear b6
  go_wp2_with fail
  refine G3.out.mono ?_
  rintro e w7 ⟨u3, rfl, o3, b7⟩
  obtain ⟨q3, p3, rfl, _, lt3⟩ := own_some o3 (by decide)
  have OC0 := Lib.hid (show w7.ownsRow w2.heap.size 45 2 va 8 ((rowWr 0 (hdW s l c) 6) ++ (rowWr 6 (fun _ => comW) 2)) ∧ w7.ownsRow w6.heap.size 45 2 (.slice (some ⟨q3, 0, none⟩) 2 p3) 2 (rowWr 8 (fun _ => conW) 2) from ⟨own_below O4.out.1 b7 (Nat.le_refl _), o3⟩)
  have OB3 := Lib.hid (O4.out.2.1.trans (b7.mono O4.out.2.1.size))
  have OS3 := Lib.hid (Nat.le_trans O4.out.2.2 b7.size)
  clear o3 b7 G3 lt3
  go_upto_region 2 with (first
    | (at_builtin; refine wpList_append_own_at _ rfl (.tmp 18) (.tmp 20) 38 rfl w2.heap.size 45 i0 (.agg #[.int .i64 0, .int .u32 0]) 2 16 Try.underlying38 hi hz0 hz1 hz2 rfl (by decide) _ 8 ((rowWr 0 (hdW s l c) 6) ++ (rowWr 6 (fun _ => comW) 2)) rfl OC0.out.1 ⟨q3, 0, none⟩ 2 p3 (rowWr 8 (fun _ => conW) 2) rfl (rowWr_len _ _ _) (own_news OC0.out.2) (rowWr_one _ _ _) (by unfold maxLen; decide) (by decide) OS3.out ?_; intro vc wc oc gc _ _; have OC := Lib.hid (show wc.ownsRow w2.heap.size 45 2 vc 10 ((rowWr 0 (hdW s l c) 6) ++ (rowWr 6 (fun _ => comW) 2) ++ (rowWr 8 (fun _ => conW) 2)) from oc); have NC := Lib.hid (Below.grown OB3.out gc OB3.out.size (fun g hg => by have := own_ge OC0.out.1 g hg; have := B2.out.size; omega)); have SC := Lib.hid (show w2.heap.size ≤ wc.heap.size from Nat.le_trans OS3.out gc.size); clear oc gc)
    | fail)
  have hrow := OC.out
  rw [row_ten] at hrow
  obtain ⟨ga, pa, rfl, hga, hwa, -⟩ : ∃ g cap, vc = .slice (some ⟨g, 0, none⟩) 10 cap ∧ w2.heap.size ≤ g ∧ g < wc.heap.size ∧ True := by
    obtain ⟨g, cap, h1, h2, h3⟩ := own_some hrow (by decide)
    exact ⟨g, cap, h1, h2, h3, trivial⟩
  have HR := Lib.hid (And.intro hrow hwa)
  obtain ⟨rr, hrr, r1, r2, Y, hY, hY10⟩ := kind11 at_
  clear hrow hwa hga
  go_wp2_with fail
  rw [hY]
  clear hrr hY r1 r2
  refine (words_any 0#32 0#32 0#32 false false wc).mono ?_
  rintro e w9 ⟨gw, pw, rfl, ow, b9⟩
  have hgw : wc.heap.size ≤ gw := own_ge ow gw rfl
  have hne : ga ≠ gw := by have := HR.out.2; omega
  have W9 := Lib.hid (show w9.ownsRow w2.heap.size 45 2 (.slice (some ⟨ga, 0, none⟩) 10 pa) 10 (rowA (wantW s l c) 10) ∧ w9.ownsRow wc.heap.size 25 1 (.slice (some ⟨gw, 0, none⟩) 13 pw) 13 (rowH (blW 0) 13) ∧ Below w1.heap.size w1 w9 from
    ⟨own_below HR.out.1 b9 (Nat.le_refl _), ow, NC.out.trans (b9.mono NC.out.size)⟩)
  have HG := Lib.hid (show w1.heap.size ≤ gw from Nat.le_trans NC.out.size hgw)
  clear ow b9 hgw
  go_wp2
  go_loopg [9] 6 (fun g i wr => ∃ k : Nat, k + g = 6 ∧ i = .int .i64 (k : Nat) ∧ Aside (wr.ownsRow w2.heap.size 45 2 (.slice (some ⟨ga, 0, none⟩) 10 pa) 10 (rowA (wantW s l c) 10) ∧ wr.ownsRow wc.heap.size 25 1 (.slice (some ⟨gw, 0, none⟩) 13 pw) 13 (rowH (blW k) 13) ∧ Below w1.heap.size w1 wr))
  case atStart => exact ⟨0, by omega, rfl, W9.out⟩
  case round =>
    obtain ⟨k, hkg, rfl, HA⟩ := hrel
    cases gk with
    | succ g1 =>
      have hk : k < 6 := by omega
      have hki : (k : Int) < 13 := by omega
      have hki6 : (k : Int) < 6 := by omega
      obtain ⟨_, _, hv, _, hW, hf⟩ := own_words HA.out.2.1 (by omega)
      injection hv with e1 e2 e3
      injection e1 with e1
      injection e1 with e1
      subst e1
      have d0 : wr.cell? ⟨gw, k, none⟩ = some (.int .u32 (w32 (blW k k))) := by have := hW.cell k (by omega); rwa [Nat.zero_add] at this
      have f0 := hf k
      clear hW hf e2 e3
      go_wp2
      go_roundg g1
      case measure => omega
      case rel =>
        refine ⟨k + 1, by omega, by go_num, own_apart HA.out.1 hne _ _, ?_, HA.out.2.2.setCell HG.out _⟩
        have := own_set HA.out.2.1 k (BitVec.allOnes 32) (by omega)
        rw [blW_succ, w32_ones] at this
        exact this
    | zero =>
      obtain rfl : k = 6 := by omega
      have h6 := HA.out.2.1
      rw [blW_six s l c] at h6
      have H6 := Lib.hid (And.intro HA.out.1 (And.intro h6 HA.out.2.2))
      clear h6 hkg
      go_wp2
      go_loopg [10] Y (fun g i wx => ∃ k : Nat, k + g = Y ∧ i = .int .i64 (k : Nat) ∧ Aside (wx.ownsRow w2.heap.size 45 2 (.slice (some ⟨ga, 0, none⟩) 10 pa) 10 (rowA (wantW s l c) 10) ∧ wx.ownsRow wc.heap.size 25 1 (.slice (some ⟨gw, 0, none⟩) 13 pw) 13 (rowH (cutW s l c k (BitVec.allOnes 32)) 13) ∧ Below w1.heap.size w1 wx))
      case atStart => exact ⟨0, by omega, rfl, H6.out⟩
      case round =>
        obtain ⟨k, hkg, rfl, HA2⟩ := hrel
        cases gk with
        | succ g1 =>
          have hk : k < Y := by omega
          have hk10 : (k : Int) < 10 := by omega
          have hk13 : (k : Int) < 13 := by omega
          have hk0 : (0 : Int) ≤ (k : Int) := by omega
          have hkY : (k : Int) < (Y : Int) := by omega
          obtain ⟨_, _, hv, _, hW, hf⟩ := own_words HA2.out.2.1 (by omega)
          injection hv with e1 e2 e3
          injection e1 with e1
          injection e1 with e1
          subst e1
          have c0 := own_news HA2.out.1 _ _ (rowA_at (wantW s l c) 10 k (by omega)).1
          have c1 := own_news HA2.out.1 _ _ (rowA_at (wantW s l c) 10 k (by omega)).2
          rw [Addr.add_lit, Nat.zero_add] at c0 c1
          have d0 := hW.cell k (by omega)
          rw [Nat.zero_add] at d0
          have f0 := hf k
          obtain ⟨x, hx⟩ : ∃ x, w32 (wantW s l c k) = x := ⟨_, rfl⟩
          rw [hx] at c1
          have HXX := Lib.hid hx
          have hne2 : gw ≠ ga := fun e => hne e.symm
          clear hW hf e2 e3 hx
          go_wp2
          go_region_held3 (fun w' => w'.cell? ⟨ga, k * 2, none⟩ = some (.int .i64 (k : Int)) ∧ w'.cell? ⟨ga, k * 2 + 1, none⟩ = some (.int .u32 x)) (first | exact ⟨c0, c1⟩ | go_keep) (fail)
          go_wp2
          go_roundg g1
          case measure => omega
          case rel =>
            refine ⟨k + 1, by omega, by go_num, own_apart HA2.out.1 hne _ _, ?_, (HA2.out.2.2.setCell HG.out _).drew⟩
            have := own_set HA2.out.2.1 k (wantW s l c k) (by omega)
            rw [cutW_succ, HXX.out] at this
            exact this
        | zero =>
          obtain rfl : k = Y := by omega
          obtain ⟨hA1, hA2, hA3⟩ := HA2.out
          clear hkg
          by_cases hY9 : k = 10
          · subst hY9
            have HCF := Lib.hid (cut_facts s l c (BitVec.allOnes 32) 10 10 (by omega) (by rw [if_neg (by omega)]))
            have HO := Lib.hid (And.intro hA2 hA3)
            have HV := Lib.hid (show validH (cutW s l c 10 (BitVec.allOnes 32)) = true ∧ confH (cutW s l c 10 (BitVec.allOnes 32)) = true ∧ headH (cutW s l c 10 (BitVec.allOnes 32)) 0 = s ∧ headH (cutW s l c 10 (BitVec.allOnes 32)) 2 = l ∧ headH (cutW s l c 10 (BitVec.allOnes 32)) 4 = c from ⟨HCF.out.1, HCF.out.2.1, HCF.out.2.2 (by decide)⟩)
            clear hA1 hA2 hA3
            obtain ⟨T, hT⟩ : ∃ T : Nat, trC (cutW s l c 10 (BitVec.allOnes 32)) 3 = T := ⟨_, rfl⟩
            have HRW := Lib.hid (read_words _ HO.out.1 s l c true true T HV.out.1 HV.out.2.2.1 HV.out.2.2.2.1 HV.out.2.2.2.2 HV.out.2.1 hT rfl)
            clear hT
            go_wp2_with fail
            refine HRW.out.mono ?_
            rintro e w10 ⟨rfl, b10⟩
            obtain ⟨z, hz⟩ : ∃ z, z = w10.heap.size := ⟨_, rfl⟩
            obtain ⟨w11, hw11⟩ : ∃ w11, w11 = w10.alloc (.cells #[.int .u32 (w32 s), .int .u32 (w32 l), .int .u32 (w32 c), .bool true, .bool true, .int .i64 (T : Nat)] 31) := ⟨_, rfl⟩
            have x11 : RowAt w11 z 31 #[.int .u32 (w32 s), .int .u32 (w32 l), .int .u32 (w32 c), .bool true, .bool true, .int .i64 (T : Nat)] := by rw [hw11, hz]; exact RowAt.mk w10 _ _
            have b11 : Below w1.heap.size w1 w11 := by rw [hw11]; exact (HO.out.2.trans (b10.mono HO.out.2.size)).alloc (Nat.le_trans HO.out.2.size b10.size) _
            obtain ⟨c0, c1, c2⟩ := HX.out _ b11
            have e0 : w11.cell? ⟨z, 0, none⟩ = some (.int .u32 (w32 s)) := x11.cell 0
            have e1 : w11.cell? ⟨z, 1, none⟩ = some (.int .u32 (w32 l)) := x11.cell 1
            have e2 : w11.cell? ⟨z, 2, none⟩ = some (.int .u32 (w32 c)) := x11.cell 2
            have e3 : w11.cell? ⟨z, 3, none⟩ = some (.bool true) := x11.cell 3
            have e4 : w11.cell? ⟨z, 4, none⟩ = some (.bool true) := x11.cell 4
            have B11 := Lib.hid b11
            clear b10 x11 b11
            go_upto_region 20 with fail
            rw [← hw11, ← hz]
            clear hw11 hz
            go_wp2_with (go_at_call 13; refine (halive_any _).mono ?_; rintro e w12 ⟨rfl, b12⟩; have B12 := Lib.hid (B11.out.trans (b12.mono B11.out.size)); clear b12)
            go_ret
            exact ⟨rfl, HB.out _ B12.out⟩
          have hk10 : (k : Int) < 10 := by omega
          have hk13 : (k : Int) < 13 := by omega
          have hk0 : (0 : Int) ≤ (k : Int) := by omega
          have hwk : IntKind.i64.wrap ((k : Int) + 1) = ((k + 1 : Nat) : Int) := by rw [IntKind.wrap_i64]; omega
          obtain ⟨_, _, hv, _, hW, hf⟩ := own_words hA2 (by omega)
          injection hv with e1 e2 e3
          injection e1 with e1
          injection e1 with e1
          subst e1
          have c0 := own_news hA1 _ _ (rowA_at (wantW s l c) 10 k (by omega)).1
          have c1 := own_news hA1 _ _ (rowA_at (wantW s l c) 10 k (by omega)).2
          rw [Addr.add_lit, Nat.zero_add] at c0 c1
          have d0 := hW.cell k (by omega)
          rw [Nat.zero_add] at d0
          have f0 := hf k
          obtain ⟨X, hX⟩ : ∃ X, wantW s l c k = X := ⟨_, rfl⟩
          obtain ⟨V, hV⟩ : ∃ V, pre (fallsP (BitVec.allOnes 32) X m) 32 = V := ⟨_, rfl⟩
          have HFa := Lib.hid (show ∀ wz, Calls Try.prog 19 #[.int .u32 4294967295, .int .u32 (w32 X), .int .u32 (w32 m)] wz fun e w' => e = .returned (.int .u32 (w32 V)) ∧ wz = w' from fun wz => by rw [← w32_ones, ← hV]; exact reffalls_any _ X m wz)
          have HXe := Lib.hid hX
          have HAA := Lib.hid (And.intro hA1 (And.intro hA2 hA3))
          have hne2 : gw ≠ ga := fun e => hne e.symm
          rw [hX] at c1
          clear hW hf e2 e3 hA1 hA2 hA3 hX hV
          go_wp2
          go_region_held3 (fun w' => w'.cell? ⟨ga, k * 2, none⟩ = some (.int .i64 (k : Int)) ∧ w'.cell? ⟨ga, k * 2 + 1, none⟩ = some (.int .u32 (w32 X))) (first | exact ⟨c0, c1⟩ | go_keep) (first | (go_at_call 19; refine (HFa.out _).mono ?_; rintro e w13 ⟨rfl, rfl⟩))
          have n0 : (wr.setCell ⟨gw, k, none⟩ (.int .u32 (w32 V))).drew.cell? ⟨gw, k, none⟩ = some (.int .u32 (w32 V)) := World.cell?_setCell_same _ _ _ d0
          have HN := Lib.hid (show (wr.setCell ⟨gw, k, none⟩ (.int .u32 (w32 V))).drew.ownsRow w2.heap.size 45 2 (.slice (some ⟨ga, 0, none⟩) 10 pa) 10 (rowA (wantW s l c) 10) ∧ (wr.setCell ⟨gw, k, none⟩ (.int .u32 (w32 V))).drew.ownsRow wc.heap.size 25 1 (.slice (some ⟨gw, 0, none⟩) 13 pw) 13 (rowH (cutW s l c k V) 13) ∧ Below w1.heap.size w1 (wr.setCell ⟨gw, k, none⟩ (.int .u32 (w32 V))).drew from
            ⟨own_apart HAA.out.1 hne _ _, by have := own_set HAA.out.2.1 k V (by omega); rw [cutW_last] at this; exact this, (HAA.out.2.2.setCell HG.out _).drew⟩)
          generalize (wr.setCell ⟨gw, k, none⟩ (.int .u32 (w32 V))).drew = w14 at n0 HN ⊢
          clear c0 c1 d0 f0
          have c0 := own_news HN.out.1 _ _ (rowA_at (wantW s l c) 10 k (by omega)).1
          have c1 := own_news HN.out.1 _ _ (rowA_at (wantW s l c) 10 k (by omega)).2
          rw [Addr.add_lit, Nat.zero_add] at c0 c1
          rw [HXe.out] at c1
          have he : (w32 V == w32 X) = (V == X) := eq_b V X
          cases hb : (V == X) with
          | false =>
            rw [hb] at he
            have HCF := Lib.hid (cut_facts s l c V k k (by omega) (by rw [if_neg (fun h => by rw [HXe.out] at h; rw [h.2] at hb; simp at hb)]))
            clear hb
            go_wp2
            go_quiet (fail)
            go_wp2_with fail
            clear he n0 c0 c1
            have HO := Lib.hid (show (w14.drewN nq).ownsRow wc.heap.size 25 1 (.slice (some ⟨gw, 0, none⟩) 13 pw) 13 (rowH (cutW s l c k V) 13) ∧ Below w1.heap.size w1 (w14.drewN nq) from ⟨HN.out.2.1, below_dn HN.out.2.2 nq⟩)
            by_cases h8 : 8 ≤ k
            · have h10 : ¬ 10 ≤ k := by omega
              have HV := Lib.hid (show validH (cutW s l c k V) = true ∧ confH (cutW s l c k V) = false ∧ headH (cutW s l c k V) 0 = s ∧ headH (cutW s l c k V) 2 = l ∧ headH (cutW s l c k V) 4 = c from ⟨by rw [HCF.out.1]; simpa using h8, by rw [HCF.out.2.1]; simpa using h10, HCF.out.2.2 h8⟩)
              have k8 : decide ((8 : Int) ≤ (k : Int)) = true := by rw [decide_eq_true_iff]; omega
              have k10 : decide ((10 : Int) ≤ (k : Int)) = false := by rw [decide_eq_false_iff_not]; omega
              clear h8 h10
              obtain ⟨T, hT⟩ : ∃ T : Nat, trC (cutW s l c k V) 3 = T := ⟨_, rfl⟩
              have HRW := Lib.hid (read_words _ HO.out.1 s l c true false T HV.out.1 HV.out.2.2.1 HV.out.2.2.2.1 HV.out.2.2.2.2 HV.out.2.1 hT rfl)
              clear hT
              refine HRW.out.mono ?_
              rintro e w10 ⟨rfl, b10⟩
              obtain ⟨z, hz⟩ : ∃ z, z = w10.heap.size := ⟨_, rfl⟩
              obtain ⟨w11, hw11⟩ : ∃ w11, w11 = w10.alloc (.cells #[.int .u32 (w32 s), .int .u32 (w32 l), .int .u32 (w32 c), .bool true, .bool false, .int .i64 (T : Nat)] 31) := ⟨_, rfl⟩
              have x11 : RowAt w11 z 31 #[.int .u32 (w32 s), .int .u32 (w32 l), .int .u32 (w32 c), .bool true, .bool false, .int .i64 (T : Nat)] := by rw [hw11, hz]; exact RowAt.mk w10 _ _
              have b11 : Below w1.heap.size w1 w11 := by rw [hw11]; exact (HO.out.2.trans (b10.mono HO.out.2.size)).alloc (Nat.le_trans HO.out.2.size b10.size) _
              obtain ⟨c0, c1, c2⟩ := HX.out _ b11
              have e0 : w11.cell? ⟨z, 0, none⟩ = some (.int .u32 (w32 s)) := x11.cell 0
              have e1 : w11.cell? ⟨z, 1, none⟩ = some (.int .u32 (w32 l)) := x11.cell 1
              have e2 : w11.cell? ⟨z, 2, none⟩ = some (.int .u32 (w32 c)) := x11.cell 2
              have e3 : w11.cell? ⟨z, 3, none⟩ = some (.bool true) := x11.cell 3
              have e4 : w11.cell? ⟨z, 4, none⟩ = some (.bool false) := x11.cell 4
              have B11 := Lib.hid b11
              clear b10 x11 b11
              go_upto_region 20 with fail
              rw [← hw11, ← hz]
              clear hw11 hz
              go_wp2_with (go_at_call 13; refine (halive_any _).mono ?_; rintro e w12 ⟨rfl, b12⟩; have B12 := Lib.hid (B11.out.trans (b12.mono B11.out.size)); clear b12)
              go_ret
              exact ⟨rfl, HB.out _ B12.out⟩
            · have hvf : validH (cutW s l c k V) = false := by rw [HCF.out.1]; simpa using h8
              have HV := Lib.hid (show validH (cutW s l c k V) = false ∧ confH (cutW s l c k V) = false ∧ headH (cutW s l c k V) 0 = 0#32 ∧ headH (cutW s l c k V) 2 = 0#32 ∧ headH (cutW s l c k V) 4 = 0#32 from ⟨hvf, by unfold confH; rw [hvf]; rfl, if_neg (by rw [hvf]; decide), if_neg (by rw [hvf]; decide), if_neg (by rw [hvf]; decide)⟩)
              have k8 : decide ((8 : Int) ≤ (k : Int)) = false := by rw [decide_eq_false_iff_not]; omega
              have k10 : decide ((10 : Int) ≤ (k : Int)) = false := by rw [decide_eq_false_iff_not]; omega
              clear h8 hvf
              obtain ⟨T, hT⟩ : ∃ T : Nat, trC (cutW s l c k V) 3 = T := ⟨_, rfl⟩
              have HRW := Lib.hid (read_words _ HO.out.1 0#32 0#32 0#32 false false T HV.out.1 HV.out.2.2.1 HV.out.2.2.2.1 HV.out.2.2.2.2 HV.out.2.1 hT rfl)
              clear hT
              refine HRW.out.mono ?_
              rintro e w10 ⟨rfl, b10⟩
              obtain ⟨z, hz⟩ : ∃ z, z = w10.heap.size := ⟨_, rfl⟩
              obtain ⟨w11, hw11⟩ : ∃ w11, w11 = w10.alloc (.cells #[.int .u32 (w32 0#32), .int .u32 (w32 0#32), .int .u32 (w32 0#32), .bool false, .bool false, .int .i64 (T : Nat)] 31) := ⟨_, rfl⟩
              have x11 : RowAt w11 z 31 #[.int .u32 (w32 0#32), .int .u32 (w32 0#32), .int .u32 (w32 0#32), .bool false, .bool false, .int .i64 (T : Nat)] := by rw [hw11, hz]; exact RowAt.mk w10 _ _
              have b11 : Below w1.heap.size w1 w11 := by rw [hw11]; exact (HO.out.2.trans (b10.mono HO.out.2.size)).alloc (Nat.le_trans HO.out.2.size b10.size) _
              obtain ⟨c0, c1, c2⟩ := HX.out _ b11
              have e0 : w11.cell? ⟨z, 0, none⟩ = some (.int .u32 (w32 0#32)) := x11.cell 0
              have e1 : w11.cell? ⟨z, 1, none⟩ = some (.int .u32 (w32 0#32)) := x11.cell 1
              have e2 : w11.cell? ⟨z, 2, none⟩ = some (.int .u32 (w32 0#32)) := x11.cell 2
              have e3 : w11.cell? ⟨z, 3, none⟩ = some (.bool false) := x11.cell 3
              have e4 : w11.cell? ⟨z, 4, none⟩ = some (.bool false) := x11.cell 4
              have B11 := Lib.hid b11
              clear b10 x11 b11
              go_upto_region 20 with fail
              rw [← hw11, ← hz]
              clear hw11 hz
              go_wp2_with (go_at_call 13; refine (halive_any _).mono ?_; rintro e w12 ⟨rfl, b12⟩; have B12 := Lib.hid (B11.out.trans (b12.mono B11.out.size)); clear b12)
              go_ret
              exact ⟨rfl, HB.out _ B12.out⟩
          | true =>
            rw [hb] at he
            have HCF := Lib.hid (cut_facts s l c V k (k + 1) (by omega) (by rw [if_pos ⟨by omega, by rw [HXe.out]; simpa using hb⟩]))
            clear hb
            go_wp2
            go_quiet (fail)
            go_wp2_with fail
            clear he n0 c0 c1
            have HO := Lib.hid (show (w14.drewN nq).ownsRow wc.heap.size 25 1 (.slice (some ⟨gw, 0, none⟩) 13 pw) 13 (rowH (cutW s l c k V) 13) ∧ Below w1.heap.size w1 (w14.drewN nq) from ⟨HN.out.2.1, below_dn HN.out.2.2 nq⟩)
            by_cases h8 : 8 ≤ k + 1
            · by_cases h10 : 10 ≤ k + 1
              · have HV := Lib.hid (show validH (cutW s l c k V) = true ∧ confH (cutW s l c k V) = true ∧ headH (cutW s l c k V) 0 = s ∧ headH (cutW s l c k V) 2 = l ∧ headH (cutW s l c k V) 4 = c from ⟨by rw [HCF.out.1]; simpa using h8, by rw [HCF.out.2.1]; simpa using h10, HCF.out.2.2 h8⟩)
                have k8 : decide ((8 : Int) ≤ (k : Int) + 1) = true := by rw [decide_eq_true_iff]; omega
                have k10 : decide ((10 : Int) ≤ (k : Int) + 1) = true := by rw [decide_eq_true_iff]; omega
                clear h8 h10
                obtain ⟨T, hT⟩ : ∃ T : Nat, trC (cutW s l c k V) 3 = T := ⟨_, rfl⟩
                have HRW := Lib.hid (read_words _ HO.out.1 s l c true true T HV.out.1 HV.out.2.2.1 HV.out.2.2.2.1 HV.out.2.2.2.2 HV.out.2.1 hT rfl)
                clear hT
                refine HRW.out.mono ?_
                rintro e w10 ⟨rfl, b10⟩
                obtain ⟨z, hz⟩ : ∃ z, z = w10.heap.size := ⟨_, rfl⟩
                obtain ⟨w11, hw11⟩ : ∃ w11, w11 = w10.alloc (.cells #[.int .u32 (w32 s), .int .u32 (w32 l), .int .u32 (w32 c), .bool true, .bool true, .int .i64 (T : Nat)] 31) := ⟨_, rfl⟩
                have x11 : RowAt w11 z 31 #[.int .u32 (w32 s), .int .u32 (w32 l), .int .u32 (w32 c), .bool true, .bool true, .int .i64 (T : Nat)] := by rw [hw11, hz]; exact RowAt.mk w10 _ _
                have b11 : Below w1.heap.size w1 w11 := by rw [hw11]; exact (HO.out.2.trans (b10.mono HO.out.2.size)).alloc (Nat.le_trans HO.out.2.size b10.size) _
                obtain ⟨c0, c1, c2⟩ := HX.out _ b11
                have e0 : w11.cell? ⟨z, 0, none⟩ = some (.int .u32 (w32 s)) := x11.cell 0
                have e1 : w11.cell? ⟨z, 1, none⟩ = some (.int .u32 (w32 l)) := x11.cell 1
                have e2 : w11.cell? ⟨z, 2, none⟩ = some (.int .u32 (w32 c)) := x11.cell 2
                have e3 : w11.cell? ⟨z, 3, none⟩ = some (.bool true) := x11.cell 3
                have e4 : w11.cell? ⟨z, 4, none⟩ = some (.bool true) := x11.cell 4
                have B11 := Lib.hid b11
                clear b10 x11 b11
                go_upto_region 20 with fail
                rw [← hw11, ← hz]
                clear hw11 hz
                go_wp2_with (go_at_call 13; refine (halive_any _).mono ?_; rintro e w12 ⟨rfl, b12⟩; have B12 := Lib.hid (B11.out.trans (b12.mono B11.out.size)); clear b12)
                go_ret
                exact ⟨rfl, HB.out _ B12.out⟩
              · have HV := Lib.hid (show validH (cutW s l c k V) = true ∧ confH (cutW s l c k V) = false ∧ headH (cutW s l c k V) 0 = s ∧ headH (cutW s l c k V) 2 = l ∧ headH (cutW s l c k V) 4 = c from ⟨by rw [HCF.out.1]; simpa using h8, by rw [HCF.out.2.1]; simpa using h10, HCF.out.2.2 h8⟩)
                have k8 : decide ((8 : Int) ≤ (k : Int) + 1) = true := by rw [decide_eq_true_iff]; omega
                have k10 : decide ((10 : Int) ≤ (k : Int) + 1) = false := by rw [decide_eq_false_iff_not]; omega
                clear h8 h10
                obtain ⟨T, hT⟩ : ∃ T : Nat, trC (cutW s l c k V) 3 = T := ⟨_, rfl⟩
                have HRW := Lib.hid (read_words _ HO.out.1 s l c true false T HV.out.1 HV.out.2.2.1 HV.out.2.2.2.1 HV.out.2.2.2.2 HV.out.2.1 hT rfl)
                clear hT
                refine HRW.out.mono ?_
                rintro e w10 ⟨rfl, b10⟩
                obtain ⟨z, hz⟩ : ∃ z, z = w10.heap.size := ⟨_, rfl⟩
                obtain ⟨w11, hw11⟩ : ∃ w11, w11 = w10.alloc (.cells #[.int .u32 (w32 s), .int .u32 (w32 l), .int .u32 (w32 c), .bool true, .bool false, .int .i64 (T : Nat)] 31) := ⟨_, rfl⟩
                have x11 : RowAt w11 z 31 #[.int .u32 (w32 s), .int .u32 (w32 l), .int .u32 (w32 c), .bool true, .bool false, .int .i64 (T : Nat)] := by rw [hw11, hz]; exact RowAt.mk w10 _ _
                have b11 : Below w1.heap.size w1 w11 := by rw [hw11]; exact (HO.out.2.trans (b10.mono HO.out.2.size)).alloc (Nat.le_trans HO.out.2.size b10.size) _
                obtain ⟨c0, c1, c2⟩ := HX.out _ b11
                have e0 : w11.cell? ⟨z, 0, none⟩ = some (.int .u32 (w32 s)) := x11.cell 0
                have e1 : w11.cell? ⟨z, 1, none⟩ = some (.int .u32 (w32 l)) := x11.cell 1
                have e2 : w11.cell? ⟨z, 2, none⟩ = some (.int .u32 (w32 c)) := x11.cell 2
                have e3 : w11.cell? ⟨z, 3, none⟩ = some (.bool true) := x11.cell 3
                have e4 : w11.cell? ⟨z, 4, none⟩ = some (.bool false) := x11.cell 4
                have B11 := Lib.hid b11
                clear b10 x11 b11
                go_upto_region 20 with fail
                rw [← hw11, ← hz]
                clear hw11 hz
                go_wp2_with (go_at_call 13; refine (halive_any _).mono ?_; rintro e w12 ⟨rfl, b12⟩; have B12 := Lib.hid (B11.out.trans (b12.mono B11.out.size)); clear b12)
                go_ret
                exact ⟨rfl, HB.out _ B12.out⟩
            · have hvf : validH (cutW s l c k V) = false := by rw [HCF.out.1]; simpa using h8
              have HV := Lib.hid (show validH (cutW s l c k V) = false ∧ confH (cutW s l c k V) = false ∧ headH (cutW s l c k V) 0 = 0#32 ∧ headH (cutW s l c k V) 2 = 0#32 ∧ headH (cutW s l c k V) 4 = 0#32 from ⟨hvf, by unfold confH; rw [hvf]; rfl, if_neg (by rw [hvf]; decide), if_neg (by rw [hvf]; decide), if_neg (by rw [hvf]; decide)⟩)
              have k8 : decide ((8 : Int) ≤ (k : Int) + 1) = false := by rw [decide_eq_false_iff_not]; omega
              have k10 : decide ((10 : Int) ≤ (k : Int) + 1) = false := by rw [decide_eq_false_iff_not]; omega
              clear h8 hvf
              obtain ⟨T, hT⟩ : ∃ T : Nat, trC (cutW s l c k V) 3 = T := ⟨_, rfl⟩
              have HRW := Lib.hid (read_words _ HO.out.1 0#32 0#32 0#32 false false T HV.out.1 HV.out.2.2.1 HV.out.2.2.2.1 HV.out.2.2.2.2 HV.out.2.1 hT rfl)
              clear hT
              refine HRW.out.mono ?_
              rintro e w10 ⟨rfl, b10⟩
              obtain ⟨z, hz⟩ : ∃ z, z = w10.heap.size := ⟨_, rfl⟩
              obtain ⟨w11, hw11⟩ : ∃ w11, w11 = w10.alloc (.cells #[.int .u32 (w32 0#32), .int .u32 (w32 0#32), .int .u32 (w32 0#32), .bool false, .bool false, .int .i64 (T : Nat)] 31) := ⟨_, rfl⟩
              have x11 : RowAt w11 z 31 #[.int .u32 (w32 0#32), .int .u32 (w32 0#32), .int .u32 (w32 0#32), .bool false, .bool false, .int .i64 (T : Nat)] := by rw [hw11, hz]; exact RowAt.mk w10 _ _
              have b11 : Below w1.heap.size w1 w11 := by rw [hw11]; exact (HO.out.2.trans (b10.mono HO.out.2.size)).alloc (Nat.le_trans HO.out.2.size b10.size) _
              obtain ⟨c0, c1, c2⟩ := HX.out _ b11
              have e0 : w11.cell? ⟨z, 0, none⟩ = some (.int .u32 (w32 0#32)) := x11.cell 0
              have e1 : w11.cell? ⟨z, 1, none⟩ = some (.int .u32 (w32 0#32)) := x11.cell 1
              have e2 : w11.cell? ⟨z, 2, none⟩ = some (.int .u32 (w32 0#32)) := x11.cell 2
              have e3 : w11.cell? ⟨z, 3, none⟩ = some (.bool false) := x11.cell 3
              have e4 : w11.cell? ⟨z, 4, none⟩ = some (.bool false) := x11.cell 4
              have B11 := Lib.hid b11
              clear b10 x11 b11
              go_upto_region 20 with fail
              rw [← hw11, ← hz]
              clear hw11 hz
              go_wp2_with (go_at_call 13; refine (halive_any _).mono ?_; rintro e w12 ⟨rfl, b12⟩; have B12 := Lib.hid (B11.out.trans (b12.mono B11.out.size)); clear b12)
              go_ret
              exact ⟨rfl, HB.out _ B12.out⟩
end Go.Proofs.Ytdfknobohgncaaa
