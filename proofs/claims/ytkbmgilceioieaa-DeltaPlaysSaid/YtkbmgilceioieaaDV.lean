/- The walk of DeltaPlays. -/
import Derived.Test.YtkbmgilceioieaaDP
namespace Go.Proofs.Ytkbmgilceioieaa
open Go.RowKit

theorem stA_succ (O : List (Int × Int × Int)) (k : Nat) : stA O (k + 1) = if kindOf (opAt O k).1 = 2 then cancelA (opAt O k).2.1 (stA O k) else if kindOf (opAt O k).1 = 3 ∨ kindOf (opAt O k).1 = 4 then tickA (stA O k) else addA (opAt O k).2.1 (opAt O k).2.2 (stA O k) := rfl
theorem stR_succ (O : List (Int × Int × Int)) (k : Nat) : stR O (k + 1) = if kindOf (opAt O k).1 = 2 then cancelA (opAt O k).2.1 (stR O k) else if kindOf (opAt O k).1 = 3 ∨ kindOf (opAt O k).1 = 4 then restR (stR O k) else raddA (opAt O k).2.1 (opAt O k).2.2 (stR O k) := rfl
theorem DM.rowT {B q : Nat} {A r : List (Int × Int)} {sp : Option Addr} {n cap : Nat} {w : World} (h : DM B w q A (.slice sp n cap) r) : n = r.length ∧ ∃ g, RowT w sp g r := by
  obtain ⟨sp', g, cap', e, hT⟩ := h.row
  injection e with e1 e2 e3
  subst e1 e3
  exact ⟨e2, g, hT⟩
theorem refdrop_dm {B q : Nat} {A r : List (Int × Int)} {sp : Option Addr} {n cap : Nat} {w : World} (id : Int) (hs : B ≤ w.heap.size) (h : DM B w q A (.slice sp n cap) r) (hl : r.length ≤ 64) :
    Calls Try.prog 27 #[.slice sp n cap, .int .i64 id] w fun e w' => ∃ v, e = .returned (.tuple #[v, .bool (inA id r)]) ∧ DM B w' q A v (cancelA id r) ∧ Below w.heap.size w w' := by
  obtain ⟨rfl, g, hT⟩ := h.rowT
  refine (refdrop_any r sp g cap id w hT (by omega)).mono ?_
  rintro e w' ⟨v, rfl, ho, hb⟩
  exact ⟨v, rfl, h.fresh hs hb ho, hb⟩
theorem reftick_dm {B q : Nat} {A r : List (Int × Int)} {sp : Option Addr} {n cap : Nat} {w : World} (hs : B ≤ w.heap.size) (h : DM B w q A (.slice sp n cap) r) (hl : r.length ≤ 64) (hb : ∀ p ∈ r, 1 ≤ p.2 ∧ p.2 ≤ 65536) :
    Calls Try.prog 29 #[.slice sp n cap] w fun e w' => ∃ v sp' g' cap', e = .returned (.tuple #[v, .slice sp' (dueR r).length cap']) ∧ IsRow w' sp' g' (dueR r) ∧ DM B w' q A v (restR r) ∧ Below w.heap.size w w' := by
  obtain ⟨rfl, g, hT⟩ := h.rowT
  refine (reftick_any r sp g cap w hT (by omega) hb).mono ?_
  rintro e w' ⟨v, u, rfl, h1, h2, h3, -⟩
  obtain ⟨sp', g', cap', rfl, g2, -⟩ := own_row h2
  exact ⟨v, sp', g', cap', rfl, g2, h.fresh hs h3 h1, h3⟩
theorem radd_dm {B q : Nat} {A r : List (Int × Int)} {sp : Option Addr} {n cap : Nat} {w : World} (id t : Int) (hs : B ≤ w.heap.size) (h : DM B w q A (.slice sp n cap) r) (hl : r.length ≤ 64) :
    Calls Try.prog 32 #[.slice sp n cap, .int .i64 id, .int .i64 t] w fun e w' => ∃ v, e = .returned (.tuple #[v, .bool (fitsA id t r)]) ∧ DM B w' q A v (raddA id t r) ∧ Below w.heap.size w w' := by
  obtain ⟨rfl, g, hT⟩ := h.rowT
  refine (radd_any r sp g cap id t w hT hl).mono ?_
  rintro e w' (⟨hf, v, rfl, ho, hb⟩ | ⟨hf, rfl, hb⟩)
  · have e1 : raddA id t r = cancelA id r ++ [(id, t)] := by unfold raddA; rw [hf]; rfl
    rw [hf, e1]
    exact ⟨v, rfl, h.fresh hs hb (by rw [List.length_append]; exact ho), hb⟩
  · rw [hf, radd_no hf]
    exact ⟨_, rfl, h.below hb (Nat.le_refl _), hb⟩

set_option maxRecDepth 100000 in
set_option maxHeartbeats 8000000 in
theorem law_dplays (sp : Option Addr) (b off cap : Nat) (O : List (Int × Int × Int)) (w : World) (hlen : O.length ≤ 9223372036854775807) (hO : Ops w sp b off O) :
    Calls Try.prog 5 #[.slice sp O.length cap] w fun e w' => e = .returned (.bool true) ∧ Below w.heap.size w w' := by
  by_cases hn : O.length ≤ 200
  case neg =>
    have d2 : (200 : Int) < (O.length : Int) := by omega
    clear hO
    go_enter Try.func5, Try.ntmps5
    go_wp2
    go_ret
    exact ⟨rfl, Below.refl _ _⟩
  have d1 : ¬ (200 : Int) < (O.length : Int) := by omega
  have HO := Lib.hid hO
  obtain ⟨w1, hw1⟩ : ∃ w1, w1 = w.alloc (.cells #[.pointer none] 57) := ⟨_, rfl⟩
  obtain ⟨q, hq⟩ : ∃ q, q = w.heap.size := ⟨_, rfl⟩
  have HQ0 := Lib.hid (show DM w.heap.size w1 q [] (.slice none 0 0) [] by rw [hw1, hq]; exact DM.start w _ (Nat.le_refl _))
  have HB0 := Lib.hid (show Below w.heap.size w w1 by rw [hw1]; exact (Below.refl _ _).alloc (Nat.le_refl _) _)
  obtain ⟨N, hN⟩ : ∃ N, N = O.length := ⟨_, rfl⟩
  have HN := Lib.hid hN
  clear hO
  go_enter Try.func5, Try.ntmps5
  go_wp2
  rw [← hw1, ← hq]
  rw [← hN] at hn d1 hlen ⊢
  clear hw1 hq hN
  go_loopg [4, 5] N (fun g v i wr => ∃ k : Nat, k + g = N ∧ i = .int .i64 k ∧ Aside (DM w.heap.size wr q (stA O k) v (stR O k) ∧ Below w.heap.size w wr))
  case atStart => exact ⟨0, by omega, rfl, HQ0.out, HB0.out⟩
  case round =>
    obtain ⟨k, hkg, rfl, HR⟩ := hrel
    cases gk with
    | zero =>
      obtain rfl : k = N := by omega
      have HAl := Lib.hid (alive_any wr)
      go_wp2_with (go_at_call 37; refine HAl.out.mono ?_; rintro e w3 ⟨rfl, b3⟩; have HB3 := Lib.hid (HR.out.2.trans (b3.mono HR.out.2.size)); clear b3)
      go_ret
      exact ⟨rfl, HB3.out⟩
    | succ m1 =>
      have hlt : k < N := by omega
      have hki : (k : Int) < (N : Int) := by omega
      have hk0 : (0 : Int) ≤ (k : Int) := by omega
      obtain ⟨rfl, hbl⟩ := HO.out.1 (by rw [← HN.out]; omega)
      obtain ⟨c0, c1, c2⟩ := HO.out.at_ HR.out.2 k (by rw [← HN.out]; exact hlt)
      obtain ⟨spr, gr, cpr, rfl, hT⟩ := HR.out.1.row
      have HT := Lib.hid hT
      clear hT hbl
      obtain ⟨x, hx⟩ : ∃ x, (opAt O k).1.tmod 5 = x := ⟨_, rfl⟩
      have hx1 : -4 ≤ x := by rw [← hx]; have := Int.lt_tmod_of_pos (opAt O k).1 (show (0 : Int) < 5 by decide); omega
      have hx2 : x ≤ 4 := by rw [← hx]; have := Int.tmod_lt_of_pos (opAt O k).1 (show (0 : Int) < 5 by decide); omega
      obtain ⟨y, hy⟩ : ∃ y, (x + 5) % 5 = y := ⟨_, rfl⟩
      have hyk : kindOf (opAt O k).1 = y := by
        unfold kindOf
        rw [hx, ← hy, Int.tmod_eq_emod_of_nonneg (by omega)]
      have HY := Lib.hid hyk
      clear hyk
      go_upto_block 2 with fail
      rw [hy]
      clear hx hy hx1 hx2
      go_cut [4, 6, 7, 8, 9] from 20 to 153 (fun s4 s6 s7 s8 s9 wx => ∃ (bb : Bool), s6 = .bool bb ∧ s7 = .bool bb ∧ Aside (DM w.heap.size wx q (stA O (k + 1)) s4 (stR O (k + 1)) ∧ Below w.heap.size w wx))
      case first =>
        have HR0 := Lib.hid (st_rel O k)
        have hrl : (stR O k).length ≤ 64 := by rw [← HR0.out.2.len]; exact HR0.out.1.len
        have HRL := Lib.hid hrl
        clear hrl
        by_cases h2 : y = 2
        · subst h2
          have HS := Lib.hid (show stA O (k + 1) = cancelA (opAt O k).2.1 (stA O k) ∧ stR O (k + 1) = cancelA (opAt O k).2.1 (stR O k) from ⟨if_pos HY.out, if_pos HY.out⟩)
          have HC := Lib.hid (cancel_dm (opAt O k).2.1 (by exact HR.out.2.size) HR.out.1)
          clear c0
          go_wp2_with (first
            | (go_at_call 26; refine HC.out.mono ?_; rintro e w2 ⟨rfl, q2, b2⟩; have HQ2 := Lib.hid q2; have HB2 := Lib.hid (HR.out.2.trans b2); obtain ⟨-, c1, c2⟩ := HO.out.at_ HB2.out k (by rw [← HN.out]; exact hlt); clear q2 b2)
            | (go_at_call 27; refine (refdrop_dm (opAt O k).2.1 HB2.out.size HQ2.out HRL.out).mono ?_; rintro e w3 ⟨v3, rfl, q3, b3⟩; have HQ3 := Lib.hid q3; have HB3 := Lib.hid (HB2.out.trans (b3.mono HB2.out.size)); clear q3 b3))
          go_meet
          case rel => exact ⟨inA (opAt O k).2.1 (stA O k), rfl, by rw [HR0.out.2.inA], by rw [HS.out.1, HS.out.2]; exact HQ3.out, HB3.out⟩
        by_cases h3 : y = 3
        · subst h3
          have HS := Lib.hid (show stA O (k + 1) = tickA (stA O k) ∧ stR O (k + 1) = restR (stR O k) by
            rw [stA_succ, stR_succ, HY.out, if_neg (by decide), if_pos (by decide), if_neg (by decide), if_pos (by decide)]; exact ⟨rfl, rfl⟩)
          have HDE := Lib.hid (show decide (dueA (stA O k) = dueR (stR O k)) = true by rw [HR0.out.2.due HR0.out.1]; simp)
          have HDL := Lib.hid (show (dueA (stA O k)).length ≤ 1000000 ∧ (dueR (stR O k)).length ≤ 1000000 by rw [← HR0.out.2.due HR0.out.1]; have := dueA_len HR0.out.1; omega)
          clear c0 c1 c2
          go_wp2_with (first
            | (go_at_call 28; refine (tick_dm (by exact HR.out.2.size) HR.out.1).mono ?_; rintro e w2 ⟨s2, g2, p2, rfl, r2, l2, q2, b2⟩; have HQ2 := Lib.hid q2; have HR2 := Lib.hid r2; have HL2 := Lib.hid l2; have HB2 := Lib.hid (HR.out.2.trans b2); clear q2 b2 r2 l2)
            | (go_at_call 29; refine (reftick_dm HB2.out.size HQ2.out HRL.out (rest_bounds HR0.out.1 HR0.out.2)).mono ?_; rintro e w3 ⟨v3, s3, g3, p3, rfl, r3, q3, b3⟩; have HQ3 := Lib.hid q3; have HR3 := Lib.hid r3; have HR4 := Lib.hid (HR2.out.below b3 HL2.out); have HB3 := Lib.hid (HB2.out.trans (b3.mono HB2.out.size)); clear q3 b3 r3)
            | (go_at_call 30; refine (row_any _ _ _ _ _ _ _ _ _ HR4.out HR3.out HDL.out.1 HDL.out.2).mono ?_; rintro e w4 ⟨rfl, n4, rfl⟩; rw [HDE.out]))
          go_meet
          case rel => exact ⟨true, rfl, rfl, by rw [HS.out.1, HS.out.2]; exact HQ3.out.below (Below.drewN (Below.refl _ _) n4) (Nat.le_refl _), Below.drewN HB3.out n4⟩
        by_cases h4 : y = 4
        · subst h4
          have HS := Lib.hid (show stA O (k + 1) = tickA (stA O k) ∧ stR O (k + 1) = restR (stR O k) by
            rw [stA_succ, stR_succ, HY.out, if_neg (by decide), if_pos (by decide), if_neg (by decide), if_pos (by decide)]; exact ⟨rfl, rfl⟩)
          have HDE := Lib.hid (show decide (dueA (stA O k) = dueR (stR O k)) = true by rw [HR0.out.2.due HR0.out.1]; simp)
          have HDL := Lib.hid (show (dueA (stA O k)).length ≤ 1000000 ∧ (dueR (stR O k)).length ≤ 1000000 by rw [← HR0.out.2.due HR0.out.1]; have := dueA_len HR0.out.1; omega)
          clear c0 c1 c2
          go_wp2_with (first
            | (go_at_call 28; refine (tick_dm (by exact HR.out.2.size) HR.out.1).mono ?_; rintro e w2 ⟨s2, g2, p2, rfl, r2, l2, q2, b2⟩; have HQ2 := Lib.hid q2; have HR2 := Lib.hid r2; have HL2 := Lib.hid l2; have HB2 := Lib.hid (HR.out.2.trans b2); clear q2 b2 r2 l2)
            | (go_at_call 29; refine (reftick_dm HB2.out.size HQ2.out HRL.out (rest_bounds HR0.out.1 HR0.out.2)).mono ?_; rintro e w3 ⟨v3, s3, g3, p3, rfl, r3, q3, b3⟩; have HQ3 := Lib.hid q3; have HR3 := Lib.hid r3; have HR4 := Lib.hid (HR2.out.below b3 HL2.out); have HB3 := Lib.hid (HB2.out.trans (b3.mono HB2.out.size)); clear q3 b3 r3)
            | (go_at_call 30; refine (row_any _ _ _ _ _ _ _ _ _ HR4.out HR3.out HDL.out.1 HDL.out.2).mono ?_; rintro e w4 ⟨rfl, n4, rfl⟩; rw [HDE.out]))
          go_meet
          case rel => exact ⟨true, rfl, rfl, by rw [HS.out.1, HS.out.2]; exact HQ3.out.below (Below.drewN (Below.refl _ _) n4) (Nat.le_refl _), Below.drewN HB3.out n4⟩
        have HS := Lib.hid (show stA O (k + 1) = addA (opAt O k).2.1 (opAt O k).2.2 (stA O k) ∧ stR O (k + 1) = raddA (opAt O k).2.1 (opAt O k).2.2 (stR O k) by
          have e1 : ¬ (y = 3 ∨ y = 4) := by omega
          rw [stA_succ, stR_succ, HY.out, if_neg h2, if_neg h2, if_neg e1, if_neg e1]; exact ⟨rfl, rfl⟩)
        have e2 : (y == 2) = false := by simpa using h2
        have e3 : (y == 3) = false := by simpa using h3
        have e4 : (y == 4) = false := by simpa using h4
        have HC := Lib.hid (add_dm (opAt O k).2.1 (opAt O k).2.2 (by exact HR.out.2.size) (HR.out.1.below (Below.refl _ _).drew (Nat.le_refl _)))
        clear h2 h3 h4 c0
        go_wp2
        go_still_tail 11, (by kernel_rfl)
        go_wp2_with (go_at_call 31; refine HC.out.mono ?_; rintro e w2 ⟨rfl, q2, b2⟩; have HQ2 := Lib.hid q2; have HB2 := Lib.hid ((HR.out.2.drew).trans b2); obtain ⟨-, c1, c2⟩ := HO.out.at_ HB2.out k (by rw [← HN.out]; exact hlt); clear q2 b2)
        have HDR := Lib.hid (HQ2.out.below (Below.refl _ _).drew (Nat.le_refl _))
        have HZS := Lib.hid (show w.heap.size ≤ w2.drew.heap.size from HB2.out.size)
        have HCC := Lib.hid (fun (w3 : World) (hb : Below w2.drew.heap.size w2.drew w3) => (HO.out.at_ (HB2.out.drew.trans (hb.mono HZS.out)) k (by rw [← HN.out]; exact hlt)).2)
        go_region_held3 (fun w' => w'.cell? ⟨b, off + k * 3 + 1, none⟩ = some (.int .i64 (opAt O k).2.1) ∧ w'.cell? ⟨b, off + k * 3 + 2, none⟩ = some (.int .i64 (opAt O k).2.2)) (first | exact hcn | exact ⟨c1, c2⟩ | go_keep)
          (first
            | (go_at_call 32; refine (radd_dm (opAt O k).2.1 (opAt O k).2.2 HZS.out HDR.out HRL.out).mono ?_; rintro e w3 ⟨v3, rfl, q3, b3⟩; have hcn := HCC.out _ b3; have HQ3 := Lib.hid q3; have HB3 := Lib.hid ((HB2.out.drew).trans (b3.mono HZS.out)); clear q3 b3))
        go_wp2
        go_meet
        case rel => exact ⟨fitsA (opAt O k).2.1 (opAt O k).2.2 (stA O k), rfl, by rw [HR0.out.2.fits], by rw [HS.out.1, HS.out.2]; exact HQ3.out, HB3.out⟩
      case rest =>
        obtain ⟨bb, rfl, rfl, HC⟩ := hcut
        obtain ⟨sp4, g4, cap4, rfl, -⟩ := HC.out.1.row
        have hst := st_rel O (k + 1)
        obtain ⟨A, hA⟩ : ∃ A, stA O (k + 1) = A := ⟨_, rfl⟩
        obtain ⟨r, hr⟩ : ∃ r, stR O (k + 1) = r := ⟨_, rfl⟩
        rw [hA, hr] at hst HC
        have HA := Lib.hid (And.intro hA hr)
        have HST := Lib.hid hst
        have hl := HST.out.2.len
        have hal := HST.out.1.len
        obtain ⟨id, hid⟩ : ∃ id, (opAt O k).2.1 = id := ⟨_, rfl⟩
        have HI := Lib.hid hid
        obtain ⟨-, c1, -⟩ := HO.out.at_ HC.out.2 k (by rw [← HN.out]; exact hlt)
        rw [hid] at c1
        have HLL := Lib.hid hl
        have hrl : r.length ≤ 64 := by omega
        have HD1 := Lib.hid (due_dm id HC.out.1)
        rw [hr]
        clear hA hr hst hid hl c0 c2
        go_wp2_with (go_at_call 33; refine HD1.out.mono ?_; rintro e w5 ⟨rfl, q5, b5⟩; have HQ5 := Lib.hid q5; have HB5 := Lib.hid (HC.out.2.trans (b5.mono HC.out.2.size)); obtain ⟨-, c1, -⟩ := HO.out.at_ HB5.out k (by rw [← HN.out]; exact hlt); rw [HI.out] at c1; clear q5 b5)
        have HT5 := Lib.hid HQ5.out.rowT.2
        go_loopg [12, 13, 14] r.length (fun m2 a1 a2 i w6 => ∃ c : Nat, c + m2 = r.length ∧ i = .int .i64 c ∧ a1 = .int .i64 (lk id r c).1 ∧ a2 = .bool (lk id r c).2 ∧ Aside (∃ n, w6 = w5.drewN n))
        case atStart => exact ⟨0, by omega, rfl, rfl, rfl, 0, rfl⟩
        case round =>
          obtain ⟨c, hcm, rfl, rfl, rfl, HW⟩ := hrel
          obtain ⟨n, rfl⟩ := HW.out
          clear HW
          cases gk with
          | succ m2 =>
            have hc : c < r.length := by omega
            have hci : (c : Int) < (r.length : Int) := by omega
            have hc0 : (0 : Int) ≤ (c : Int) := by omega
            obtain ⟨g5, hT5⟩ := HT5.out
            obtain rfl := hT5.1 (by omega)
            obtain ⟨d0, d1⟩ := hT5.2 c hc
            clear hT5 HT5
            by_cases he : aI r c = id
            · have hb : (aI r c == id) = true := by simpa using he
              have HE := Lib.hid he
              clear he
              go_wp2
              go_quiet (fail)
              go_wp2
              go_roundg m2
              case measure => omega
              case rel => exact ⟨c + 1, by omega, by go_num, by rw [show lk id r (c + 1) = _ from if_pos HE.out], by rw [show lk id r (c + 1) = _ from if_pos HE.out], _, rfl⟩
            · have hb : (aI r c == id) = false := by simpa using he
              have HE := Lib.hid he
              clear he
              go_wp2
              go_quiet (fail)
              go_wp2
              go_roundg m2
              case measure => omega
              case rel => exact ⟨c + 1, by omega, by go_num, by rw [show lk id r (c + 1) = _ from if_neg HE.out], by rw [show lk id r (c + 1) = _ from if_neg HE.out], _, rfl⟩
          | zero =>
            obtain rfl : c = r.length := by omega
            rw [lk_all HST.out.1 HST.out.2 id]
            clear hcm c1
            have HD6 := Lib.hid (HQ5.out.below (Below.drewN (Below.refl _ _) n) (Nat.le_refl _))
            have HB6 := Lib.hid (Below.drewN HB5.out n)
            have HLen := Lib.hid (len_dm HD6.out)
            rw [HLL.out] at HLen
            have HAl := Lib.hid (all_dm HD6.out)
            have HFL := Lib.hid (show (flatA A).length ≤ 1000000 by rw [flatA_len]; omega)
            obtain ⟨T, hT⟩ : ∃ T, lookT id A = T := ⟨_, rfl⟩
            obtain ⟨I, hI⟩ : ∃ I, inA id A = I := ⟨_, rfl⟩
            rw [hT, hI]
            dsimp only
            clear hT hI
            go_wp2_with (first
              | (go_at_call 34; refine HLen.out.mono ?_; rintro e w7 ⟨rfl, rfl⟩)
              | (go_at_call 35; refine HAl.out.mono ?_; rintro e w7 ⟨s7, g7, p7, rfl, r7, l7, q7, b7⟩; have HR7 := Lib.hid r7; have HL7 := Lib.hid l7; have HQ7 := Lib.hid q7; have HB7 := Lib.hid (HB6.out.trans (b7.mono HB6.out.size)); clear r7 l7 q7 b7)
              | (go_at_call 36; refine (refrow_dm HQ7.out HST.out.2).mono ?_; rintro e w8 ⟨s8, g8, p8, rfl, r8, q8, b8⟩; have HR8 := Lib.hid r8; have HR9 := Lib.hid (HR7.out.below b8 HL7.out); have HQ8 := Lib.hid q8; have HB8 := Lib.hid (HB7.out.trans (b8.mono HB7.out.size)); clear r8 q8 b8))
            refine (row_any _ _ _ _ _ _ _ _ _ HR9.out HR8.out HFL.out HFL.out).mono ?_
            rintro e w9 ⟨rfl, n9, rfl⟩
            rw [decide_eq_true (Eq.refl (flatA A))]
            go_wp2
            go_roundg m1
            case measure => omega
            case rel => exact ⟨k + 1, by omega, by go_num, by rw [HA.out.1, HA.out.2]; exact ⟨HQ8.out.below (Below.drewN (Below.refl _ _) n9) (Nat.le_refl _), Below.drewN HB8.out n9⟩⟩
end Go.Proofs.Ytkbmgilceioieaa
