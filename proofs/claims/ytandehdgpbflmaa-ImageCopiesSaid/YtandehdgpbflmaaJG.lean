/- The contract of image's mapMayBe. -/
import Derived.Test.YtandehdgpbflmaaJF
namespace Go.Proofs.Ytandehdgpbflmaa
open Go.RowKit

/-- Which queues the first ones become. -/
def takenB (l : List Int) : Nat → BitVec 32
  | 0 => 0#32
  | k + 1 => if l.getD k 0 = 0 then takenB l k else takenB l k ||| onl (l.getD k 0)
def mapK (l : List Int) (f t : Int) (k : Nat) : Bool := inB (l.getD k 0) 0 t && (decide (l.getD k 0 = 0) || (decide ((k : Int) < f) && !hasB (takenB l k) (l.getD k 0)))
def mapOK (l : List Int) (f t : Int) : Bool := (List.range 4).all (mapK l f t)
set_option maxHeartbeats 4000000 in
set_option maxRecDepth 100000 in
theorem imapMayBe_any (l : List Int) (hl : l.length = 4) (f t : Int) (w : World) :
    Calls Try.prog 88 #[.agg (rowZ l).toArray, .int .i64 f, .int .i64 t] w fun e w' => e = .returned (.bool (mapOK l f t)) ∧ Below w.heap.size w w' := by
  have HX := Lib.hid (fun (k : Nat) (hk : k < 4) (wx : World) => run_index_row Try.underlying43 l hl k hk wx)
  have HO := Lib.hid (show mapOK l f t = (List.range 4).all (mapK l f t) from rfl)
  obtain ⟨v, hv⟩ : ∃ v, mapOK l f t = v := ⟨_, rfl⟩
  rw [hv] at HO ⊢
  obtain ⟨Z, hZ⟩ : ∃ Z, Z = w.heap.size := ⟨_, rfl⟩
  have HZ := Lib.hid (show ∀ w2, w.alloc (.cells (rowZ l).toArray 43) = w2 → Below w.heap.size w w2 ∧ RowAt w2 Z 43 (rowZ l).toArray ∧ At w2 Z 0 (rowZ l) from fun w2 hw => by
    have hr : RowAt w2 Z 43 (rowZ l).toArray := by rw [← hw, hZ]; exact RowAt.mk _ _ _
    exact ⟨by rw [← hw]; exact (Below.refl _ _).alloc (Nat.le_refl _) _, hr, fun j u hu => (hr.cell (0 + j)).trans (by simpa using hu)⟩)
  have HL := Lib.hid (show (rowZ l).length = 4 by rw [rowZ_len, hl])
  obtain ⟨row, hrow⟩ : ∃ r, rowZ l = r := ⟨_, rfl⟩
  have HXr := Lib.hid (fun (k : Nat) (hk : k < 4) (wx : World) => show (Instr.index 43 (.agg row.toArray) (.int .i64 (k : Int))).run Try.prog wx = .ok (.int .i64 (l.getD k 0)) wx from by rw [← hrow]; exact HX.out k hk wx)
  rw [hrow] at HZ HL ⊢
  clear hv hrow HX hl
  go_enter Try.func88, Try.ntmps88
  go_upto_region 1 with fail
  rw [← hZ]
  generalize hw2 : World.alloc _ _ = w2
  have HZ2 := Lib.hid (HZ.out w2 hw2)
  clear hw2 hZ HZ
  go_upto_region 3 with (first
    | (refine wpList_load_mid rfl 43 (.tmp 3) rfl Z 0 rfl row _ HZ2.out.2.2 Try.underlying43 rfl (by rw [HL.out]; kernel_rfl) ?_)
    | fail)
  have HB := Lib.hid HZ2.out.1
  clear HZ2 HL
  go_loopg [7, 11] 4 (fun g s u wr => ∃ k : Nat, k + g = 4 ∧ s = .int .u32 (w32 (takenB l k)) ∧ u = .int .i64 (k : Nat) ∧ Aside (w2 = wr ∧ ∀ j, j < k → mapK l f t j = true))
  case atStart => exact ⟨0, by omega, rfl, rfl, rfl, fun j hj => absurd hj (Nat.not_lt_zero j)⟩
  case round =>
    obtain ⟨k, hkg, rfl, rfl, HR⟩ := hrel
    obtain ⟨rfl, hq⟩ := HR.out
    have HQ2 := Lib.hid hq
    clear HR hq
    cases gk with
    | zero =>
      obtain rfl : k = 4 := by omega
      have HV := Lib.hid (show v = true by rw [HO.out]; exact rangeAll_yes HQ2.out)
      obtain ⟨T, hT⟩ : ∃ T, w32 (takenB l 4) = T := ⟨_, rfl⟩
      rw [hT]
      clear hT
      go_wp2
      go_ret
      exact ⟨by rw [HV.out]; rfl, HB.out⟩
    | succ g1 =>
      have hk : k < 4 := by omega
      have hk2 : (k : Int) < 4 := by omega
      have hx := HXr.out k hk
      have HW := Lib.hid (fun wx => within_any (l.getD k 0) 0 t wx)
      have HM := Lib.hid (show mapK l f t k = (inB (l.getD k 0) 0 t && (decide (l.getD k 0 = 0) || (decide ((k : Int) < f) && !hasB (takenB l k) (l.getD k 0)))) from rfl)
      have HT1 := Lib.hid (show takenB l (k + 1) = if l.getD k 0 = 0 then takenB l k else takenB l k ||| onl (l.getD k 0) from rfl)
      obtain ⟨T, hT⟩ : ∃ T, takenB l k = T := ⟨_, rfl⟩
      obtain ⟨n, hn⟩ : ∃ n, l.getD k 0 = n := ⟨_, rfl⟩
      rw [hn] at HW HM hx HT1
      rw [hT] at HM HT1 ⊢
      have HN := Lib.hid (fun (h : mapK l f t k = false) => show v = false by rw [HO.out]; exact rangeAll_no hk h)
      have HY := Lib.hid (fun (h : mapK l f t k = true) => show ∀ j, j < k + 1 → mapK l f t j = true from fun j hj => by
        rcases Nat.lt_or_ge j k with h2 | h2
        · exact HQ2.out j h2
        · obtain rfl : j = k := by omega
          exact h)
      clear hn hT HO HQ2 HXr
      obtain ⟨bw, hbw⟩ : ∃ c, inB n 0 t = c := ⟨_, rfl⟩
      rw [hbw] at HW HM
      clear hbw
      cases bw with
      | false =>
        go_wp2_with (go_at_call 32; refine (HW.out _).mono ?_; rintro e w' ⟨rfl, rfl⟩; clear HW)
        go_ret
        exact ⟨by rw [HN.out (by rw [HM.out]; rfl)]; rfl, HB.out⟩
      | true =>
        by_cases hn0 : n = 0
        · subst hn0
          go_wp2_with (go_at_call 32; refine (HW.out _).mono ?_; rintro e w' ⟨rfl, rfl⟩; clear HW)
          go_roundg g1
          case measure => omega
          case rel => exact ⟨k + 1, by omega, by rw [HT1.out]; rfl, by go_num, rfl, HY.out (by rw [HM.out]; rfl)⟩
        · by_cases hf : (k : Int) < f
          · have HHk := Lib.hid (fun wx => mhas_any T n wx)
            have HWi := Lib.hid (fun wx => with_any T n wx)
            have hb0 : decide (n ∈ ints (lst T 32)) = hasB T n := rfl
            rw [hb0] at HHk
            have HM2 := Lib.hid (show mapK l f t k = !hasB T n by rw [HM.out, decide_eq_false hn0, decide_eq_true hf]; rfl)
            have HT2 := Lib.hid (show takenB l (k + 1) = T ||| onl n by rw [HT1.out, if_neg hn0])
            obtain ⟨hh, hhb⟩ : ∃ c, hasB T n = c := ⟨_, rfl⟩
            rw [hhb] at HHk HM2
            clear hb0 hhb HM HT1
            cases hh with
            | true =>
              go_wp2_with (first | (go_at_call 32; refine (HW.out _).mono ?_; rintro e w' ⟨rfl, rfl⟩; clear HW) | (go_at_call 102; refine (HHk.out _).mono ?_; rintro e w' ⟨rfl, rfl⟩; clear HHk) | fail)
              go_ret
              exact ⟨by rw [HN.out (by rw [HM2.out]; rfl)]; rfl, HB.out⟩
            | false =>
              go_wp2_with (first | (go_at_call 32; refine (HW.out _).mono ?_; rintro e w' ⟨rfl, rfl⟩; clear HW) | (go_at_call 102; refine (HHk.out _).mono ?_; rintro e w' ⟨rfl, rfl⟩; clear HHk) | (go_at_call 103; refine (HWi.out _).mono ?_; rintro e w' ⟨rfl, rfl⟩; clear HWi) | fail)
              go_roundg g1
              case measure => omega
              case rel => exact ⟨k + 1, by omega, by rw [HT2.out], by go_num, rfl, HY.out (by rw [HM2.out]; rfl)⟩
          · have HM2 := Lib.hid (show mapK l f t k = false by rw [HM.out, decide_eq_false hn0, decide_eq_false hf]; rfl)
            clear HM HT1
            go_wp2_with (first | (go_at_call 32; refine (HW.out _).mono ?_; rintro e w' ⟨rfl, rfl⟩; clear HW) | fail)
            go_ret
            exact ⟨by rw [HN.out HM2.out]; rfl, HB.out⟩
end Go.Proofs.Ytandehdgpbflmaa
