/- The contract of image's offsetsMayBe. -/
import Derived.Test.YtandehdgpbflmaaJE
import Derived.Test.YtandehdgpbflmaaVH
namespace Go.Proofs.Ytandehdgpbflmaa
open Go.RowKit

/-- How long a task may be offset at most. -/
def mostO (prot : Int) (b : BitVec 32) (k : Nat) : Int := if (prot == 3 && hasB b (k : Int)) = true then 16384 else 0
def offK (l : List Int) (prot : Int) (b : BitVec 32) (k : Nat) : Bool := inB (l.getD k 0) 0 (mostO prot b k)
def offOK (l : List Int) (prot : Int) (b : BitVec 32) : Bool := (List.range 16).all (offK l prot b)
theorem rangeAll_yes {n : Nat} {p : Nat → Bool} (h : ∀ j, j < n → p j = true) : (List.range n).all p = true := by
  rw [List.all_eq_true]; intro j hj; exact h j (List.mem_range.1 hj)
theorem rangeAll_no {n : Nat} {p : Nat → Bool} {k : Nat} (hk : k < n) (h : p k = false) : (List.range n).all p = false := by
  rw [List.all_eq_false]; exact ⟨k, List.mem_range.2 hk, by rw [h]; decide⟩
set_option maxHeartbeats 4000000 in
set_option maxRecDepth 100000 in
theorem ioffsetsMayBe_any (E : Array Value) (prot : Int) (l : List Int) (hl : l.length = 16) (h2 : E[2]? = some (.int .i64 prot)) (hat : ∀ (j : Nat) (u : Value), (rowZ l)[j]? = some u → E[3 + j]? = some u) (b : BitVec 32) (w : World) :
    Calls Try.prog 89 #[.agg E, .int .u32 (w32 b)] w fun e w' => e = .returned (.bool (offOK l prot b)) ∧ Below w.heap.size w w' := by
  have HX := Lib.hid (fun (k : Nat) (hk : k < 16) (wx : World) => run_index_row Try.underlying42 l hl k hk wx)
  have HO := Lib.hid (show offOK l prot b = (List.range 16).all (offK l prot b) from rfl)
  have HH := Lib.hid (fun (n : Int) (wx : World) => mhas_any b n wx)
  obtain ⟨v, hv⟩ : ∃ v, offOK l prot b = v := ⟨_, rfl⟩
  rw [hv] at HO ⊢
  obtain ⟨Z, hZ⟩ : ∃ Z, Z = w.heap.size := ⟨_, rfl⟩
  have HZ := Lib.hid (show ∀ w2, w.alloc (.cells E 45) = w2 → Below w.heap.size w w2 ∧ RowAt w2 Z 45 E ∧ At w2 Z 3 (rowZ l) from fun w2 hw => by
    have hr : RowAt w2 Z 45 E := by rw [← hw, hZ]; exact RowAt.mk _ _ _
    exact ⟨by rw [← hw]; exact (Below.refl _ _).alloc (Nat.le_refl _) _, hr, fun j u hu => (hr.cell (3 + j)).trans (hat j u hu)⟩)
  have HL := Lib.hid (show (rowZ l).length = 16 by rw [rowZ_len, hl])
  have H2 := Lib.hid h2
  obtain ⟨row, hrow⟩ : ∃ r, rowZ l = r := ⟨_, rfl⟩
  have HXr := Lib.hid (fun (k : Nat) (hk : k < 16) (wx : World) => show (Instr.index 42 (.agg row.toArray) (.int .i64 (k : Int))).run Try.prog wx = .ok (.int .i64 (l.getD k 0)) wx from by rw [← hrow]; exact HX.out k hk wx)
  rw [hrow] at HZ HL
  clear hv hrow HX h2 hat hl
  go_enter Try.func89, Try.ntmps89
  go_upto_region 1 with fail
  rw [← hZ]
  generalize hw2 : World.alloc _ _ = w2
  have HZ2 := Lib.hid (HZ.out w2 hw2)
  clear hw2 hZ HZ
  go_upto_region 2 with (first
    | (refine wpList_load_mid rfl 42 (.tmp 8) rfl Z 3 rfl row _ HZ2.out.2.2 Try.underlying42 rfl (by rw [HL.out]; kernel_rfl) ?_)
    | fail)
  have c2 : w2.cell? ⟨Z, 2, none⟩ = some (.int .i64 prot) := (HZ2.out.2.1.cell 2).trans H2.out
  have HB := Lib.hid HZ2.out.1
  clear HZ2 H2 HL
  go_loopg [10] 16 (fun g u wr => ∃ k : Nat, k + g = 16 ∧ u = .int .i64 (k : Nat) ∧ Aside (w2 = wr ∧ ∀ j, j < k → offK l prot b j = true))
  case atStart => exact ⟨0, by omega, rfl, rfl, fun j hj => absurd hj (Nat.not_lt_zero j)⟩
  case round =>
    obtain ⟨k, hkg, rfl, HR⟩ := hrel
    obtain ⟨rfl, hq⟩ := HR.out
    have HQ2 := Lib.hid hq
    clear HR hq
    cases gk with
    | zero =>
      obtain rfl : k = 16 := by omega
      have HV := Lib.hid (show v = true by rw [HO.out]; exact rangeAll_yes HQ2.out)
      go_wp2
      go_ret
      exact ⟨by rw [HV.out]; rfl, HB.out⟩
    | succ g1 =>
      have hk : k < 16 := by omega
      have hk2 : (k : Int) < 16 := by omega
      have hx := HXr.out k hk
      have HW := Lib.hid (fun m wx => within_any (l.getD k 0) 0 m wx)
      have HM := Lib.hid (show offK l prot b k = inB (l.getD k 0) 0 (mostO prot b k) from rfl)
      obtain ⟨n, hn⟩ : ∃ n, l.getD k 0 = n := ⟨_, rfl⟩
      rw [hn] at HW HM hx
      have HN := Lib.hid (fun (h : offK l prot b k = false) => show v = false by rw [HO.out]; exact rangeAll_no hk h)
      have HY := Lib.hid (fun (h : offK l prot b k = true) => show ∀ j, j < k + 1 → offK l prot b j = true from fun j hj => by
        rcases Nat.lt_or_ge j k with h2 | h2
        · exact HQ2.out j h2
        · obtain rfl : j = k := by omega
          exact h)
      clear hn HO HQ2 HXr
      by_cases hp : prot = 3
      · have HHk := Lib.hid (fun wx => HH.out (k : Int) wx)
        have HV0 := Lib.hid (show mostO prot b k = if (prot == 3 && hasB b (k : Int)) = true then 16384 else 0 from rfl)
        have hb0 : decide ((k : Int) ∈ ints (lst b 32)) = hasB b (k : Int) := rfl
        rw [hb0] at HHk
        obtain ⟨hh, hhb⟩ : ∃ c, hasB b (k : Int) = c := ⟨_, rfl⟩
        rw [hhb] at HHk HV0
        clear hb0 hhb HH
        rw [hp] at c2
        cases hh with
        | true =>
          have HV := Lib.hid (show mostO prot b k = 16384 by rw [HV0.out, hp]; rfl)
          clear HV0 hp
          have HWm := Lib.hid (fun wx => HW.out 16384 wx)
          have HM2 := Lib.hid (show inB n 0 16384 = offK l prot b k from by rw [HM.out, HV.out])
          rw [HM2.out] at HWm
          obtain ⟨bb, hbb⟩ : ∃ c, offK l prot b k = c := ⟨_, rfl⟩
          rw [hbb] at HWm HN HY
          clear hbb HM HM2 HV HW
          cases bb with
          | true =>
            go_wp2_with (first | (go_at_call 32; refine (HWm.out _).mono ?_; rintro e w' ⟨rfl, rfl⟩; clear HWm) | (go_at_call 102; refine (HHk.out _).mono ?_; rintro e w' ⟨rfl, rfl⟩; clear HHk) | fail)
            go_roundg g1
            case measure => omega
            case rel => exact ⟨k + 1, by omega, by go_num, rfl, HY.out (by simp)⟩
          | false =>
            go_wp2_with (first | (go_at_call 32; refine (HWm.out _).mono ?_; rintro e w' ⟨rfl, rfl⟩; clear HWm) | (go_at_call 102; refine (HHk.out _).mono ?_; rintro e w' ⟨rfl, rfl⟩; clear HHk) | fail)
            go_ret
            exact ⟨by rw [HN.out (by simp)]; rfl, HB.out⟩
        | false =>
          have HV := Lib.hid (show mostO prot b k = 0 by rw [HV0.out, hp]; rfl)
          clear HV0 hp
          have HWm := Lib.hid (fun wx => HW.out 0 wx)
          have HM2 := Lib.hid (show inB n 0 0 = offK l prot b k from by rw [HM.out, HV.out])
          rw [HM2.out] at HWm
          obtain ⟨bb, hbb⟩ : ∃ c, offK l prot b k = c := ⟨_, rfl⟩
          rw [hbb] at HWm HN HY
          clear hbb HM HM2 HV HW
          cases bb with
          | true =>
            go_wp2_with (first | (go_at_call 32; refine (HWm.out _).mono ?_; rintro e w' ⟨rfl, rfl⟩; clear HWm) | (go_at_call 102; refine (HHk.out _).mono ?_; rintro e w' ⟨rfl, rfl⟩; clear HHk) | fail)
            go_roundg g1
            case measure => omega
            case rel => exact ⟨k + 1, by omega, by go_num, rfl, HY.out (by simp)⟩
          | false =>
            go_wp2_with (first | (go_at_call 32; refine (HWm.out _).mono ?_; rintro e w' ⟨rfl, rfl⟩; clear HWm) | (go_at_call 102; refine (HHk.out _).mono ?_; rintro e w' ⟨rfl, rfl⟩; clear HHk) | fail)
            go_ret
            exact ⟨by rw [HN.out (by simp)]; rfl, HB.out⟩
      · have HV := Lib.hid (show mostO prot b k = 0 by unfold mostO; rw [show (prot == 3) = false by simpa using hp]; rfl)
        clear HH
        have HWm := Lib.hid (fun wx => HW.out 0 wx)
        have HM2 := Lib.hid (show inB n 0 0 = offK l prot b k from by rw [HM.out, HV.out])
        rw [HM2.out] at HWm
        obtain ⟨bb, hbb⟩ : ∃ c, offK l prot b k = c := ⟨_, rfl⟩
        rw [hbb] at HWm HN HY
        clear hbb HM HM2 HV HW
        cases bb with
        | true =>
          go_wp2_with (first | (go_at_call 32; refine (HWm.out _).mono ?_; rintro e w' ⟨rfl, rfl⟩; clear HWm) | fail)
          go_roundg g1
          case measure => omega
          case rel => exact ⟨k + 1, by omega, by go_num, rfl, HY.out (by simp)⟩
        | false =>
          go_wp2_with (first | (go_at_call 32; refine (HWm.out _).mono ?_; rintro e w' ⟨rfl, rfl⟩; clear HWm) | fail)
          go_ret
          exact ⟨by rw [HN.out (by simp)]; rfl, HB.out⟩
end Go.Proofs.Ytandehdgpbflmaa
