/- Several texts in one: HF, HG. -/
import Derived.Test.YthpagbfabpfngaaPk09
import Derived.Test.YthpagbfabpfngaaPk06
/- The contracts of trials and NextTrial. -/
namespace Go.Proofs.Ythpagbfabpfngaa
open Go.RowKit

theorem ones_b (x : BitVec 32) : (w32 x == 4294967295) = (x == BitVec.allOnes 32) := by
  rw [← w32_ones, Bool.eq_iff_iff, beq_iff_eq, beq_iff_eq, w32_inj]
theorem ones_nb (x : BitVec 32) : (w32 x != 4294967295) = !(x == BitVec.allOnes 32) := by
  unfold bne; rw [ones_b]
/-- How many words of trials aren't blank. -/
def trC (H : Nat → BitVec 32) : Nat → Nat
  | 0 => 0
  | k + 1 => if H (10 + k) == BitVec.allOnes 32 then trC H k else trC H k + 1
theorem trC_le (H : Nat → BitVec 32) (k : Nat) : trC H k ≤ k := by
  induction k with
  | zero => exact Nat.le_refl _
  | succ k ih => unfold trC; split <;> omega
set_option maxHeartbeats 1000000 in
theorem trials_any (H : Nat → BitVec 32) (w : World) : Calls Try.prog 90 #[.agg (hs H).toArray] w fun e w' => e = .returned (.int .i64 (trC H 3 : Nat)) ∧ Below w.heap.size w w' := by
  obtain ⟨r, hr⟩ : ∃ r, r = w.heap.size := ⟨_, rfl⟩
  obtain ⟨w1, hw1⟩ : ∃ w1, w1 = w.alloc (.cells (hs H).toArray 147) := ⟨_, rfl⟩
  have z1 : HAt w1 r H := by unfold HAt; rw [hw1, hr]; exact heap_alloc_new w _
  have b1 : Below r w w1 := by rw [hw1, hr]; exact (Below.refl _ _).alloc (Nat.le_refl _) _
  have HZ := Lib.hid (And.intro z1 b1)
  have HL := fun k => Lib.hid (trC_le H k)
  rw [← hr]
  clear z1 b1
  go_enter Try.func90, Try.ntmps90
  go_upto_region 2 with fail
  rw [← hw1, ← hr]
  clear hw1 hr
  go_wp2
  go_loopg [3, 8] 3 (fun g m i wr => ∃ (k : Nat), k + g = 3 ∧ m = .int .i64 (trC H k : Nat) ∧ i = .int .i64 k ∧ Aside (wr = w1))
  case atStart => exact ⟨0, by omega, rfl, rfl, rfl⟩
  case round =>
    obtain ⟨k, hkg, rfl, rfl, hw⟩ := hrel
    obtain rfl := hw.out
    clear hw
    cases gk with
    | zero =>
      obtain rfl : k = 3 := by omega
      go_wp2
      go_ret
      exact ⟨rfl, HZ.out.2⟩
    | succ g1 =>
      have hlt : k < 3 := by omega
      have hc := HZ.out.1.cell (10 + k) (by omega)
      have ho := ones_nb (H (10 + k))
      have hl := (HL k).out
      have hw : IntKind.i64.wrap ((trC H k : Nat) + 1) = ((trC H k + 1 : Nat) : Int) := by rw [IntKind.wrap_i64]; omega
      cases hb : (H (10 + k) == BitVec.allOnes 32) with
      | true =>
        rw [hb] at ho
        have HT := Lib.hid (show trC H (k + 1) = trC H k from if_pos hb)
        clear hb hl
        go_wp2
        go_roundg g1
        case measure => omega
        case rel => exact ⟨k + 1, by omega, by rw [HT.out], by go_num, rfl⟩
      | false =>
        rw [hb] at ho
        have HT := Lib.hid (show trC H (k + 1) = trC H k + 1 from if_neg (by rw [hb]; decide))
        clear hb hl
        go_wp2
        go_roundg g1
        case measure => omega
        case rel => exact ⟨k + 1, by omega, by rw [HT.out]; go_num, by go_num, rfl⟩
/-- Where the next trial's word is. -/
def nxN (H : Nat → BitVec 32) : Nat := if H 10 = BitVec.allOnes 32 then 10 else if H 11 = BitVec.allOnes 32 then 11 else if H 12 = BitVec.allOnes 32 then 12 else 0
def nxB (H : Nat → BitVec 32) : Bool := H 10 == BitVec.allOnes 32 || (H 11 == BitVec.allOnes 32 || H 12 == BitVec.allOnes 32)
theorem nx_yes {H : Nat → BitVec 32} {k : Nat} (hk : k < 3) (h0 : ∀ i, i < k → (H (10 + i) == BitVec.allOnes 32) = false) (h : (H (10 + k) == BitVec.allOnes 32) = true) : nxN H = 10 + k ∧ nxB H = true := by
  have h : H (10 + k) = BitVec.allOnes 32 := by simpa using h
  have h0 : ∀ i, i < k → ¬ H (10 + i) = BitVec.allOnes 32 := fun i hi => by simpa using h0 i hi
  obtain rfl | rfl | rfl : k = 0 ∨ k = 1 ∨ k = 2 := by omega
  · have h : H 10 = BitVec.allOnes 32 := h
    unfold nxN nxB; rw [if_pos h]; exact ⟨rfl, by simp [h]⟩
  · have h : H 11 = BitVec.allOnes 32 := h
    have a0 : ¬ H 10 = BitVec.allOnes 32 := h0 0 (by omega)
    unfold nxN nxB; rw [if_neg a0, if_pos h]; exact ⟨rfl, by simp [h]⟩
  · have h : H 12 = BitVec.allOnes 32 := h
    have a0 : ¬ H 10 = BitVec.allOnes 32 := h0 0 (by omega)
    have a1 : ¬ H 11 = BitVec.allOnes 32 := h0 1 (by omega)
    unfold nxN nxB; rw [if_neg a0, if_neg a1, if_pos h]; exact ⟨rfl, by simp [h]⟩
theorem nx_no {H : Nat → BitVec 32} (h0 : ∀ i, i < 3 → (H (10 + i) == BitVec.allOnes 32) = false) : nxN H = 0 ∧ nxB H = false := by
  have a0 : (H 10 == BitVec.allOnes 32) = false := h0 0 (by omega)
  have a1 : (H 11 == BitVec.allOnes 32) = false := h0 1 (by omega)
  have a2 : (H 12 == BitVec.allOnes 32) = false := h0 2 (by omega)
  unfold nxN nxB
  rw [a0, a1, a2, if_neg (by simpa using a0), if_neg (by simpa using a1), if_neg (by simpa using a2)]
  exact ⟨rfl, rfl⟩
set_option maxHeartbeats 1000000 in
theorem hnext_any (n b off cap : Nat) (sp : Option Addr) (l : Nat → BitVec 32) (w : World) (hn : n ≤ 9223372036854775807) (h : Ws w sp b off n l) :
    Calls Try.prog 97 #[.slice sp n cap] w fun e w' => e = .returned (.tuple #[.int .i64 (nxN (atW n l) : Nat), .bool (nxB (atW n l))]) ∧ Below w.heap.size w w' := by
  have HF := Lib.hid (filled_any n b off cap sp l w hn h)
  obtain ⟨H, hH⟩ : ∃ H, atW n l = H := ⟨_, rfl⟩
  rw [hH] at HF ⊢
  clear h hH
  go_enter Try.func97, Try.ntmps97
  go_wp2_with fail
  refine HF.out.mono ?_
  rintro e w1 ⟨rfl, hb⟩
  obtain ⟨r, hr⟩ : ∃ r, r = w1.heap.size := ⟨_, rfl⟩
  obtain ⟨w2, hw2⟩ : ∃ w2, w2 = w1.alloc (.cells #[.int .u32 0, .int .u32 0, .int .u32 0, .int .u32 0, .int .u32 0, .int .u32 0, .int .u32 0, .int .u32 0, .int .u32 0, .int .u32 0, .int .u32 0, .int .u32 0, .int .u32 0] 147) := ⟨_, rfl⟩
  have z2 : HAt w2 r z13 := by unfold HAt; rw [hs_zero, hw2, hr]; exact heap_alloc_new w1 _
  have HZ2 := Lib.hid z2
  have z3 : HAt (w2.setRow r (hs H).toArray) r H := setRow_heap _ _ _ _ 147 (0, 0) z2
  have b2 : Below w.heap.size w w2 := hb.trans (by rw [hw2]; exact (Below.refl _ _).alloc hb.size _)
  have b3 : Below w.heap.size w (w2.setRow r (hs H).toArray) := below_setRow b2 (by rw [hr]; exact hb.size) _
  obtain ⟨w3, hw3⟩ : ∃ w3, w3 = w2.setRow r (hs H).toArray := ⟨_, rfl⟩
  rw [← hw3] at z3 b3
  have HZ := Lib.hid (And.intro z3 b3)
  clear hb z2 b2 z3 b3
  go_upto_region 2 with (first | (rw [← hw2, ← hr]; refine wpList_store_row rfl 147 (.tmp 4) (.tmp 8) rfl r (hs H).toArray rfl rfl 147 _ HZ2.out (by rw [info73]; simp [hs_len]) (by simp [hs_len]) (all_oneCell_toArray (hs_one _)) ?_) | fail)
  rw [← hw3]
  clear hw2 hw3 hr
  go_wp2
  go_loopg [11] 3 (fun g i wr => ∃ (k : Nat), k + g = 3 ∧ i = .int .i64 k ∧ Aside (∀ j, j < k → (H (10 + j) == BitVec.allOnes 32) = false) ∧ Aside (wr = w3))
  case atStart => exact ⟨0, by omega, rfl, fun j hj => by omega, rfl⟩
  case round =>
    obtain ⟨k, hkg, rfl, HN, hw⟩ := hrel
    obtain rfl := hw.out
    clear hw
    cases gk with
    | zero =>
      obtain rfl : k = 3 := by omega
      have HE := Lib.hid (nx_no HN.out)
      go_wp2
      go_ret2
      exact ⟨by rw [HE.out.1, HE.out.2]; rfl, HZ.out.2⟩
    | succ g1 =>
      have hlt : k < 3 := by omega
      have hc := HZ.out.1.cell (10 + k) (by omega)
      have ho := ones_b (H (10 + k))
      cases hb : (H (10 + k) == BitVec.allOnes 32) with
      | true =>
        rw [hb] at ho
        have HE := Lib.hid (nx_yes hlt HN.out hb)
        have hw : IntKind.i64.wrap (10 + (k : Int)) = ((10 + k : Nat) : Int) := by rw [IntKind.wrap_i64]; omega
        clear hb
        go_wp2
        go_ret2
        exact ⟨by rw [HE.out.1, HE.out.2]; rfl, HZ.out.2⟩
      | false =>
        rw [hb] at ho
        have HB := Lib.hid hb
        clear hb
        go_wp2
        go_roundg g1
        case measure => omega
        case rel =>
          refine ⟨k + 1, by omega, by go_num, fun j hj => ?_, rfl⟩
          by_cases e : j = k
          · subst e; exact HB.out
          · exact HN.out j (by omega)
end Go.Proofs.Ythpagbfabpfngaa
/- The contract of header.Read. -/
namespace Go.Proofs.Ythpagbfabpfngaa
open Go.RowKit

theorem exec_load_row {P : Program} {o : Oper} {ev : Operand → Value} {w : World} (ty : TypeId) (x : Operand) (ho : o.op = .load ty x)
    (g : Nat) (hx : ev x = .pointer (some ⟨g, 0, none⟩)) (t : TypeId) (cs : Array Value) (fr : Nat × Nat) (d : TypeDesc) (hg : w.heap[g]? = some (.cells cs t fr))
    (hu : P.underlying ty = some d) (hd : (match d with | .struct _ | .array _ _ => true | _ => false) = true) (hi : (P.info? ty).map (·.size) = some cs.size) :
    (execOp ev o).run P w = .ok (.value (.agg cs)) w := by
  unfold execOp
  simp only [ho, hx, Instr.loadAt, Instr.sureAddr, Sem.run_bind, Sem.run_pure, Result.andThen_ok, run_loadVar_row w g t ty cs fr d hg hu hd hi]
/-- Is a header confirmed? -/
def confH (H : Nat → BitVec 32) : Bool := validH H && (H 8 == conW && H 9 == ~~~conW)
theorem state_one (x y z : Int) (v c : Bool) (t : Int) : (#[Value.int .u32 x, Value.int .u32 y, Value.int .u32 z, .bool v, .bool c, .int .i64 t] : Array Value).all (·.oneCell') = true :=
  all_oneCell_toArray (cs := [.int .u32 x, .int .u32 y, .int .u32 z, .bool v, .bool c, .int .i64 t]) (fun v hv => by simp at hv; rcases hv with rfl | rfl | rfl | rfl | rfl | rfl <;> rfl)

set_option maxHeartbeats 4000000 in
set_option maxRecDepth 100000 in
theorem hread_any (n b off cap : Nat) (sp : Option Addr) (l : Nat → BitVec 32) (w : World) (hn : n ≤ 9223372036854775807) (h : Ws w sp b off n l) (H : Nat → BitVec 32) (hH : ∀ i, i < 13 → atW n l i = H i) :
    Calls Try.prog 49 #[.slice sp n cap] w fun e w' => e = .returned (.agg #[.int .u32 (w32 (headH H 0)), .int .u32 (w32 (headH H 2)), .int .u32 (w32 (headH H 4)), .bool (validH H), .bool (confH H), .int .i64 (trC H 3 : Nat)]) ∧ Below w.heap.size w w' := by
  obtain ⟨r, hr⟩ : ∃ r, r = w.heap.size := ⟨_, rfl⟩
  obtain ⟨w0, hw0⟩ : ∃ w0, w0 = w.alloc (.cells #[.int .u32 0, .int .u32 0, .int .u32 0, .bool false, .bool false, .int .i64 0] 47) := ⟨_, rfl⟩
  have b0 : Below r w w0 := by rw [hw0, hr]; exact (Below.refl _ _).alloc (Nat.le_refl _) _
  have x0 : RowAt w0 r 47 #[.int .u32 0, .int .u32 0, .int .u32 0, .bool false, .bool false, .int .i64 0] := by rw [hw0, hr]; exact RowAt.mk w _ _
  have HF := Lib.hid (filled_any n b off cap sp l w0 hn (h.below b0 (fun h0 => by rw [hr]; exact (h.sp h0).2)))
  rw [hs_congr hH] at HF
  have H0 := Lib.hid (And.intro b0 (And.intro x0 hr))
  rw [← hr]
  clear h b0 x0 hH
  go_enter Try.func49, Try.ntmps49
  go_upto_region 1 with fail
  rw [← hw0, ← hr]
  clear hw0 hr
  go_wp2_with fail
  refine HF.out.mono ?_
  rintro e w1 ⟨rfl, hb⟩
  obtain ⟨rb, hrb⟩ : ∃ r, r = w1.heap.size := ⟨_, rfl⟩
  obtain ⟨w2, hw2⟩ : ∃ w2, w2 = w1.alloc (.cells #[.int .u32 0, .int .u32 0, .int .u32 0, .int .u32 0, .int .u32 0, .int .u32 0, .int .u32 0, .int .u32 0, .int .u32 0, .int .u32 0, .int .u32 0, .int .u32 0, .int .u32 0] 147) := ⟨_, rfl⟩
  have z2 : HAt w2 rb z13 := by unfold HAt; rw [hs_zero, hw2, hrb]; exact heap_alloc_new w1 _
  have HZ2 := Lib.hid z2
  have lt1 : r < rb := by rw [hrb]; exact Nat.lt_of_lt_of_le H0.out.2.1.lt hb.size
  have b02 : Below w0.heap.size w0 w2 := hb.trans (by rw [hw2]; exact (Below.refl _ _).alloc hb.size _)
  obtain ⟨w3, hw3⟩ : ∃ w3, w3 = w2.setRow rb (hs H).toArray := ⟨_, rfl⟩
  have z3 : HAt w3 rb H := by rw [hw3]; exact setRow_heap _ _ _ _ 147 (0, 0) z2
  have x3 : RowAt w3 r 47 #[.int .u32 0, .int .u32 0, .int .u32 0, .bool false, .bool false, .int .i64 0] := by rw [hw3]; exact (H0.out.2.1.new b02).other (by omega)
  have b3 : Below r w w3 := by rw [hw3]; exact below_setRow (H0.out.1.trans (b02.mono (Nat.le_of_lt H0.out.2.1.lt))) (by omega) _
  have H3 := Lib.hid (And.intro z3 (And.intro x3 b3))
  have LT := Lib.hid (show r < rb ∧ rb < w3.heap.size from ⟨lt1, z3.lt⟩)
  clear hb z2 b02 z3 x3 b3 lt1
  go_upto_region 2 with (first | (rw [← hw2, ← hrb]; refine wpList_store_row rfl 147 (.tmp 3) (.tmp 7) rfl rb (hs H).toArray rfl rfl 147 _ HZ2.out (by rw [info73]; simp [hs_len]) (by simp [hs_len]) (all_oneCell_toArray (hs_one _)) ?_) | fail)
  rw [← hw3]
  clear hw2 hw3 hrb
  go_wp2_with (first | (refine wpList_load_row rfl 147 (.tmp 3) rfl rb rfl 147 (hs H).toArray (0, 0) _ H3.out.1 Try.underlying147 rfl (by rw [info73]; simp [hs_len]) ?_) | fail)
  refine (head_any H w3).mono ?_
  rintro e w4 ⟨rfl, hb⟩
  obtain ⟨rh, hrh⟩ : ∃ r, r = w4.heap.size := ⟨_, rfl⟩
  obtain ⟨w5, hw5⟩ : ∃ w5, w5 = w4.alloc (.cells #[.int .u32 (w32 (headH H 0)), .int .u32 (w32 (headH H 2)), .int .u32 (w32 (headH H 4))] 45) := ⟨_, rfl⟩
  have b45 : Below w4.heap.size w4 w5 := by rw [hw5]; exact (Below.refl _ _).alloc (Nat.le_refl _) _
  have H5 := Lib.hid (show (HAt w5 rb H ∧ RowAt w5 rh 45 #[.int .u32 (w32 (headH H 0)), .int .u32 (w32 (headH H 2)), .int .u32 (w32 (headH H 4))]) ∧ RowAt w5 r 47 #[.int .u32 0, .int .u32 0, .int .u32 0, .bool false, .bool false, .int .i64 0] ∧ Below r w w5 ∧ (r < rb ∧ rb < rh ∧ rh < w5.heap.size) from by
    have h1 := H3.out.1.below hb LT.out.2
    have h2 : RowAt w4 r 47 #[.int .u32 0, .int .u32 0, .int .u32 0, .bool false, .bool false, .int .i64 0] := H3.out.2.1.new hb
    have h3 : RowAt w5 rh 45 #[.int .u32 (w32 (headH H 0)), .int .u32 (w32 (headH H 2)), .int .u32 (w32 (headH H 4))] := by rw [hw5, hrh]; exact RowAt.mk w4 _ _
    exact ⟨⟨h1.below b45 h1.lt, h3⟩, h2.new b45, (H3.out.2.2.trans (hb.mono (by have := LT.out; omega))).trans (b45.mono (Nat.le_of_lt h2.lt)), LT.out.1, by rw [hrh]; exact h1.lt, h3.lt⟩)
  have h2 : RowAt w4 r 47 #[.int .u32 0, .int .u32 0, .int .u32 0, .bool false, .bool false, .int .i64 0] := H3.out.2.1.new hb
  have hS := H5.out.1
  clear hb b45 h2
  go_upto_region 3 with fail
  rw [← hw5, ← hrh]
  clear hw5 hrh
  have H6 := Lib.hid (show (HAt w5.drew rb H ∧ RowAt w5.drew rh 45 #[.int .u32 (w32 (headH H 0)), .int .u32 (w32 (headH H 2)), .int .u32 (w32 (headH H 4))]) ∧ RowAt w5.drew r 47 #[.int .u32 0, .int .u32 0, .int .u32 0, .bool false, .bool false, .int .i64 0] ∧ Below r w w5.drew from ⟨hS, H5.out.2.1, H5.out.2.2.1.drew⟩)
  have hnew : ∀ wa wb : World, HAt wa rb H ∧ RowAt wa rh 45 #[.int .u32 (w32 (headH H 0)), .int .u32 (w32 (headH H 2)), .int .u32 (w32 (headH H 4))] → Below wa.heap.size wa wb → HAt wb rb H ∧ RowAt wb rh 45 #[.int .u32 (w32 (headH H 0)), .int .u32 (w32 (headH H 2)), .int .u32 (w32 (headH H 4))] := fun wa wb h hb => ⟨h.1.below hb h.1.lt, h.2.new hb⟩
  have HNEW := Lib.hid hnew
  clear hnew hS
  cases hv : validH H with
  | false =>
    have HV := Lib.hid hv
    clear hv
    refine wp_region_g (fun w' => HAt w' rb H ∧ RowAt w' rh 45 #[.int .u32 (w32 (headH H 0)), .int .u32 (w32 (headH H 2)), .int .u32 (w32 (headH H 4))]) 11 (by kernel_rfl) H5.out.1 (fun hS => ?_)
    refine wpAnyG_take (i := 0) (oi := { dst := some 13, op := .load 45 (.tmp 4), type := 45, pos := "header.go:113", after := #[], guard := none }) (v := .agg #[.int .u32 (w32 (headH H 0)), .int .u32 (w32 (headH H 2)), .int .u32 (w32 (headH H 4))]) rfl (by kernel_rfl) (by kernel_rfl) (by kernel_rfl) (by kernel_rfl) (fun _ _ _ h => h) (Or.inl ⟨by rfl, ?_⟩) hS ?_
    · intro w hw; obtain ⟨s0, s1⟩ := hw; exact exec_load_row 45 (.tmp 4) (by exact rfl) rh (by exact rfl) 45 #[.int .u32 (w32 (headH H 0)), .int .u32 (w32 (headH H 2)), .int .u32 (w32 (headH H 4))] (0, 0) _ s1 Try.underlying45 rfl (by kernel_rfl)
    simp only [Act.put, List.setIfInBounds_toArray, List.set_cons_zero, List.set_cons_succ]
    refine wpAnyG_take (i := 1) (oi := { dst := some 14, op := .move (.tmp 5), type := 4, pos := "header.go:113", after := #[], guard := none }) (v := ?_) rfl (by kernel_rfl) (by kernel_rfl) (by kernel_rfl) (by kernel_rfl) (fun _ _ _ h => h) (Or.inl ⟨by rfl, ?_⟩) hS ?_
    rotate_left 1
    · intro w hw; obtain ⟨s0, s1⟩ := hw; go_simp; try (with_reducible rfl)
    simp only [Act.put, List.setIfInBounds_toArray, List.set_cons_zero, List.set_cons_succ]
    refine wpAnyG_take (i := 2) (oi := { dst := some 15, op := .move (.tmp 5), type := 4, pos := "header.go:113", after := #[], guard := none }) (v := ?_) rfl (by kernel_rfl) (by kernel_rfl) (by kernel_rfl) (by kernel_rfl) (fun _ _ _ h => h) (Or.inl ⟨by rfl, ?_⟩) hS ?_
    rotate_left 1
    · intro w hw; obtain ⟨s0, s1⟩ := hw; go_simp; try (with_reducible rfl)
    simp only [Act.put, List.setIfInBounds_toArray, List.set_cons_zero, List.set_cons_succ]
    refine wpAnyG_take (i := 3) (oi := { dst := some 16, op := .move (.tmp 15), type := 4, pos := "header.go:113", after := #[{ on := 2, ground := .data }], guard := none }) (v := ?_) rfl (by kernel_rfl) (by kernel_rfl) (by kernel_rfl) (by kernel_rfl) (fun _ _ _ h => h) (Or.inl ⟨by rfl, ?_⟩) hS ?_
    rotate_left 1
    · intro w hw; obtain ⟨s0, s1⟩ := hw; go_simp; try (with_reducible rfl)
    simp only [Act.put, List.setIfInBounds_toArray, List.set_cons_zero, List.set_cons_succ]
    refine wpAnyG_take (i := 4) (oi := { dst := some 17, op := .load 147 (.tmp 3), type := 147, pos := "header.go:113", after := #[{ on := 3, ground := .guard }], guard := some (3, true) }) (v := undef) rfl (by kernel_rfl) (by kernel_rfl) (by kernel_rfl) (by kernel_rfl) (fun _ _ _ h => h) (Or.inr ⟨by rfl, rfl⟩) hS ?_
    simp only [Act.put, List.setIfInBounds_toArray, List.set_cons_zero, List.set_cons_succ]
    refine wpAnyG_take (i := 5) (oi := { dst := some 18, op := .call { callee := .value (.func 88), args := #[.tmp 17, .const (.int .i64 8)], argTypes := #[147, 3] }, type := 152, pos := "header.go:116", after := #[{ on := 4, ground := .data }, { on := 3, ground := .chain }, { on := 3, ground := .guard }], guard := some (3, true) }) (v := undef) rfl (by kernel_rfl) (by kernel_rfl) (by kernel_rfl) (by kernel_rfl) (fun _ _ _ h => h) (Or.inr ⟨by rfl, rfl⟩) hS ?_
    simp only [Act.put, List.setIfInBounds_toArray, List.set_cons_zero, List.set_cons_succ]
    refine wpAnyG_take (i := 6) (oi := { dst := some 19, op := .call { callee := .value (.func 89), args := #[.tmp 18, .const (.int .u32 1668247142)], argTypes := #[152, 26] }, type := 4, pos := "header.go:116", after := #[{ on := 5, ground := .data }, { on := 5, ground := .chain }, { on := 3, ground := .guard }], guard := some (3, true) }) (v := undef) rfl (by kernel_rfl) (by kernel_rfl) (by kernel_rfl) (by kernel_rfl) (fun _ _ _ h => h) (Or.inr ⟨by rfl, rfl⟩) hS ?_
    simp only [Act.put, List.setIfInBounds_toArray, List.set_cons_zero, List.set_cons_succ]
    refine wpAnyG_take (i := 7) (oi := { dst := some 20, op := .pick (.tmp 16) (.tmp 19) (.const (.bool false)), type := 4, pos := "header.go:113", after := #[{ on := 3, ground := .data }, { on := 6, ground := .data }], guard := none }) (v := ?_) rfl (by kernel_rfl) (by kernel_rfl) (by kernel_rfl) (by kernel_rfl) (fun _ _ _ h => h) (Or.inl ⟨by rfl, ?_⟩) hS ?_
    rotate_left 1
    · intro w hw; obtain ⟨s0, s1⟩ := hw; go_simp; try (with_reducible rfl)
    simp only [Act.put, List.setIfInBounds_toArray, List.set_cons_zero, List.set_cons_succ]
    refine wpAnyG_take (i := 8) (oi := { dst := some 21, op := .load 147 (.tmp 3), type := 147, pos := "header.go:113", after := #[], guard := none }) (v := .agg (hs H).toArray) rfl (by kernel_rfl) (by kernel_rfl) (by kernel_rfl) (by kernel_rfl) (fun _ _ _ h => h) (Or.inl ⟨by rfl, ?_⟩) hS ?_
    · intro w hw; obtain ⟨s0, s1⟩ := hw; exact exec_load_row 147 (.tmp 3) (by exact rfl) rb (by exact rfl) 147 (hs H).toArray (0, 0) _ s0 Try.underlying147 rfl (by rw [info73]; simp [hs_len])
    simp only [Act.put, List.setIfInBounds_toArray, List.set_cons_zero, List.set_cons_succ]
    refine wpAnyG_ready (rs := [9]) (by kernel_rfl) (by simp) (AllReadyG.cons (o := { dst := some 22, op := .call { callee := .value (.func 90), args := #[.tmp 21], argTypes := #[147] }, type := 3, pos := "header.go:117", after := #[{ on := 8, ground := .data }, { on := 6, ground := .chain }], guard := none }) rfl (fun K hK => ?_) AllReadyG.nil)
    go_simp
    refine (trials_any H _).mono ?_
    rintro e w9 ⟨rfl, hb⟩
    have S9 := Lib.hid (HNEW.out _ _ H6.out.1 hb)
    have X9 := Lib.hid (show RowAt w9 r 47 #[.int .u32 0, .int .u32 0, .int .u32 0, .bool false, .bool false, .int .i64 0] ∧ Below r w w9 from ⟨H6.out.2.1.new hb, H6.out.2.2.trans (hb.mono (Nat.le_of_lt H6.out.2.1.lt))⟩)
    clear hb
    try dsimp only
    refine hK.out _ _ S9.out (fun hHeld => ?_)
    clear hK K
    try simp only [Act.put, List.setIfInBounds_toArray, List.set_cons_zero, List.set_cons_succ]
    refine wpAnyG_take (i := 10) (oi := { dst := some 23, op := .build 47 #[(0, .tmp 13), (1, .tmp 14), (2, .tmp 20), (3, .tmp 22)], type := 47, pos := "header.go:113", after := #[{ on := 0, ground := .data }, { on := 1, ground := .data }, { on := 7, ground := .data }, { on := 9, ground := .data }], guard := none }) (v := ?_) rfl (by kernel_rfl) (by kernel_rfl) (by kernel_rfl) (by kernel_rfl) (fun _ _ _ h => h) (Or.inl ⟨by rfl, ?_⟩) S9.out ?_
    rotate_left 1
    · intro w hw; obtain ⟨s0, s1⟩ := hw; go_simp; try (with_reducible rfl)
    simp only [Act.put, List.setIfInBounds_toArray, List.set_cons_zero, List.set_cons_succ]
    refine wpAnyG_ready (rs := [11]) (by kernel_rfl) (by simp) (AllReadyG.last (o := { dst := none, op := .store 47 (.tmp 2) (.tmp 23), type := 0, pos := "header.go:113", after := #[{ on := 10, ground := .data }, { on := 9, ground := .chain }, { on := 0, ground := .phase }, { on := 1, ground := .phase }, { on := 2, ground := .phase }, { on := 3, ground := .phase }, { on := 4, ground := .phase }, { on := 5, ground := .phase }, { on := 6, ground := .phase }, { on := 7, ground := .phase }, { on := 8, ground := .phase }, { on := 9, ground := .phase }, { on := 10, ground := .phase }], guard := none }) rfl (fun K hK => ?_))
    rw [if_pos (by rfl)]
    refine wp_store_row 47 (.tmp 2) (.tmp 23) rfl r #[.int .u32 (w32 (headH H 0)), .int .u32 (w32 (headH H 2)), .int .u32 (w32 (headH H 4)), .bool false, .bool false, .int .i64 (trC H 3 : Nat)] rfl rfl 47 _ X9.out.1 (by kernel_rfl) rfl (state_one _ _ _ _ _ _) ?_
    refine hK.out _ _ ?_
    clear hK K
    try simp only [Act.put]
    refine wpAnyG_done (by kernel_rfl) ?_ _
    go_wp2
    refine bodyPost_ret (results_cell_row rfl _ _ r 47 #[.int .u32 (w32 (headH H 0)), .int .u32 (w32 (headH H 2)), .int .u32 (w32 (headH H 4)), .bool false, .bool false, .int .i64 (trC H 3 : Nat)] (0, 0) _ rfl (RowAt.put X9.out.1) Try.underlying47 rfl (by kernel_rfl)) rfl ?_
    refine ⟨?_, below_setRow X9.out.2 (Nat.le_refl r) _⟩
    rw [show confH H = false by unfold confH; rw [HV.out]; rfl, HV.out]
  | true =>
    have HV := Lib.hid hv
    clear hv
    refine wp_region_g (fun w' => HAt w' rb H ∧ RowAt w' rh 45 #[.int .u32 (w32 (headH H 0)), .int .u32 (w32 (headH H 2)), .int .u32 (w32 (headH H 4))]) 11 (by kernel_rfl) H5.out.1 (fun hS => ?_)
    refine wpAnyG_take (i := 0) (oi := { dst := some 13, op := .load 45 (.tmp 4), type := 45, pos := "header.go:113", after := #[], guard := none }) (v := .agg #[.int .u32 (w32 (headH H 0)), .int .u32 (w32 (headH H 2)), .int .u32 (w32 (headH H 4))]) rfl (by kernel_rfl) (by kernel_rfl) (by kernel_rfl) (by kernel_rfl) (fun _ _ _ h => h) (Or.inl ⟨by rfl, ?_⟩) hS ?_
    · intro w hw; obtain ⟨s0, s1⟩ := hw; exact exec_load_row 45 (.tmp 4) (by exact rfl) rh (by exact rfl) 45 #[.int .u32 (w32 (headH H 0)), .int .u32 (w32 (headH H 2)), .int .u32 (w32 (headH H 4))] (0, 0) _ s1 Try.underlying45 rfl (by kernel_rfl)
    simp only [Act.put, List.setIfInBounds_toArray, List.set_cons_zero, List.set_cons_succ]
    refine wpAnyG_take (i := 1) (oi := { dst := some 14, op := .move (.tmp 5), type := 4, pos := "header.go:113", after := #[], guard := none }) (v := ?_) rfl (by kernel_rfl) (by kernel_rfl) (by kernel_rfl) (by kernel_rfl) (fun _ _ _ h => h) (Or.inl ⟨by rfl, ?_⟩) hS ?_
    rotate_left 1
    · intro w hw; obtain ⟨s0, s1⟩ := hw; go_simp; try (with_reducible rfl)
    simp only [Act.put, List.setIfInBounds_toArray, List.set_cons_zero, List.set_cons_succ]
    refine wpAnyG_take (i := 2) (oi := { dst := some 15, op := .move (.tmp 5), type := 4, pos := "header.go:113", after := #[], guard := none }) (v := ?_) rfl (by kernel_rfl) (by kernel_rfl) (by kernel_rfl) (by kernel_rfl) (fun _ _ _ h => h) (Or.inl ⟨by rfl, ?_⟩) hS ?_
    rotate_left 1
    · intro w hw; obtain ⟨s0, s1⟩ := hw; go_simp; try (with_reducible rfl)
    simp only [Act.put, List.setIfInBounds_toArray, List.set_cons_zero, List.set_cons_succ]
    refine wpAnyG_take (i := 3) (oi := { dst := some 16, op := .move (.tmp 15), type := 4, pos := "header.go:113", after := #[{ on := 2, ground := .data }], guard := none }) (v := ?_) rfl (by kernel_rfl) (by kernel_rfl) (by kernel_rfl) (by kernel_rfl) (fun _ _ _ h => h) (Or.inl ⟨by rfl, ?_⟩) hS ?_
    rotate_left 1
    · intro w hw; obtain ⟨s0, s1⟩ := hw; go_simp; try (with_reducible rfl)
    simp only [Act.put, List.setIfInBounds_toArray, List.set_cons_zero, List.set_cons_succ]
    refine wpAnyG_take (i := 4) (oi := { dst := some 17, op := .load 147 (.tmp 3), type := 147, pos := "header.go:113", after := #[{ on := 3, ground := .guard }], guard := some (3, true) }) (v := .agg (hs H).toArray) rfl (by kernel_rfl) (by kernel_rfl) (by kernel_rfl) (by kernel_rfl) (fun _ _ _ h => h) (Or.inl ⟨by rfl, ?_⟩) hS ?_
    · intro w hw; obtain ⟨s0, s1⟩ := hw; exact exec_load_row 147 (.tmp 3) (by exact rfl) rb (by exact rfl) 147 (hs H).toArray (0, 0) _ s0 Try.underlying147 rfl (by rw [info73]; simp [hs_len])
    simp only [Act.put, List.setIfInBounds_toArray, List.set_cons_zero, List.set_cons_succ]
    refine wpAnyG_take (i := 8) (oi := { dst := some 21, op := .load 147 (.tmp 3), type := 147, pos := "header.go:113", after := #[], guard := none }) (v := .agg (hs H).toArray) rfl (by kernel_rfl) (by kernel_rfl) (by kernel_rfl) (by kernel_rfl) (fun _ _ _ h => h) (Or.inl ⟨by rfl, ?_⟩) hS ?_
    · intro w hw; obtain ⟨s0, s1⟩ := hw; exact exec_load_row 147 (.tmp 3) (by exact rfl) rb (by exact rfl) 147 (hs H).toArray (0, 0) _ s0 Try.underlying147 rfl (by rw [info73]; simp [hs_len])
    simp only [Act.put, List.setIfInBounds_toArray, List.set_cons_zero, List.set_cons_succ]
    refine wpAnyG_ready (rs := [5]) (by kernel_rfl) (by simp) (AllReadyG.cons (o := { dst := some 18, op := .call { callee := .value (.func 88), args := #[.tmp 17, .const (.int .i64 8)], argTypes := #[147, 3] }, type := 152, pos := "header.go:116", after := #[{ on := 4, ground := .data }, { on := 3, ground := .chain }, { on := 3, ground := .guard }], guard := some (3, true) }) rfl (fun K hK => ?_) AllReadyG.nil)
    go_simp
    refine (pairAt8 H _).mono ?_
    rintro e w7 ⟨rfl, hb⟩
    have S7 := Lib.hid (And.intro (HNEW.out _ _ H6.out.1 hb) (And.intro (H6.out.2.1.new hb) (H6.out.2.2.trans (hb.mono (Nat.le_of_lt H6.out.2.1.lt)))))
    clear hb
    try dsimp only
    refine hK.out _ _ S7.out.1 (fun hHeld => ?_)
    clear hK K
    try simp only [Act.put, List.setIfInBounds_toArray, List.set_cons_zero, List.set_cons_succ]
    refine wpAnyG_ready (rs := [6]) (by kernel_rfl) (by simp) (AllReadyG.cons (o := { dst := some 19, op := .call { callee := .value (.func 89), args := #[.tmp 18, .const (.int .u32 1668247142)], argTypes := #[152, 26] }, type := 4, pos := "header.go:116", after := #[{ on := 5, ground := .data }, { on := 5, ground := .chain }, { on := 3, ground := .guard }], guard := some (3, true) }) rfl (fun K hK => ?_) AllReadyG.nil)
    go_simp
    rw [conW_int]
    refine (pis_any (H 8) (H 9) conW _).mono ?_
    rintro e w8 ⟨rfl, hb⟩
    have S8 := Lib.hid (And.intro (HNEW.out _ _ S7.out.1 hb) (And.intro (S7.out.2.1.new hb) (S7.out.2.2.trans (hb.mono (Nat.le_of_lt S7.out.2.1.lt)))))
    clear hb
    try dsimp only
    refine hK.out _ _ S8.out.1 (fun hHeld => ?_)
    clear hK K
    try simp only [Act.put, List.setIfInBounds_toArray, List.set_cons_zero, List.set_cons_succ]
    refine wpAnyG_take (i := 7) (oi := { dst := some 20, op := .pick (.tmp 16) (.tmp 19) (.const (.bool false)), type := 4, pos := "header.go:113", after := #[{ on := 3, ground := .data }, { on := 6, ground := .data }], guard := none }) (v := ?_) rfl (by kernel_rfl) (by kernel_rfl) (by kernel_rfl) (by kernel_rfl) (fun _ _ _ h => h) (Or.inl ⟨by rfl, ?_⟩) S8.out.1 ?_
    rotate_left 1
    · intro w hw; obtain ⟨s0, s1⟩ := hw; go_simp; try (with_reducible rfl)
    simp only [Act.put, List.setIfInBounds_toArray, List.set_cons_zero, List.set_cons_succ]
    refine wpAnyG_ready (rs := [9]) (by kernel_rfl) (by simp) (AllReadyG.cons (o := { dst := some 22, op := .call { callee := .value (.func 90), args := #[.tmp 21], argTypes := #[147] }, type := 3, pos := "header.go:117", after := #[{ on := 8, ground := .data }, { on := 6, ground := .chain }], guard := none }) rfl (fun K hK => ?_) AllReadyG.nil)
    go_simp
    refine (trials_any H _).mono ?_
    rintro e w9 ⟨rfl, hb⟩
    have S9 := Lib.hid (HNEW.out _ _ S8.out.1 hb)
    have X9 := Lib.hid (show RowAt w9 r 47 #[.int .u32 0, .int .u32 0, .int .u32 0, .bool false, .bool false, .int .i64 0] ∧ Below r w w9 from ⟨S8.out.2.1.new hb, S8.out.2.2.trans (hb.mono (Nat.le_of_lt S8.out.2.1.lt))⟩)
    clear hb
    try dsimp only
    refine hK.out _ _ S9.out (fun hHeld => ?_)
    clear hK K
    try simp only [Act.put, List.setIfInBounds_toArray, List.set_cons_zero, List.set_cons_succ]
    refine wpAnyG_take (i := 10) (oi := { dst := some 23, op := .build 47 #[(0, .tmp 13), (1, .tmp 14), (2, .tmp 20), (3, .tmp 22)], type := 47, pos := "header.go:113", after := #[{ on := 0, ground := .data }, { on := 1, ground := .data }, { on := 7, ground := .data }, { on := 9, ground := .data }], guard := none }) (v := ?_) rfl (by kernel_rfl) (by kernel_rfl) (by kernel_rfl) (by kernel_rfl) (fun _ _ _ h => h) (Or.inl ⟨by rfl, ?_⟩) S9.out ?_
    rotate_left 1
    · intro w hw; obtain ⟨s0, s1⟩ := hw; go_simp; try (with_reducible rfl)
    simp only [Act.put, List.setIfInBounds_toArray, List.set_cons_zero, List.set_cons_succ]
    refine wpAnyG_ready (rs := [11]) (by kernel_rfl) (by simp) (AllReadyG.last (o := { dst := none, op := .store 47 (.tmp 2) (.tmp 23), type := 0, pos := "header.go:113", after := #[{ on := 10, ground := .data }, { on := 9, ground := .chain }, { on := 0, ground := .phase }, { on := 1, ground := .phase }, { on := 2, ground := .phase }, { on := 3, ground := .phase }, { on := 4, ground := .phase }, { on := 5, ground := .phase }, { on := 6, ground := .phase }, { on := 7, ground := .phase }, { on := 8, ground := .phase }, { on := 9, ground := .phase }, { on := 10, ground := .phase }], guard := none }) rfl (fun K hK => ?_))
    rw [if_pos (by rfl)]
    refine wp_store_row 47 (.tmp 2) (.tmp 23) rfl r #[.int .u32 (w32 (headH H 0)), .int .u32 (w32 (headH H 2)), .int .u32 (w32 (headH H 4)), .bool true, .bool (H 8 == conW && H 9 == ~~~conW), .int .i64 (trC H 3 : Nat)] rfl rfl 47 _ X9.out.1 (by kernel_rfl) rfl (state_one _ _ _ _ _ _) ?_
    refine hK.out _ _ ?_
    clear hK K
    try simp only [Act.put]
    refine wpAnyG_done (by kernel_rfl) ?_ _
    go_wp2
    refine bodyPost_ret (results_cell_row rfl _ _ r 47 #[.int .u32 (w32 (headH H 0)), .int .u32 (w32 (headH H 2)), .int .u32 (w32 (headH H 4)), .bool true, .bool (H 8 == conW && H 9 == ~~~conW), .int .i64 (trC H 3 : Nat)] (0, 0) _ rfl (RowAt.put X9.out.1) Try.underlying47 rfl (by kernel_rfl)) rfl ?_
    refine ⟨?_, below_setRow X9.out.2 (Nat.le_refl r) _⟩
    rw [show confH H = (H 8 == conW && H 9 == ~~~conW) by unfold confH; rw [HV.out]; rfl, HV.out]
end Go.Proofs.Ythpagbfabpfngaa
