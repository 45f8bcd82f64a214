/- The contract of head. -/
import Derived.Test.YthpagbfabpfngaaHD
namespace Go.Proofs.Ythpagbfabpfngaa
open Go.RowKit

theorem results_row {P : Program} {fn : Func} {p u : Tmp} {ty : TypeId} (h : fn.results = #[.cell p ty, .tmp u]) (tmps : Array Value) (w : World) (g : Nat) (t : TypeId) (cs : Array Value) (d : TypeDesc) (hp : tmps.getD p undef = .pointer (some ⟨g, 0, none⟩))
    (hg : w.heap[g]? = some (.cells cs t (0, 0))) (hu : P.underlying ty = some d) (hd : (match d with | .struct _ | .array _ _ => true | _ => false) = true) (hi : (P.info? ty).map (·.size) = some cs.size) :
    (results fn tmps).run P w = .ok (.tuple #[.agg cs, tmps.getD u undef]) w := by
  rw [results_cell_tmp h, hp]
  simp [asAddr, Result.andThen, run_loadVar_row w g t ty cs (0, 0) d hg hu hd hi]
theorem three_one (x y z : Int) : (#[Value.int .u32 x, Value.int .u32 y, Value.int .u32 z] : Array Value).all (·.oneCell') = true := all_oneCell_toArray (cs := [.int .u32 x, .int .u32 y, .int .u32 z]) (fun v hv => by simp at hv; rcases hv with rfl | rfl | rfl <;> rfl)
theorem wpList_load_want {P : Program} {ops : Array Oper} {rest : List Oper} {o : Oper} {a : Act} {w : World} {Q : Exit → Act → World → Prop} (hw : Region.wanted o (yielded ops a.tmps) = true) (ty : TypeId) (x : Operand) (ho : o.op = .load ty x)
    (g : Nat) (hx : a.eval x = .pointer (some ⟨g, 0, none⟩)) (t : TypeId) (cs : Array Value) (fr : Nat × Nat) (d : TypeDesc) (hg : w.heap[g]? = some (.cells cs t fr))
    (hu : P.underlying ty = some d) (hd : (match d with | .struct _ | .array _ _ => true | _ => false) = true) (hi : (P.info? ty).map (·.size) = some cs.size)
    (h : wpList P ops Q rest (a.put o.dst (.agg cs)) w) : wpList P ops Q (o :: rest) a w :=
  wpList_step fun _ hK => by rw [if_pos hw]; exact wp_load_row ty x ho g hx t cs fr d hg hu hd hi (hK _ _ h)
def comW : BitVec 32 := 0x636f6d6d#32
def conW : BitVec 32 := 0x636f6e66#32
theorem comW_int : (1668246893 : Int) = w32 comW := by decide
theorem conW_int : (1668247142 : Int) = w32 conW := by decide
/-- Is a header valid, and which head has it? -/
def validH (H : Nat → BitVec 32) : Bool := (H 1 == ~~~H 0) && ((H 3 == ~~~H 2) && ((H 5 == ~~~H 4) && (H 6 == comW && H 7 == ~~~comW)))
def headH (H : Nat → BitVec 32) (k : Nat) : BitVec 32 := if validH H then H k else 0#32
theorem valid0 {H : Nat → BitVec 32} (h : (H 1 == ~~~H 0) = false) : validH H = false := by unfold validH; rw [h]; rfl
theorem valid2 {H : Nat → BitVec 32} (h : (H 3 == ~~~H 2) = false) : validH H = false := by unfold validH; rw [h]; simp
theorem valid4 {H : Nat → BitVec 32} (h : (H 5 == ~~~H 4) = false) : validH H = false := by unfold validH; rw [h]; simp
theorem valid6 {H : Nat → BitVec 32} (h : (H 6 == comW && H 7 == ~~~comW) = false) : validH H = false := by unfold validH; rw [h]; simp
theorem validY {H : Nat → BitVec 32} (h0 : (H 1 == ~~~H 0) = true) (h2 : (H 3 == ~~~H 2) = true) (h4 : (H 5 == ~~~H 4) = true) (h6 : (H 6 == comW && H 7 == ~~~comW) = true) : validH H = true := by unfold validH; rw [h0, h2, h4, h6]; rfl

set_option maxHeartbeats 4000000 in
set_option maxRecDepth 100000 in
theorem head_any (H : Nat → BitVec 32) (w : World) : Calls Try.prog 87 #[.agg (hs H).toArray] w fun e w' =>
    e = .returned (.tuple #[.agg #[.int .u32 (w32 (headH H 0)), .int .u32 (w32 (headH H 2)), .int .u32 (w32 (headH H 4))], .bool (validH H)]) ∧ Below w.heap.size w w' := by
  obtain ⟨r, hr⟩ : ∃ r, r = w.heap.size := ⟨_, rfl⟩
  obtain ⟨w1, hw1⟩ : ∃ w1, w1 = w.alloc (.cells (hs H).toArray 147) := ⟨_, rfl⟩
  obtain ⟨w2, hw2⟩ : ∃ w2, w2 = w1.alloc (.cells #[.int .u32 0, .int .u32 0, .int .u32 0] 45) := ⟨_, rfl⟩
  have s1 : w1.heap.size = r + 1 := by rw [hw1, hr]; simp
  have s2 : w2.heap.size = r + 2 := by rw [hw2, World.size_alloc, s1]
  have z1 : HAt w1 r H := by unfold HAt; rw [hw1, hr]; exact heap_alloc_new w _
  have z2 : HAt w2 r H := by rw [hw2]; exact z1.below ((Below.refl w1.heap.size w1).alloc (Nat.le_refl _) _) (by omega)
  have x2 : RowAt w2 (r + 1) 45 #[.int .u32 0, .int .u32 0, .int .u32 0] := by rw [hw2, ← s1]; exact RowAt.mk w1 _ _
  have b2 : Below r w w2 := by rw [hw2, hw1, hr]; exact ((Below.refl _ _).alloc (Nat.le_refl _) _).alloc (by simp) _
  have HB := Lib.hid (And.intro b2 (And.intro hr x2))
  have HS := Lib.hid (And.intro s2 z2)
  rw [← hr]
  clear z1 z2 x2 b2 s2
  go_enter Try.func87, Try.ntmps87
  go_upto_region 1 with fail
  rw [← hw1, ← hw2, ← hr]
  clear hw1 hw2 hr s1
  refine headR w2 r H HS.out.1 HS.out.2 ?_
  rintro x4 x5 x6 x7 x8 x9 x10 x11 x12 w4 hI
  obtain ⟨b4, rfl, g4, r4⟩ := hI.a6 rfl
  obtain ⟨b5, rfl, g5, r5⟩ := hI.a7 rfl
  obtain ⟨b6, rfl, g6, r6⟩ := hI.a8 rfl
  have HI := Lib.hid (show Below r w w4 ∧ r + 2 ≤ w4.heap.size from ⟨HB.out.1.trans (hI.below.mono (by omega)), hI.size⟩)
  have HF := Lib.hid (show ∀ wz, Below w4.heap.size w4 wz → (wz.cell? ⟨b4, 0, none⟩ = some (.int .u32 (w32 (H 0))) ∧ wz.cell? ⟨b4, 1, none⟩ = some (.int .u32 (w32 (H 1)))) ∧ (wz.cell? ⟨b5, 0, none⟩ = some (.int .u32 (w32 (H 2))) ∧ wz.cell? ⟨b5, 1, none⟩ = some (.int .u32 (w32 (H 3)))) ∧ (wz.cell? ⟨b6, 0, none⟩ = some (.int .u32 (w32 (H 4))) ∧ wz.cell? ⟨b6, 1, none⟩ = some (.int .u32 (w32 (H 5)))) from
    fun wz hz => ⟨⟨(r4.new hz).cell 0, (r4.new hz).cell 1⟩, ⟨(r5.new hz).cell 0, (r5.new hz).cell 1⟩, ⟨(r6.new hz).cell 0, (r6.new hz).cell 1⟩⟩)
  have HH := Lib.hid (show ∀ wz, Below w4.heap.size w4 wz → HAt wz r H ∧ RowAt wz (r + 1) 45 #[.int .u32 0, .int .u32 0, .int .u32 0] from
    fun wz hz => ⟨hI.row.below hz hI.row.lt, (HB.out.2.2.below_ hI.below (by omega)).new hz⟩)
  have B0 := Lib.hid (Below.refl w4.heap.size w4)
  obtain ⟨⟨p0, p1⟩, ⟨p2, p3⟩, ⟨p4, p5⟩⟩ := HF.out _ B0.out
  clear hI r4 r5 r6 g4 g5 g6
  have ec := comW_int
  cases h0 : (H 1 == ~~~H 0) with
  | false =>
    have HV := Lib.hid (valid0 h0)
    go_wp2_with (first
      | (go_at_call 110; refine (pright_any _ _ _).mono ?_; rintro e w5 ⟨rfl, hb⟩; have B0 := Lib.hid (B0.out.trans (hb.mono B0.out.size)); obtain ⟨⟨p0, p1⟩, ⟨p2, p3⟩, ⟨p4, p5⟩⟩ := HF.out _ B0.out; clear hb)
      | (go_at_call 88; refine (pairAt6 H _).mono ?_; rintro e w5 ⟨rfl, hb⟩; have B0 := Lib.hid (B0.out.trans (hb.mono B0.out.size)); obtain ⟨⟨p0, p1⟩, ⟨p2, p3⟩, ⟨p4, p5⟩⟩ := HF.out _ B0.out; clear hb)
      | (go_at_call 89; refine (pis_any (H 6) (H 7) comW _).mono ?_; rintro e w5 ⟨rfl, hb⟩; have B0 := Lib.hid (B0.out.trans (hb.mono B0.out.size)); obtain ⟨⟨p0, p1⟩, ⟨p2, p3⟩, ⟨p4, p5⟩⟩ := HF.out _ B0.out; clear hb)
      | (refine wpList_load_want (by rfl) 147 (.tmp 1) rfl r rfl 147 (hs H).toArray (0, 0) _ (HH.out _ B0.out).1 Try.underlying147 rfl (by rw [info73]; simp [hs_len]) ?_)
      | (refine wpList_store_row rfl 45 (.tmp 2) (.tmp 32) rfl (r + 1) #[.int .u32 0, .int .u32 0, .int .u32 0] rfl rfl 45 _ (HH.out _ B0.out).2 (by kernel_rfl) rfl (three_one _ _ _) ?_)
      | fail)
    refine bodyPost_ret (results_row rfl _ _ (r + 1) 45 #[.int .u32 0, .int .u32 0, .int .u32 0] _ rfl (setRow_heap _ _ _ _ 45 (0, 0) (HH.out _ B0.out).2) Try.underlying45 rfl (by kernel_rfl)) rfl ?_
    refine ⟨?_, below_setRow (HI.out.1.trans (B0.out.mono (by have := HI.out.2; omega))) (Nat.le_succ r) _⟩
    rw [show headH H 0 = _ from if_neg (by rw [HV.out]; decide), show headH H 2 = _ from if_neg (by rw [HV.out]; decide), show headH H 4 = _ from if_neg (by rw [HV.out]; decide), HV.out]
    rfl
  | true =>
  cases h2 : (H 3 == ~~~H 2) with
  | false =>
    have HV := Lib.hid (valid2 h2)
    go_wp2_with (first
      | (go_at_call 110; refine (pright_any _ _ _).mono ?_; rintro e w5 ⟨rfl, hb⟩; have B0 := Lib.hid (B0.out.trans (hb.mono B0.out.size)); obtain ⟨⟨p0, p1⟩, ⟨p2, p3⟩, ⟨p4, p5⟩⟩ := HF.out _ B0.out; clear hb)
      | (go_at_call 88; refine (pairAt6 H _).mono ?_; rintro e w5 ⟨rfl, hb⟩; have B0 := Lib.hid (B0.out.trans (hb.mono B0.out.size)); obtain ⟨⟨p0, p1⟩, ⟨p2, p3⟩, ⟨p4, p5⟩⟩ := HF.out _ B0.out; clear hb)
      | (go_at_call 89; refine (pis_any (H 6) (H 7) comW _).mono ?_; rintro e w5 ⟨rfl, hb⟩; have B0 := Lib.hid (B0.out.trans (hb.mono B0.out.size)); obtain ⟨⟨p0, p1⟩, ⟨p2, p3⟩, ⟨p4, p5⟩⟩ := HF.out _ B0.out; clear hb)
      | (refine wpList_load_want (by rfl) 147 (.tmp 1) rfl r rfl 147 (hs H).toArray (0, 0) _ (HH.out _ B0.out).1 Try.underlying147 rfl (by rw [info73]; simp [hs_len]) ?_)
      | (refine wpList_store_row rfl 45 (.tmp 2) (.tmp 32) rfl (r + 1) #[.int .u32 0, .int .u32 0, .int .u32 0] rfl rfl 45 _ (HH.out _ B0.out).2 (by kernel_rfl) rfl (three_one _ _ _) ?_)
      | fail)
    refine bodyPost_ret (results_row rfl _ _ (r + 1) 45 #[.int .u32 0, .int .u32 0, .int .u32 0] _ rfl (setRow_heap _ _ _ _ 45 (0, 0) (HH.out _ B0.out).2) Try.underlying45 rfl (by kernel_rfl)) rfl ?_
    refine ⟨?_, below_setRow (HI.out.1.trans (B0.out.mono (by have := HI.out.2; omega))) (Nat.le_succ r) _⟩
    rw [show headH H 0 = _ from if_neg (by rw [HV.out]; decide), show headH H 2 = _ from if_neg (by rw [HV.out]; decide), show headH H 4 = _ from if_neg (by rw [HV.out]; decide), HV.out]
    rfl
  | true =>
  cases h4 : (H 5 == ~~~H 4) with
  | false =>
    have HV := Lib.hid (valid4 h4)
    go_wp2_with (first
      | (go_at_call 110; refine (pright_any _ _ _).mono ?_; rintro e w5 ⟨rfl, hb⟩; have B0 := Lib.hid (B0.out.trans (hb.mono B0.out.size)); obtain ⟨⟨p0, p1⟩, ⟨p2, p3⟩, ⟨p4, p5⟩⟩ := HF.out _ B0.out; clear hb)
      | (go_at_call 88; refine (pairAt6 H _).mono ?_; rintro e w5 ⟨rfl, hb⟩; have B0 := Lib.hid (B0.out.trans (hb.mono B0.out.size)); obtain ⟨⟨p0, p1⟩, ⟨p2, p3⟩, ⟨p4, p5⟩⟩ := HF.out _ B0.out; clear hb)
      | (go_at_call 89; refine (pis_any (H 6) (H 7) comW _).mono ?_; rintro e w5 ⟨rfl, hb⟩; have B0 := Lib.hid (B0.out.trans (hb.mono B0.out.size)); obtain ⟨⟨p0, p1⟩, ⟨p2, p3⟩, ⟨p4, p5⟩⟩ := HF.out _ B0.out; clear hb)
      | (refine wpList_load_want (by rfl) 147 (.tmp 1) rfl r rfl 147 (hs H).toArray (0, 0) _ (HH.out _ B0.out).1 Try.underlying147 rfl (by rw [info73]; simp [hs_len]) ?_)
      | (refine wpList_store_row rfl 45 (.tmp 2) (.tmp 32) rfl (r + 1) #[.int .u32 0, .int .u32 0, .int .u32 0] rfl rfl 45 _ (HH.out _ B0.out).2 (by kernel_rfl) rfl (three_one _ _ _) ?_)
      | fail)
    refine bodyPost_ret (results_row rfl _ _ (r + 1) 45 #[.int .u32 0, .int .u32 0, .int .u32 0] _ rfl (setRow_heap _ _ _ _ 45 (0, 0) (HH.out _ B0.out).2) Try.underlying45 rfl (by kernel_rfl)) rfl ?_
    refine ⟨?_, below_setRow (HI.out.1.trans (B0.out.mono (by have := HI.out.2; omega))) (Nat.le_succ r) _⟩
    rw [show headH H 0 = _ from if_neg (by rw [HV.out]; decide), show headH H 2 = _ from if_neg (by rw [HV.out]; decide), show headH H 4 = _ from if_neg (by rw [HV.out]; decide), HV.out]
    rfl
  | true =>
  cases h6 : (H 6 == comW && H 7 == ~~~comW) with
  | false =>
    have HV := Lib.hid (valid6 h6)
    go_wp2_with (first
      | (go_at_call 110; refine (pright_any _ _ _).mono ?_; rintro e w5 ⟨rfl, hb⟩; have B0 := Lib.hid (B0.out.trans (hb.mono B0.out.size)); obtain ⟨⟨p0, p1⟩, ⟨p2, p3⟩, ⟨p4, p5⟩⟩ := HF.out _ B0.out; clear hb)
      | (go_at_call 88; refine (pairAt6 H _).mono ?_; rintro e w5 ⟨rfl, hb⟩; have B0 := Lib.hid (B0.out.trans (hb.mono B0.out.size)); obtain ⟨⟨p0, p1⟩, ⟨p2, p3⟩, ⟨p4, p5⟩⟩ := HF.out _ B0.out; clear hb)
      | (go_at_call 89; refine (pis_any (H 6) (H 7) comW _).mono ?_; rintro e w5 ⟨rfl, hb⟩; have B0 := Lib.hid (B0.out.trans (hb.mono B0.out.size)); obtain ⟨⟨p0, p1⟩, ⟨p2, p3⟩, ⟨p4, p5⟩⟩ := HF.out _ B0.out; clear hb)
      | (refine wpList_load_want (by rfl) 147 (.tmp 1) rfl r rfl 147 (hs H).toArray (0, 0) _ (HH.out _ B0.out).1 Try.underlying147 rfl (by rw [info73]; simp [hs_len]) ?_)
      | (refine wpList_store_row rfl 45 (.tmp 2) (.tmp 32) rfl (r + 1) #[.int .u32 0, .int .u32 0, .int .u32 0] rfl rfl 45 _ (HH.out _ B0.out).2 (by kernel_rfl) rfl (three_one _ _ _) ?_)
      | fail)
    refine bodyPost_ret (results_row rfl _ _ (r + 1) 45 #[.int .u32 0, .int .u32 0, .int .u32 0] _ rfl (setRow_heap _ _ _ _ 45 (0, 0) (HH.out _ B0.out).2) Try.underlying45 rfl (by kernel_rfl)) rfl ?_
    refine ⟨?_, below_setRow (HI.out.1.trans (B0.out.mono (by have := HI.out.2; omega))) (Nat.le_succ r) _⟩
    rw [show headH H 0 = _ from if_neg (by rw [HV.out]; decide), show headH H 2 = _ from if_neg (by rw [HV.out]; decide), show headH H 4 = _ from if_neg (by rw [HV.out]; decide), HV.out]
    rfl
  | true =>
    have HV := Lib.hid (validY h0 h2 h4 h6)
    go_wp2_with (first
      | (go_at_call 110; refine (pright_any _ _ _).mono ?_; rintro e w5 ⟨rfl, hb⟩; have B0 := Lib.hid (B0.out.trans (hb.mono B0.out.size)); obtain ⟨⟨p0, p1⟩, ⟨p2, p3⟩, ⟨p4, p5⟩⟩ := HF.out _ B0.out; clear hb)
      | (go_at_call 88; refine (pairAt6 H _).mono ?_; rintro e w5 ⟨rfl, hb⟩; have B0 := Lib.hid (B0.out.trans (hb.mono B0.out.size)); obtain ⟨⟨p0, p1⟩, ⟨p2, p3⟩, ⟨p4, p5⟩⟩ := HF.out _ B0.out; clear hb)
      | (go_at_call 89; refine (pis_any (H 6) (H 7) comW _).mono ?_; rintro e w5 ⟨rfl, hb⟩; have B0 := Lib.hid (B0.out.trans (hb.mono B0.out.size)); obtain ⟨⟨p0, p1⟩, ⟨p2, p3⟩, ⟨p4, p5⟩⟩ := HF.out _ B0.out; clear hb)
      | (refine wpList_load_want (by rfl) 147 (.tmp 1) rfl r rfl 147 (hs H).toArray (0, 0) _ (HH.out _ B0.out).1 Try.underlying147 rfl (by rw [info73]; simp [hs_len]) ?_)
      | (refine wpList_store_row rfl 45 (.tmp 2) (.tmp 39) rfl (r + 1) #[.int .u32 (w32 (H 0)), .int .u32 (w32 (H 2)), .int .u32 (w32 (H 4))] rfl rfl 45 _ (HH.out _ B0.out).2 (by kernel_rfl) rfl (three_one _ _ _) ?_)
      | fail)
    refine bodyPost_ret (results_row rfl _ _ (r + 1) 45 #[.int .u32 (w32 (H 0)), .int .u32 (w32 (H 2)), .int .u32 (w32 (H 4))] _ rfl (setRow_heap _ _ _ _ 45 (0, 0) (HH.out _ B0.out).2) Try.underlying45 rfl (by kernel_rfl)) rfl ?_
    refine ⟨?_, below_setRow (HI.out.1.trans (B0.out.mono (by have := HI.out.2; omega))) (Nat.le_succ r) _⟩
    rw [show headH H 0 = _ from if_pos HV.out, show headH H 2 = _ from if_pos HV.out, show headH H 4 = _ from if_pos HV.out, HV.out]
    rfl
end Go.Proofs.Ythpagbfabpfngaa
