/- The contract of the reference's Copy. -/
import Derived.Test.YthpagbfabpfngaaFR
import Derived.Deep.DeepMust
namespace Go.Proofs.Ythpagbfabpfngaa
open Go.RowKit

theorem fresh27n (w : World) (base n : Nat) (hn : w.heap.size = n) (h : base ≤ n) : (w.alloc (.cells #[] 26)).ownsRow base 26 1 (.slice (some ⟨n, 0, none⟩) 0 0) 0 [] := by
  subst hn; exact fresh27 w base h
theorem fresh3n (w : World) (base n : Nat) (hn : w.heap.size = n) (h : base ≤ n) : (w.alloc (.cells #[] 3)).ownsRow base 3 1 (.slice (some ⟨n, 0, none⟩) 0 0) 0 [] := by
  subst hn
  exact ⟨rfl, .inr ⟨w.heap.size, 0, #[], rfl, h, World.alloc_heap_new _ _, Nat.le_refl _, Nat.zero_le _, rfl, rfl⟩⟩
theorem fresh3 (w : World) (base : Nat) (h : base ≤ w.heap.size) : (w.alloc (.cells #[] 3)).ownsRow base 3 1 (.slice (some ⟨w.heap.size, 0, none⟩) 0 0) 0 [] :=
  ⟨rfl, .inr ⟨w.heap.size, 0, #[], rfl, h, World.alloc_heap_new _ _, Nat.le_refl _, Nat.zero_le _, rfl, rfl⟩⟩
theorem info3Z : (Try.prog.info? 3).map (fun i => (i.zero, i.size, i.bytes)) = some (some (.int .i64 0), 1, 8) := by kernel_rfl

set_option maxHeartbeats 1000000 in
set_option maxRecDepth 100000 in
theorem copyR_any {w : World} {bL bW : Nat} {d : Dev} (h : RefIn w bL bW d) (cL cW : Nat) : Calls Try.prog 113 #[refX bL cL bW cW d] w fun e w' =>
    ∃ bL' cL' bW' cW', e = .returned (refX bL' cL' bW' cW' d) ∧ RefIn w' bL' bW' d ∧ w.heap.size ≤ bL' ∧ w.heap.size ≤ bW' ∧ Below w.heap.size w w' := by
  obtain ⟨i0, hi, hz0, hz1, hz2⟩ := info_parts infoB
  obtain ⟨j0, hj, ha0, ha1, ha2⟩ := info_parts info3Z
  have hz := h.zn
  have hm : d.ns * d.nw ≤ 64 * 1024 := Nat.mul_le_mul (by omega) (by omega)
  have hp : 0 < d.ns * d.nw := Nat.mul_pos hz.2.2.1 hz.2.2.2
  have HR := Lib.hid (show (rowB d.flat).length = d.ns * d.nw * 1 by unfold rowB; rw [List.length_map, flat_len]; omega)
  have HRW := Lib.hid (show (rowZ d.wears).length = d.ns * 1 by unfold rowZ; rw [List.length_map, wears_len]; omega)
  have HB := Lib.hid (show 0 + d.ns * d.nw ≤ maxLen ∧ (0 + d.ns * d.nw) * 4 ≤ 140737488355328 by unfold maxLen; omega)
  have HBW := Lib.hid (show 0 + d.ns ≤ maxLen ∧ (0 + d.ns) * 8 ≤ 140737488355328 by unfold maxLen; omega)
  have HH := Lib.hid (fun (w2 : World) (hb : Below w.heap.size w w2) => h.new hb)
  have HP := Lib.hid hp
  have HZ := Lib.hid hz
  obtain ⟨M, hM⟩ : ∃ M, d.ns * d.nw = M := ⟨_, rfl⟩
  unfold refX refV
  rw [hM] at HR HB HP ⊢
  have NW := Lib.hid (show d.nw * d.ns = M by rw [← hM, Nat.mul_comm])
  obtain ⟨nw, hnw⟩ : ∃ nw, d.nw = nw := ⟨_, rfl⟩
  obtain ⟨ns, hns⟩ : ∃ ns, d.ns = ns := ⟨_, rfl⟩
  have HNS := Lib.hid (And.intro hns (And.intro hnw (And.intro hM (show 0 < ns by omega))))
  rw [hns] at HRW HBW
  rw [hns, hnw]
  obtain ⟨B, hB⟩ : ∃ B, w.heap.size = B := ⟨_, rfl⟩
  have HN := Lib.hid hB
  obtain ⟨l1, hl1⟩ : ∃ l1 : List Value, l1 = [.int .i64 ns, .int .i64 nw, .int .i64 d.limit, .slice (some ⟨bL, 0, none⟩) M cL, .slice (some ⟨bW, 0, none⟩) ns cW, .bool (!d.on), .bool d.armed, .int .i64 d.after, .int .u32 (w32 d.seed), .int .i64 d.ops] := ⟨_, rfl⟩
  obtain ⟨l2, hl2⟩ : ∃ l2 : List Value, l2 = [.int .i64 0, .int .i64 0, .int .i64 0, .slice none 0 0, .slice none 0 0, .bool false, .bool false, .int .i64 0, .int .u32 0, .int .i64 0] := ⟨_, rfl⟩
  have X1 := Lib.hid (fun o o2 => (show BoxAt (((w.alloc (.cells #[.int .i64 ns, .int .i64 nw, .int .i64 d.limit, .slice (some ⟨bL, 0, none⟩) M cL, .slice (some ⟨bW, 0, none⟩) ns cW, .bool (!d.on), .bool d.armed, .int .i64 d.after, .int .u32 (w32 d.seed), .int .i64 d.ops] 28)).alloc o).alloc o2) B l1 from by
    rw [← hB, hl1]; exact ((BoxAt.mk_new w _ 28).alloc o).alloc o2))
  have X2 := Lib.hid (fun c t o2 => (show BoxAt (((w.alloc (.cells c t)).alloc (.cells #[.int .i64 0, .int .i64 0, .int .i64 0, .slice none 0 0, .slice none 0 0, .bool false, .bool false, .int .i64 0, .int .u32 0, .int .i64 0] 28)).alloc o2) (B + 1) l2 from by
    rw [← hB, hl2, ← World.size_alloc w (.cells c t)]; exact (BoxAt.mk_new (w.alloc (.cells c t)) _ 28).alloc o2))
  have HL := Lib.hid (And.intro hl1 hl2)
  clear h hz hm hp hM NW hns hnw hl1 hl2
  rw [hB] at HH
  go_enter Try.func113, Try.ntmps113
  rw [hB]

  go_wp2_with (first
    | (at_builtin; refine wpList_append_own _ rfl (.tmp 8) (.tmp 10) 25 rfl (B + 1 + 1) 3 j0 (.int .i64 0) 1 8 Try.underlying25 hj ha0 ha1 ha2 rfl (by decide) _ 0 [] rfl (fresh3n _ (B + 1 + 1) _ ?hle ?hle2) ⟨bW, 0, none⟩ ns cW (rowZ d.wears) rfl HRW.out (HH.out _ ?hbe).rowW (rowZ_one _) HBW.out.1 HBW.out.2 ?hsz ?_
       go_must (
         case hle => simp only [World.size_setCell]
         case hle2 => have := H1.out.2.1; omega
         case hbe => exact (H1.out.2.2.2.2.setCell (Nat.le_refl _) _).alloc (by have := H1.out.2.1; simp only [World.size_setCell]; omega) _
         case hsz => have := H1.out.2.1; simp only [World.size_alloc, World.size_setCell]; omega
         intro v2 w2 hown2 hg2 _
         rw [Nat.zero_add, List.nil_append] at hown2
         obtain ⟨g2, k2, rfl, hg2a, hg2b⟩ := own_some hown2 HNS.out.2.2.2
         have hx := (H1.out.2.2.1.set 3 (.slice (some ⟨g1, 0, none⟩) M k1) (Nat.lt_of_lt_of_eq (by decide : 3 < 10) rfl)).alloc (.cells #[] 3)
         have hy := (H1.out.2.2.2.1.other ⟨B, 3, none⟩ (.slice (some ⟨g1, 0, none⟩) M k1) (by simp)).alloc (.cells #[] 3)
         have x2 := hx.keep (ch_grown hg2) (fun e => by have e2 : w1.heap.size = B := Option.some.inj e; have := H1.out.2.1; omega)
         have y2 := hy.keep (ch_grown hg2) (fun e => by have e2 : w1.heap.size = B + 1 := Option.some.inj e; have := H1.out.2.1; omega)
         have ho2 := own_ch ((own_ch H1.out.1 ((Ch.refl (fun j => j = B) _).setCell ⟨B, 3, none⟩ (.slice (some ⟨g1, 0, none⟩) M k1) (.inl rfl)) (fun j hj (e : j = B) => by have e3 : g1 = j := Option.some.inj hj; have := H1.out.2.1; omega)).alloc (.cells #[] 3)) (ch_grown hg2) (fun j hj e => by have e2 : w1.heap.size = j := Option.some.inj e; have e3 : g1 = j := Option.some.inj hj; have := H1.out.2.1; omega)
         have hb2 := Below.grown ((H1.out.2.2.2.2.setCell (Nat.le_refl _) (.slice (some ⟨g1, 0, none⟩) M k1)).alloc (o := .cells #[] 3) (by have := H1.out.2.1; simp only [World.size_setCell]; omega)) hg2 (by have := H1.out.2.1; simp only [World.size_alloc, World.size_setCell]; omega) (fun j e => by have e2 : w1.heap.size = j := Option.some.inj e; have := H1.out.2.1; omega)
         have c0 := x2.cell 0 _ rfl
         have c1 := x2.cell 1 _ rfl
         have c2 := x2.cell 2 _ rfl
         have c3 := x2.cell 3 _ rfl
         have c4 := x2.cell 4 _ rfl
         have c5 := x2.cell 5 _ rfl
         have c6 := x2.cell 6 _ rfl
         have c7 := x2.cell 7 _ rfl
         have c8 := x2.cell 8 _ rfl
         have c9 := x2.cell 9 _ rfl
         have f4 := x2.fr 4
         rw [HL.out.2] at y2
         have d0 := y2.cell 0 _ rfl
         have d1 := y2.cell 1 _ rfl
         have d2 := y2.cell 2 _ rfl
         have d3 := y2.cell 3 _ rfl
         have d4 := y2.cell 4 _ rfl
         have d5 := y2.cell 5 _ rfl
         have d6 := y2.cell 6 _ rfl
         have d7 := y2.cell 7 _ rfl
         have d8 := y2.cell 8 _ rfl
         have d9 := y2.cell 9 _ rfl
         have e0 := y2.fr 0
         have e1 := y2.fr 1
         have e2 := y2.fr 2
         have e3 := y2.fr 3
         have e4 := y2.fr 4
         have e5 := y2.fr 5
         have e6 := y2.fr 6
         have e7 := y2.fr 7
         have e8 := y2.fr 8
         have e9 := y2.fr 9
         have H2 := Lib.hid (And.intro ho2 (And.intro hown2 (And.intro hg2a hb2)))
         clear ho2 hown2 hg2 hg2a hg2b hx hy x2 y2 hb2 a0 a1 a2 a3 a4 f3 b4))
    | (at_builtin; go_must (
         refine wpList_append_own _ rfl (.tmp 3) (.tmp 5) 24 rfl (B + 1 + 1) 26 i0 (.int .u32 0) 1 4 Try.underlying24 hi hz0 hz1 hz2 rfl (by decide) _ 0 [] rfl (fresh27n _ (B + 1 + 1) (B + 1 + 1) ?hle (Nat.le_refl _)) ⟨bL, 0, none⟩ M cL (rowB d.flat) rfl HR.out (HH.out _ ?hbe).rowL (rowB_one _) HB.out.1 HB.out.2 ?hsz ?_
         case hle => simp only [World.size_alloc]; rw [HN.out]
         case hbe => exact (((Below.refl _ _).alloc (Nat.le_of_eq HN.out.symm) _).alloc (by rw [World.size_alloc]; have := HN.out; omega) _).alloc (by simp only [World.size_alloc]; have := HN.out; omega) _
         case hsz => simp only [World.size_alloc]; have := HN.out; omega
         intro v1 w1 hown1 hg1 _
         rw [Nat.zero_add, List.nil_append] at hown1
         obtain ⟨g1, k1, rfl, hg1a, hg1b⟩ := own_some hown1 HP.out
         have x1 := (X1.out _ _).keep (ch_grown hg1) (fun e => by have e2 : B + 1 + 1 = B := Option.some.inj e; omega)
         have y1 := (X2.out _ _ _).keep (ch_grown hg1) (fun e => by have e2 : B + 1 + 1 = B + 1 := Option.some.inj e; omega)
         have hb1 : Below B w w1 := Below.grown ((((Below.refl _ _).alloc (Nat.le_of_eq HN.out.symm) _).alloc (by rw [World.size_alloc]; have := HN.out; omega) _).alloc (by simp only [World.size_alloc]; have := HN.out; omega) _) hg1 (by simp only [World.size_alloc]; have := HN.out; omega) (fun j e => by have e2 : B + 1 + 1 = j := Option.some.inj e; omega)
         rw [HL.out.1] at x1
         have a0 := x1.cell 0 _ rfl
         have a1 := x1.cell 1 _ rfl
         have a2 := x1.cell 2 _ rfl
         have a3 := x1.cell 3 _ rfl
         have a4 := x1.cell 4 _ rfl
         have f3 := x1.fr 3
         have b4 := ((x1.set 3 (.slice (some ⟨g1, 0, none⟩) M k1) (Nat.lt_of_lt_of_eq (by decide : 3 < 10) rfl)).alloc (.cells #[] 3)).cell 4 _ rfl
         have H1 := Lib.hid (And.intro hown1 (And.intro (And.intro hg1a hg1b) (And.intro x1 (And.intro y1 hb1))))
         clear hown1 hg1 hg1a hg1b x1 y1 hb1))
    | fail)
  have nn := own_ne H2.out.1 H2.out.2.1 (by decide)
  have hg1 := H1.out.2.1
  have hg2 := H2.out.2.2.1
  have hr : RefIn w2 g1 g2 d := refIn_own (cL := k1) (cW := k2) (by rw [HNS.out.2.2.1]; exact H2.out.1) (by rw [HNS.out.1]; exact H2.out.2.1) nn HZ.out
  refine ⟨rfl, .agg #[.int .i64 ns, .int .i64 nw, .int .i64 d.limit, .slice (some ⟨g1, 0, none⟩) M k1, .slice (some ⟨g2, 0, none⟩) ns k2, .bool (!d.on), .bool d.armed, .int .i64 d.after, .int .u32 (w32 d.seed), .int .i64 d.ops], ?_, g1, k1, g2, k2, rfl, ?_, by omega, by omega, ?_⟩
  · simp [results, Try.results113, go_sem, *]
  · refine hr.keep (T := fun j => j = B ∨ j = B + 1) ?_ (by omega) (by omega)
    repeat' (first | refine Ch.setCell ?_ _ _ ?_ | exact Ch.refl _ _)
    all_goals first | exact .inl (.inl rfl) | exact .inl (.inr rfl)
  · repeat' (first | refine Below.setCell ?_ ?_ _ | exact H2.out.2.2.2)
    all_goals first | exact Nat.le_refl B | exact Nat.le_succ B
end Go.Proofs.Ythpagbfabpfngaa
