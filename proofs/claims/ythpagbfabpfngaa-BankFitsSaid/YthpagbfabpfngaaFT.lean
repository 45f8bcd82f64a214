/- The contract of the reference's Program. -/
import Derived.Test.YthpagbfabpfngaaFS
namespace Go.Proofs.Ythpagbfabpfngaa
open Go.RowKit

variable {n0 n1 n2 : Int} {bL nL cL bW nW cW : Nat} {off ar : Bool} {af sd op : Int}
/-- The cells of a device's value. -/
abbrev lD (n0 n1 n2 : Int) (bL nL cL bW nW cW : Nat) (off ar : Bool) (af sd op : Int) : List Value := [.int .i64 n0, .int .i64 n1, .int .i64 n2, .slice (some ⟨bL, 0, none⟩) nL cL, .slice (some ⟨bW, 0, none⟩) nW cW, .bool off, .bool ar, .int .i64 af, .int .u32 sd, .int .i64 op]
abbrev lZ : List Value := [.int .i64 0, .int .i64 0, .int .i64 0, .slice none 0 0, .slice none 0 0, .bool false, .bool false, .int .i64 0, .int .u32 0, .int .i64 0]
/-- The two blocks in which a call keeps its device and its result. -/
structure TwoAt (w0 w : World) (l : List Value) : Prop where
  x : BoxAt w w0.heap.size l
  y : BoxAt w (w0.heap.size + 1) lZ
  b : Below w0.heap.size w0 w
theorem TwoAt.start (w : World) (n0 n1 n2 : Int) (bL nL cL bW nW cW : Nat) (off ar : Bool) (af sd op : Int) :
    TwoAt w ((w.alloc (.cells #[.int .i64 n0, .int .i64 n1, .int .i64 n2, .slice (some ⟨bL, 0, none⟩) nL cL, .slice (some ⟨bW, 0, none⟩) nW cW, .bool off, .bool ar, .int .i64 af, .int .u32 sd, .int .i64 op] 28)).alloc (.cells #[.int .i64 0, .int .i64 0, .int .i64 0, .slice none 0 0, .slice none 0 0, .bool false, .bool false, .int .i64 0, .int .u32 0, .int .i64 0] 28)) (lD n0 n1 n2 bL nL cL bW nW cW off ar af sd op) := by
  refine ⟨(BoxAt.mk_new w _ 28).alloc _, ?_, ((Below.refl _ w).alloc (Nat.le_refl _) _).alloc (by rw [World.size_alloc]; omega) _⟩
  rw [← size_add w]
  exact BoxAt.mk_new _ _ 28
theorem TwoAt.new {w0 w w' : World} {l : List Value} (h : TwoAt w0 w l) (c : Below w.heap.size w w') : TwoAt w0 w' l := ⟨h.x.new c, h.y.new c, h.b.trans (c.mono (by have := h.x.lt; omega))⟩
/-- A device's value is stored into the call's own block. -/
theorem TwoAt.put {w0 w : World} {l : List Value} (h : TwoAt w0 w l) (hl : l.length = 10) (v0 v1 v2 v3 v4 v5 v6 v7 v8 v9 : Value) :
    TwoAt w0 ((((((((((w.setCell ⟨w0.heap.size, 0, none⟩ v0).setCell ⟨w0.heap.size, 1, none⟩ v1).setCell ⟨w0.heap.size, 2, none⟩ v2).setCell ⟨w0.heap.size, 3, none⟩ v3).setCell ⟨w0.heap.size, 4, none⟩ v4).setCell ⟨w0.heap.size, 5, none⟩ v5).setCell ⟨w0.heap.size, 6, none⟩ v6).setCell ⟨w0.heap.size, 7, none⟩ v7).setCell ⟨w0.heap.size, 8, none⟩ v8).setCell ⟨w0.heap.size, 9, none⟩ v9) [v0, v1, v2, v3, v4, v5, v6, v7, v8, v9] := by
  obtain ⟨x, y, b⟩ := h
  match l, hl with
  | [a0, a1, a2, a3, a4, a5, a6, a7, a8, a9], _ =>
    refine ⟨?_, ?_, ?_⟩
    · exact (((((((((x.set 0 v0 (by decide : 0 < 10)).set 1 v1 (by decide : 1 < 10)).set 2 v2 (by decide : 2 < 10)).set 3 v3 (by decide : 3 < 10)).set 4 v4 (by decide : 4 < 10)).set 5 v5 (by decide : 5 < 10)).set 6 v6 (by decide : 6 < 10)).set 7 v7 (by decide : 7 < 10)).set 8 v8 (by decide : 8 < 10)).set 9 v9 (by decide : 9 < 10)
    · exact y.keep (T := fun j => j = w0.heap.size) (by
        repeat' (first | refine Ch.setCell ?_ _ _ ?_ | exact Ch.refl _ _)
        all_goals exact .inl rfl) (by omega)
    · repeat' (first | refine Below.setCell ?_ ?_ _ | exact b)
      all_goals exact Nat.le_refl _
theorem ch_put (w : World) (B : Nat) (v0 v1 v2 v3 v4 v5 v6 v7 v8 v9 : Value) :
    Ch (fun j => j = B) w ((((((((((w.setCell ⟨B, 0, none⟩ v0).setCell ⟨B, 1, none⟩ v1).setCell ⟨B, 2, none⟩ v2).setCell ⟨B, 3, none⟩ v3).setCell ⟨B, 4, none⟩ v4).setCell ⟨B, 5, none⟩ v5).setCell ⟨B, 6, none⟩ v6).setCell ⟨B, 7, none⟩ v7).setCell ⟨B, 8, none⟩ v8).setCell ⟨B, 9, none⟩ v9) := by
  repeat' (first | refine Ch.setCell ?_ _ _ ?_ | exact Ch.refl _ _)
  all_goals exact .inl rfl

theorem progV_off (w : World) (s k x : Int) : Calls Try.prog 92 #[vD n0 n1 n2 bL nL cL bW nW cW true ar af sd op, .int .i64 s, .int .i64 k, .int .u32 x] w fun e w' =>
    e = .returned (.tuple #[vD n0 n1 n2 bL nL cL bW nW cW true ar af sd op, .int .i64 63]) ∧ Below w.heap.size w w' := by
  go_enter Try.func92, Try.ntmps92
  go_wp2
  refine ⟨rfl, .tuple #[vD n0 n1 n2 bL nL cL bW nW cW true ar af sd op, .int .i64 63], ?_, rfl, ?_⟩
  · simp [results, Try.results92, go_sem]
  · repeat' (first | exact Below.refl _ _ | refine Below.alloc ?_ ?_ _ | refine Below.setCell ?_ ?_ _)
    all_goals first | omega | (simp only [World.size_alloc]; omega)
theorem progV_no (w : World) (s k x : Int) (hi : ∀ w, Calls Try.prog 112 #[vD n0 n1 n2 bL nL cL bW nW cW false ar af sd op, .int .i64 s, .int .i64 k] w fun e w' => e = .returned (.bool false) ∧ Below w.heap.size w w') :
    Calls Try.prog 92 #[vD n0 n1 n2 bL nL cL bW nW cW false ar af sd op, .int .i64 s, .int .i64 k, .int .u32 x] w fun e w' =>
    e = .returned (.tuple #[vD n0 n1 n2 bL nL cL bW nW cW false ar af sd op, .int .i64 60]) ∧ Below w.heap.size w w' := by
  have HI := Lib.hid hi
  have HT := Lib.hid (TwoAt.start w n0 n1 n2 bL nL cL bW nW cW false ar af sd op)
  obtain ⟨B, hB⟩ : ∃ B, w.heap.size = B := ⟨_, rfl⟩
  clear hi
  go_enter Try.func92, Try.ntmps92
  rw [hB]
  go_wp2_with (first
    | (go_at_call 112; go_must (refine (HI.out _).mono ?_; rintro e w1 ⟨rfl, hb⟩; have h1 := HT.out.new hb; obtain ⟨x1, y1, b1⟩ := h1; rw [hB] at x1 y1 b1; have c0 := x1.cell 0 _ rfl; have c1 := x1.cell 1 _ rfl; have c2 := x1.cell 2 _ rfl; have c3 := x1.cell 3 _ rfl; have c4 := x1.cell 4 _ rfl; have c5 := x1.cell 5 _ rfl; have c6 := x1.cell 6 _ rfl; have c7 := x1.cell 7 _ rfl; have c8 := x1.cell 8 _ rfl; have c9 := x1.cell 9 _ rfl; have d0 := y1.cell 0 _ rfl; have d1 := y1.cell 1 _ rfl; have d2 := y1.cell 2 _ rfl; have d3 := y1.cell 3 _ rfl; have d4 := y1.cell 4 _ rfl; have d5 := y1.cell 5 _ rfl; have d6 := y1.cell 6 _ rfl; have d7 := y1.cell 7 _ rfl; have d8 := y1.cell 8 _ rfl; have d9 := y1.cell 9 _ rfl; have e0 := y1.fr 0; have e1 := y1.fr 1; have e2 := y1.fr 2; have e3 := y1.fr 3; have e4 := y1.fr 4; have e5 := y1.fr 5; have e6 := y1.fr 6; have e7 := y1.fr 7; have e8 := y1.fr 8; have e9 := y1.fr 9; have HB := Lib.hid b1; clear hb x1 y1 b1))
    | fail)
  refine ⟨rfl, .tuple #[vD n0 n1 n2 bL nL cL bW nW cW false ar af sd op, .int .i64 60], ?_, rfl, ?_⟩
  · simp [results, Try.results92, go_sem, *]
  · repeat' (first | refine Below.setCell ?_ ?_ _ | exact HB.out)
    all_goals exact Nat.le_succ B
theorem progV_bits (w : World) (s k : Int) (m t : Nat) (X Y : BitVec 32) (hi : ∀ w, Calls Try.prog 112 #[vD n0 n1 n2 bL nL cL bW nW cW false ar af sd op, .int .i64 s, .int .i64 k] w fun e w' => e = .returned (.bool true) ∧ Below w.heap.size w w')
    (m1 : IntKind.i64.wrap (s * n1) = (m : Int)) (m2 : IntKind.i64.wrap ((m : Int) + k) = (t : Int)) (ht : t < nL) (hc : w.cell? ⟨bL, t, none⟩ = some (.int .u32 (w32 Y))) (hne : (w32 (X ||| Y) == w32 Y) = false) :
    Calls Try.prog 92 #[vD n0 n1 n2 bL nL cL bW nW cW false ar af sd op, .int .i64 s, .int .i64 k, .int .u32 (w32 X)] w fun e w' =>
    e = .returned (.tuple #[vD n0 n1 n2 bL nL cL bW nW cW false ar af sd op, .int .i64 61]) ∧ Below w.heap.size w w' := by
  have HI := Lib.hid hi
  have HT := Lib.hid (TwoAt.start w n0 n1 n2 bL nL cL bW nW cW false ar af sd op)
  have HC := Lib.hid (fun (w2 : World) (hb : Below w.heap.size w w2) => (hb.cell (p := ⟨bL, t, none⟩) (by simpa using World.block_lt_of_cell? w _ hc)).trans hc)
  have t0 : (0 : Int) ≤ (t : Int) := by omega
  have t1 : (t : Int) < (nL : Int) := by omega
  have hor := or32 X Y
  have hn2 : (w32 (X ||| Y) == w32 Y) = false := hne
  obtain ⟨B, hB⟩ : ∃ B, w.heap.size = B := ⟨_, rfl⟩
  clear hi hne ht
  go_enter Try.func92, Try.ntmps92
  rw [hB]
  go_wp2_with (first
    | (go_at_call 112; go_must (refine (HI.out _).mono ?_; rintro e w1 ⟨rfl, hb⟩; have h1 := HT.out.new hb; have hc1 := HC.out _ h1.b; obtain ⟨x1, y1, b1⟩ := h1; rw [hB] at x1 y1 b1; have c0 := x1.cell 0 _ rfl; have c1 := x1.cell 1 _ rfl; have c2 := x1.cell 2 _ rfl; have c3 := x1.cell 3 _ rfl; have c4 := x1.cell 4 _ rfl; have c5 := x1.cell 5 _ rfl; have c6 := x1.cell 6 _ rfl; have c7 := x1.cell 7 _ rfl; have c8 := x1.cell 8 _ rfl; have c9 := x1.cell 9 _ rfl; have d0 := y1.cell 0 _ rfl; have d1 := y1.cell 1 _ rfl; have d2 := y1.cell 2 _ rfl; have d3 := y1.cell 3 _ rfl; have d4 := y1.cell 4 _ rfl; have d5 := y1.cell 5 _ rfl; have d6 := y1.cell 6 _ rfl; have d7 := y1.cell 7 _ rfl; have d8 := y1.cell 8 _ rfl; have d9 := y1.cell 9 _ rfl; have e0 := y1.fr 0; have e1 := y1.fr 1; have e2 := y1.fr 2; have e3 := y1.fr 3; have e4 := y1.fr 4; have e5 := y1.fr 5; have e6 := y1.fr 6; have e7 := y1.fr 7; have e8 := y1.fr 8; have e9 := y1.fr 9; have HB := Lib.hid b1; clear hb x1 y1 b1))
    | fail)
  go_quiet (fail)
  go_wp2
  refine ⟨rfl, .tuple #[vD n0 n1 n2 bL nL cL bW nW cW false ar af sd op, .int .i64 61], ?_, rfl, ?_⟩
  · simp [results, Try.results92, go_sem, *]
  · repeat' (first | refine Below.setCell ?_ ?_ _ | exact below_dn HB.out _)
    all_goals exact Nat.le_succ B
end Go.Proofs.Ythpagbfabpfngaa
