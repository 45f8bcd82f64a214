/- The contract of head. -/
import Derived.Test.YthpagbfabpfngaaHC
namespace Go.Proofs.Ythpagbfabpfngaa
open Go.RowKit

/-- A block with its row. -/
def RowAt (w : World) (b : Nat) (t : TypeId) (cs : Array Value) : Prop := w.heap[b]? = some (.cells cs t (0, 0))
theorem RowAt.lt {w : World} {b : Nat} {t : TypeId} {cs : Array Value} (h : RowAt w b t cs) : b < w.heap.size := (Array.getElem?_eq_some_iff.1 h).1
theorem RowAt.new {w w' : World} {b : Nat} {t : TypeId} {cs : Array Value} (h : RowAt w b t cs) (hb : Below w.heap.size w w') : RowAt w' b t cs := (hb.block b h.lt).trans h
theorem RowAt.below_ {w w' : World} {b n : Nat} {t : TypeId} {cs : Array Value} (h : RowAt w b t cs) (hb : Below n w w') (hn : b < n) : RowAt w' b t cs := (hb.block b hn).trans h
theorem RowAt.drew {w : World} {b : Nat} {t : TypeId} {cs : Array Value} (h : RowAt w b t cs) : RowAt w.drew b t cs := h
theorem RowAt.other {w : World} {b g : Nat} {t : TypeId} {cs vs : Array Value} (h : RowAt w b t cs) (hg : b ≠ g) : RowAt (w.setRow g vs) b t cs := (setRow_other _ _ _ _ hg).trans h
theorem RowAt.put {w : World} {b : Nat} {t : TypeId} {cs vs : Array Value} (h : RowAt w b t cs) : RowAt (w.setRow b vs) b t vs := setRow_heap _ _ _ _ t (0, 0) h
theorem RowAt.mk (w : World) (t : TypeId) (cs : Array Value) : RowAt (w.alloc (.cells cs t)) w.heap.size t cs := heap_alloc_new w _
theorem RowAt.cell {w : World} {b : Nat} {t : TypeId} {cs : Array Value} (h : RowAt w b t cs) (j : Nat) : w.cell? ⟨b, j, none⟩ = cs[j]? := cell_of_row w b j _ _ _ h
theorem RowAt.fr {w : World} {b : Nat} {t : TypeId} {cs : Array Value} (h : RowAt w b t cs) (j : Nat) : w.frozen? ⟨b, j, none⟩ = false := frozen_of_row w b j _ _ h
/-- A variable's block: where it lies, and what is in it. -/
def VarAt (w : World) (base : Nat) (x : Value) (t : TypeId) (cs : Array Value) : Prop := ∃ b, x = .pointer (some ⟨b, 0, none⟩) ∧ base ≤ b ∧ RowAt w b t cs
theorem VarAt.new {w w' : World} {base : Nat} {x : Value} {t : TypeId} {cs : Array Value} (h : VarAt w base x t cs) (hb : Below w.heap.size w w') : VarAt w' base x t cs := by
  obtain ⟨b, e, h1, h2⟩ := h
  exact ⟨b, e, h1, h2.new hb⟩
theorem VarAt.ne {w : World} {base : Nat} {x : Value} {t : TypeId} {cs : Array Value} (h : VarAt w base x t cs) : x ≠ .pointer (some ⟨w.heap.size, 0, none⟩) := by
  obtain ⟨b, rfl, h1, h2⟩ := h
  intro e
  injection e with e; injection e with e; injection e with e
  have := h2.lt
  omega
theorem VarAt.other {w : World} {base g : Nat} {x : Value} {t : TypeId} {cs vs : Array Value} (h : VarAt w base x t cs) (hg : x ≠ .pointer (some ⟨g, 0, none⟩)) : VarAt (w.setRow g vs) base x t cs := by
  obtain ⟨b, rfl, h1, h2⟩ := h
  exact ⟨b, rfl, h1, h2.other (fun e => hg (by rw [e]))⟩

theorem pair_one (x y : Int) : (#[Value.int .u32 x, Value.int .u32 y] : Array Value).all (·.oneCell') = true := all_oneCell_toArray (cs := [.int .u32 x, .int .u32 y]) (fun v hv => by simp at hv; rcases hv with rfl | rfl <;> rfl)
/-- What is known while the three pairs are read, whichever came up. -/
structure HdI (w3 : World) (r : Nat) (H : Nat → BitVec 32) (d : Nat → Bool) (w : World) (x4 x5 x6 x7 x8 x9 x10 x11 x12 : Value) : Prop where
  below : Below (r + 2) w3 w
  size : r + 2 ≤ w.heap.size
  row : HAt w r H
  v0 : d 0 = true → x7 = .agg (hs H).toArray
  v2 : d 2 = true → x9 = .agg (hs H).toArray
  v4 : d 4 = true → x11 = .agg (hs H).toArray
  v1 : d 1 = true → x8 = .agg #[.int .u32 (w32 (H 0)), .int .u32 (w32 (H 1))]
  v3 : d 3 = true → x10 = .agg #[.int .u32 (w32 (H 2)), .int .u32 (w32 (H 3))]
  v5 : d 5 = true → x12 = .agg #[.int .u32 (w32 (H 4)), .int .u32 (w32 (H 5))]
  a6 : d 6 = true → VarAt w (r + 2) x4 152 (if d 9 = true then #[.int .u32 (w32 (H 0)), .int .u32 (w32 (H 1))] else #[.int .u32 0, .int .u32 0])
  a7 : d 7 = true → VarAt w (r + 2) x5 152 (if d 10 = true then #[.int .u32 (w32 (H 2)), .int .u32 (w32 (H 3))] else #[.int .u32 0, .int .u32 0])
  a8 : d 8 = true → VarAt w (r + 2) x6 152 (if d 11 = true then #[.int .u32 (w32 (H 4)), .int .u32 (w32 (H 5))] else #[.int .u32 0, .int .u32 0])
  n67 : d 6 = true → d 7 = true → x4 ≠ x5
  n68 : d 6 = true → d 8 = true → x4 ≠ x6
  n78 : d 7 = true → d 8 = true → x5 ≠ x6
  s9 : d 9 = true → d 6 = true
  s10 : d 10 = true → d 7 = true
  s11 : d 11 = true → d 8 = true

set_option maxHeartbeats 2000000 in
set_option maxRecDepth 100000 in
theorem headR {Q : Exit → Act → World → Prop} (w3 : World) (r : Nat) (H : Nat → BitVec 32) (hs3 : w3.heap.size = r + 2) (hr3 : HAt w3 r H)
    (hK : ∀ (x4 x5 x6 x7 x8 x9 x10 x11 x12 : Value) (w : World), HdI w3 r H (fun _ => true) w x4 x5 x6 x7 x8 x9 x10 x11 x12 → Q .normal { tmps := #[.agg (hs H).toArray, .pointer (some ⟨r, 0, none⟩), .pointer (some ⟨r + 1, 0, none⟩), .bool false, x4, x5, x6, x7, x8, x9, x10, x11, x12, undef, undef, undef, undef, undef, undef, undef, undef, undef, undef, undef, undef, undef, undef, undef, undef, undef, undef, undef, undef, undef, undef, undef, undef, undef, undef, undef], defers := [] } w) :
    (Code.region 1 #[{ dst := some 7, op := .load 147 (.tmp 1), type := 147, pos := "header.go:91", after := #[], guard := none }, { dst := some 8, op := .call { callee := .value (.func 88), args := #[.tmp 7, .const (.int .i64 0)], argTypes := #[147, 3] }, type := 152, pos := "header.go:91", after := #[{ on := 0, ground := .data }], guard := none }, { dst := some 9, op := .load 147 (.tmp 1), type := 147, pos := "header.go:91", after := #[], guard := none }, { dst := some 10, op := .call { callee := .value (.func 88), args := #[.tmp 9, .const (.int .i64 2)], argTypes := #[147, 3] }, type := 152, pos := "header.go:91", after := #[{ on := 2, ground := .data }, { on := 1, ground := .chain }], guard := none }, { dst := some 11, op := .load 147 (.tmp 1), type := 147, pos := "header.go:91", after := #[], guard := none }, { dst := some 12, op := .call { callee := .value (.func 88), args := #[.tmp 11, .const (.int .i64 4)], argTypes := #[147, 3] }, type := 152, pos := "header.go:91", after := #[{ on := 4, ground := .data }, { on := 3, ground := .chain }], guard := none }, { dst := some 4, op := .alloc 152, type := 0, pos := "header.go:91", after := #[], guard := none }, { dst := some 5, op := .alloc 152, type := 0, pos := "header.go:91", after := #[], guard := none }, { dst := some 6, op := .alloc 152, type := 0, pos := "header.go:91", after := #[], guard := none }, { dst := none, op := .store 152 (.tmp 4) (.tmp 8), type := 0, pos := "header.go:91", after := #[{ on := 6, ground := .data }, { on := 1, ground := .data }, { on := 5, ground := .chain }, { on := 0, ground := .phase }, { on := 1, ground := .phase }, { on := 2, ground := .textOnly Go.Departure.lateStores }, { on := 3, ground := .textOnly Go.Departure.lateStoresUnsure }, { on := 4, ground := .textOnly Go.Departure.lateStores }, { on := 5, ground := .textOnly Go.Departure.lateStoresUnsure }, { on := 6, ground := .phase }, { on := 7, ground := .phase }, { on := 8, ground := .phase }], guard := none }, { dst := none, op := .store 152 (.tmp 5) (.tmp 10), type := 0, pos := "header.go:91", after := #[{ on := 7, ground := .data }, { on := 3, ground := .data }, { on := 9, ground := .chain }, { on := 0, ground := .phase }, { on := 1, ground := .phase }, { on := 2, ground := .phase }, { on := 3, ground := .phase }, { on := 4, ground := .textOnly Go.Departure.lateStores }, { on := 5, ground := .textOnly Go.Departure.lateStoresUnsure }, { on := 6, ground := .phase }, { on := 7, ground := .phase }, { on := 8, ground := .phase }, { on := 9, ground := .phase }], guard := none }, { dst := none, op := .store 152 (.tmp 6) (.tmp 12), type := 0, pos := "header.go:91", after := #[{ on := 8, ground := .data }, { on := 5, ground := .data }, { on := 10, ground := .chain }, { on := 0, ground := .phase }, { on := 1, ground := .phase }, { on := 2, ground := .phase }, { on := 3, ground := .phase }, { on := 4, ground := .phase }, { on := 5, ground := .phase }, { on := 6, ground := .phase }, { on := 7, ground := .phase }, { on := 8, ground := .phase }, { on := 9, ground := .phase }, { on := 10, ground := .phase }], guard := none }] true).wp Try.prog Q { tmps := #[.agg (hs H).toArray, .pointer (some ⟨r, 0, none⟩), .pointer (some ⟨r + 1, 0, none⟩), .bool false, undef, undef, undef, undef, undef, undef, undef, undef, undef, undef, undef, undef, undef, undef, undef, undef, undef, undef, undef, undef, undef, undef, undef, undef, undef, undef, undef, undef, undef, undef, undef, undef, undef, undef, undef, undef], defers := [] } w3 := by
  refine wp_region_inv (fun d a w => ∃ x4 x5 x6 x7 x8 x9 x10 x11 x12 : Value, a = { tmps := #[.agg (hs H).toArray, .pointer (some ⟨r, 0, none⟩), .pointer (some ⟨r + 1, 0, none⟩), .bool false, x4, x5, x6, x7, x8, x9, x10, x11, x12, undef, undef, undef, undef, undef, undef, undef, undef, undef, undef, undef, undef, undef, undef, undef, undef, undef, undef, undef, undef, undef, undef, undef, undef, undef, undef, undef], defers := [] } ∧ HdI w3 r H d w x4 x5 x6 x7 x8 x9 x10 x11 x12) (by kernel_rfl) (by kernel_rfl) ?_ ?_ ?_
  · exact ⟨_, _, _, _, _, _, _, _, _, rfl, ⟨(Below.refl _ _).drew, by show r + 2 ≤ w3.heap.size; omega, hr3, nofun, nofun, nofun, nofun, nofun, nofun, nofun, nofun, nofun, nofun, nofun, nofun, nofun, nofun, nofun⟩⟩
  · rintro d a w hd ⟨x4, x5, x6, x7, x8, x9, x10, x11, x12, rfl, hI⟩
    refine hK x4 x5 x6 x7 x8 x9 x10 x11 x12 w ⟨hI.below, hI.size, hI.row, fun _ => hI.v0 (hd 0 (by decide)), fun _ => hI.v2 (hd 2 (by decide)), fun _ => hI.v4 (hd 4 (by decide)), fun _ => hI.v1 (hd 1 (by decide)), fun _ => hI.v3 (hd 3 (by decide)), fun _ => hI.v5 (hd 5 (by decide)),
      fun _ => ?_, fun _ => ?_, fun _ => ?_, fun _ _ => hI.n67 (hd 6 (by decide)) (hd 7 (by decide)), fun _ _ => hI.n68 (hd 6 (by decide)) (hd 8 (by decide)), fun _ _ => hI.n78 (hd 7 (by decide)) (hd 8 (by decide)), fun _ => rfl, fun _ => rfl, fun _ => rfl⟩
    · have := hI.a6 (hd 6 (by decide)); rw [hd 9 (by decide)] at this; exact this
    · have := hI.a7 (hd 7 (by decide)); rw [hd 10 (by decide)] at this; exact this
    · have := hI.a8 (hd 8 (by decide)); rw [hd 11 (by decide)] at this; exact this
  · rintro i o d a w ho ⟨x4, x5, x6, x7, x8, x9, x10, x11, x12, rfl, hI⟩ hd0 hall K' hK'
    have hi : i < 12 := (Array.getElem?_eq_some_iff.1 ho).1
    obtain rfl | rfl | rfl | rfl | rfl | rfl | rfl | rfl | rfl | rfl | rfl | rfl : i = 0 ∨ i = 1 ∨ i = 2 ∨ i = 3 ∨ i = 4 ∨ i = 5 ∨ i = 6 ∨ i = 7 ∨ i = 8 ∨ i = 9 ∨ i = 10 ∨ i = 11 := by omega
    · injection (show some ({ dst := some 7, op := .load 147 (.tmp 1), type := 147, pos := "header.go:91", after := #[], guard := none } : Oper) = some o from ho) with ho; subst ho
      rw [if_pos (by rfl)]
      refine wp_load_row 147 (.tmp 1) rfl r rfl 147 (hs H).toArray (0, 0) _ hI.row Try.underlying147 rfl (by rw [info73]; simp [hs_len]) ?_
      exact hK'.out _ _ ⟨x4, x5, x6, _, x8, x9, x10, x11, x12, rfl, hI.below, hI.size, hI.row, fun _ => rfl, fun h => hI.v2 h, fun h => hI.v4 h, fun h => hI.v1 h, fun h => hI.v3 h, fun h => hI.v5 h, fun h => hI.a6 h, fun h => hI.a7 h, fun h => hI.a8 h, fun h1 h2 => hI.n67 h1 h2, fun h1 h2 => hI.n68 h1 h2, fun h1 h2 => hI.n78 h1 h2, fun h => hI.s9 h, fun h => hI.s10 h, fun h => hI.s11 h⟩
    · injection (show some ({ dst := some 8, op := .call { callee := .value (.func 88), args := #[.tmp 7, .const (.int .i64 0)], argTypes := #[147, 3] }, type := 152, pos := "header.go:91", after := #[{ on := 0, ground := .data }], guard := none } : Oper) = some o from ho) with ho; subst ho
      obtain rfl := hI.v0 (hall ⟨0, .data⟩ (by simp) rfl)
      go_simp
      refine (pairAt0 H _).mono ?_
      rintro e w5 ⟨rfl, hb⟩
      try dsimp only
      exact hK'.out _ _ ⟨x4, x5, x6, _, _, x9, x10, x11, x12, rfl, hI.below.trans (hb.mono hI.size), Nat.le_trans hI.size hb.size, hI.row.below hb hI.row.lt, fun h => hI.v0 h, fun h => hI.v2 h, fun h => hI.v4 h, fun _ => rfl, fun h => hI.v3 h, fun h => hI.v5 h, fun h => (hI.a6 h).new hb, fun h => (hI.a7 h).new hb, fun h => (hI.a8 h).new hb, fun h1 h2 => hI.n67 h1 h2, fun h1 h2 => hI.n68 h1 h2, fun h1 h2 => hI.n78 h1 h2, fun h => hI.s9 h, fun h => hI.s10 h, fun h => hI.s11 h⟩
    · injection (show some ({ dst := some 9, op := .load 147 (.tmp 1), type := 147, pos := "header.go:91", after := #[], guard := none } : Oper) = some o from ho) with ho; subst ho
      rw [if_pos (by rfl)]
      refine wp_load_row 147 (.tmp 1) rfl r rfl 147 (hs H).toArray (0, 0) _ hI.row Try.underlying147 rfl (by rw [info73]; simp [hs_len]) ?_
      exact hK'.out _ _ ⟨x4, x5, x6, x7, x8, _, x10, x11, x12, rfl, hI.below, hI.size, hI.row, fun h => hI.v0 h, fun _ => rfl, fun h => hI.v4 h, fun h => hI.v1 h, fun h => hI.v3 h, fun h => hI.v5 h, fun h => hI.a6 h, fun h => hI.a7 h, fun h => hI.a8 h, fun h1 h2 => hI.n67 h1 h2, fun h1 h2 => hI.n68 h1 h2, fun h1 h2 => hI.n78 h1 h2, fun h => hI.s9 h, fun h => hI.s10 h, fun h => hI.s11 h⟩
    · injection (show some ({ dst := some 10, op := .call { callee := .value (.func 88), args := #[.tmp 9, .const (.int .i64 2)], argTypes := #[147, 3] }, type := 152, pos := "header.go:91", after := #[{ on := 2, ground := .data }, { on := 1, ground := .chain }], guard := none } : Oper) = some o from ho) with ho; subst ho
      obtain rfl := hI.v2 (hall ⟨2, .data⟩ (by simp) rfl)
      go_simp
      refine (pairAt2 H _).mono ?_
      rintro e w5 ⟨rfl, hb⟩
      try dsimp only
      exact hK'.out _ _ ⟨x4, x5, x6, x7, x8, _, _, x11, x12, rfl, hI.below.trans (hb.mono hI.size), Nat.le_trans hI.size hb.size, hI.row.below hb hI.row.lt, fun h => hI.v0 h, fun h => hI.v2 h, fun h => hI.v4 h, fun h => hI.v1 h, fun _ => rfl, fun h => hI.v5 h, fun h => (hI.a6 h).new hb, fun h => (hI.a7 h).new hb, fun h => (hI.a8 h).new hb, fun h1 h2 => hI.n67 h1 h2, fun h1 h2 => hI.n68 h1 h2, fun h1 h2 => hI.n78 h1 h2, fun h => hI.s9 h, fun h => hI.s10 h, fun h => hI.s11 h⟩
    · injection (show some ({ dst := some 11, op := .load 147 (.tmp 1), type := 147, pos := "header.go:91", after := #[], guard := none } : Oper) = some o from ho) with ho; subst ho
      rw [if_pos (by rfl)]
      refine wp_load_row 147 (.tmp 1) rfl r rfl 147 (hs H).toArray (0, 0) _ hI.row Try.underlying147 rfl (by rw [info73]; simp [hs_len]) ?_
      exact hK'.out _ _ ⟨x4, x5, x6, x7, x8, x9, x10, _, x12, rfl, hI.below, hI.size, hI.row, fun h => hI.v0 h, fun h => hI.v2 h, fun _ => rfl, fun h => hI.v1 h, fun h => hI.v3 h, fun h => hI.v5 h, fun h => hI.a6 h, fun h => hI.a7 h, fun h => hI.a8 h, fun h1 h2 => hI.n67 h1 h2, fun h1 h2 => hI.n68 h1 h2, fun h1 h2 => hI.n78 h1 h2, fun h => hI.s9 h, fun h => hI.s10 h, fun h => hI.s11 h⟩
    · injection (show some ({ dst := some 12, op := .call { callee := .value (.func 88), args := #[.tmp 11, .const (.int .i64 4)], argTypes := #[147, 3] }, type := 152, pos := "header.go:91", after := #[{ on := 4, ground := .data }, { on := 3, ground := .chain }], guard := none } : Oper) = some o from ho) with ho; subst ho
      obtain rfl := hI.v4 (hall ⟨4, .data⟩ (by simp) rfl)
      go_simp
      refine (pairAt4 H _).mono ?_
      rintro e w5 ⟨rfl, hb⟩
      try dsimp only
      exact hK'.out _ _ ⟨x4, x5, x6, x7, x8, x9, x10, _, _, rfl, hI.below.trans (hb.mono hI.size), Nat.le_trans hI.size hb.size, hI.row.below hb hI.row.lt, fun h => hI.v0 h, fun h => hI.v2 h, fun h => hI.v4 h, fun h => hI.v1 h, fun h => hI.v3 h, fun _ => rfl, fun h => (hI.a6 h).new hb, fun h => (hI.a7 h).new hb, fun h => (hI.a8 h).new hb, fun h1 h2 => hI.n67 h1 h2, fun h1 h2 => hI.n68 h1 h2, fun h1 h2 => hI.n78 h1 h2, fun h => hI.s9 h, fun h => hI.s10 h, fun h => hI.s11 h⟩
    · injection (show some ({ dst := some 4, op := .alloc 152, type := 0, pos := "header.go:91", after := #[], guard := none } : Oper) = some o from ho) with ho; subst ho
      have hN : ¬ d 9 = true := fun h => by have := hI.s9 h; rw [hd0] at this; cases this
      go_simp
      exact hK'.out _ _ ⟨_, x5, x6, x7, x8, x9, x10, x11, x12, rfl, hI.below.alloc hI.size _, by rw [World.size_alloc]; exact Nat.le_succ_of_le hI.size, hI.row.below ((Below.refl _ _).alloc (Nat.le_refl _) _) hI.row.lt, fun h => hI.v0 h, fun h => hI.v2 h, fun h => hI.v4 h, fun h => hI.v1 h, fun h => hI.v3 h, fun h => hI.v5 h, fun _ => ⟨w.heap.size, rfl, hI.size, by rw [if_neg (by show ¬ d 9 = true; exact hN)]; exact RowAt.mk w 152 _⟩, fun h => (hI.a7 h).new ((Below.refl _ _).alloc (Nat.le_refl _) _), fun h => (hI.a8 h).new ((Below.refl _ _).alloc (Nat.le_refl _) _), fun _ h e => (hI.a7 h).ne e.symm, fun _ h e => (hI.a8 h).ne e.symm, fun h1 h2 => hI.n78 h1 h2, fun _ => rfl, fun h => hI.s10 h, fun h => hI.s11 h⟩
    · injection (show some ({ dst := some 5, op := .alloc 152, type := 0, pos := "header.go:91", after := #[], guard := none } : Oper) = some o from ho) with ho; subst ho
      have hN : ¬ d 10 = true := fun h => by have := hI.s10 h; rw [hd0] at this; cases this
      go_simp
      exact hK'.out _ _ ⟨x4, _, x6, x7, x8, x9, x10, x11, x12, rfl, hI.below.alloc hI.size _, by rw [World.size_alloc]; exact Nat.le_succ_of_le hI.size, hI.row.below ((Below.refl _ _).alloc (Nat.le_refl _) _) hI.row.lt, fun h => hI.v0 h, fun h => hI.v2 h, fun h => hI.v4 h, fun h => hI.v1 h, fun h => hI.v3 h, fun h => hI.v5 h, fun h => (hI.a6 h).new ((Below.refl _ _).alloc (Nat.le_refl _) _), fun _ => ⟨w.heap.size, rfl, hI.size, by rw [if_neg (by show ¬ d 10 = true; exact hN)]; exact RowAt.mk w 152 _⟩, fun h => (hI.a8 h).new ((Below.refl _ _).alloc (Nat.le_refl _) _), fun h _ e => (hI.a6 h).ne e, fun h1 h2 => hI.n68 h1 h2, fun _ h e => (hI.a8 h).ne e.symm, fun h => hI.s9 h, fun _ => rfl, fun h => hI.s11 h⟩
    · injection (show some ({ dst := some 6, op := .alloc 152, type := 0, pos := "header.go:91", after := #[], guard := none } : Oper) = some o from ho) with ho; subst ho
      have hN : ¬ d 11 = true := fun h => by have := hI.s11 h; rw [hd0] at this; cases this
      go_simp
      exact hK'.out _ _ ⟨x4, x5, _, x7, x8, x9, x10, x11, x12, rfl, hI.below.alloc hI.size _, by rw [World.size_alloc]; exact Nat.le_succ_of_le hI.size, hI.row.below ((Below.refl _ _).alloc (Nat.le_refl _) _) hI.row.lt, fun h => hI.v0 h, fun h => hI.v2 h, fun h => hI.v4 h, fun h => hI.v1 h, fun h => hI.v3 h, fun h => hI.v5 h, fun h => (hI.a6 h).new ((Below.refl _ _).alloc (Nat.le_refl _) _), fun h => (hI.a7 h).new ((Below.refl _ _).alloc (Nat.le_refl _) _), fun _ => ⟨w.heap.size, rfl, hI.size, by rw [if_neg (by show ¬ d 11 = true; exact hN)]; exact RowAt.mk w 152 _⟩, fun h1 h2 => hI.n67 h1 h2, fun h _ e => (hI.a6 h).ne e, fun h _ e => (hI.a7 h).ne e, fun h => hI.s9 h, fun h => hI.s10 h, fun _ => rfl⟩
    · injection (show some ({ dst := none, op := .store 152 (.tmp 4) (.tmp 8), type := 0, pos := "header.go:91", after := #[{ on := 6, ground := .data }, { on := 1, ground := .data }, { on := 5, ground := .chain }, { on := 0, ground := .phase }, { on := 1, ground := .phase }, { on := 2, ground := .textOnly Go.Departure.lateStores }, { on := 3, ground := .textOnly Go.Departure.lateStoresUnsure }, { on := 4, ground := .textOnly Go.Departure.lateStores }, { on := 5, ground := .textOnly Go.Departure.lateStoresUnsure }, { on := 6, ground := .phase }, { on := 7, ground := .phase }, { on := 8, ground := .phase }], guard := none } : Oper) = some o from ho) with ho; subst ho
      have h6 : d 6 = true := hall ⟨6, .data⟩ (by simp) rfl
      obtain ⟨b, rfl, hbb, hr⟩ := hI.a6 h6
      obtain rfl := hI.v1 (hall ⟨1, .data⟩ (by simp) rfl)
      rw [if_pos (by rfl)]
      refine wp_store_row 152 (.tmp 4) (.tmp 8) rfl b #[.int .u32 (w32 (H 0)), .int .u32 (w32 (H 1))] rfl rfl 152 _ hr (by kernel_rfl) (by split <;> rfl) (pair_one _ _) ?_
      exact hK'.out _ _ ⟨_, x5, x6, x7, _, x9, x10, x11, x12, rfl, below_setRow hI.below hbb _, by rw [size_setRow]; exact hI.size, (setRow_other _ _ _ _ (by omega)).trans hI.row, fun h => hI.v0 h, fun h => hI.v2 h, fun h => hI.v4 h, fun h => hI.v1 h, fun h => hI.v3 h, fun h => hI.v5 h, fun _ => ⟨b, rfl, hbb, hr.put⟩, fun h => (hI.a7 h).other (fun e => hI.n67 h6 h e.symm), fun h => (hI.a8 h).other (fun e => hI.n68 h6 h e.symm), fun h1 h2 => hI.n67 h1 h2, fun h1 h2 => hI.n68 h1 h2, fun h1 h2 => hI.n78 h1 h2, fun _ => h6, fun h => hI.s10 h, fun h => hI.s11 h⟩
    · injection (show some ({ dst := none, op := .store 152 (.tmp 5) (.tmp 10), type := 0, pos := "header.go:91", after := #[{ on := 7, ground := .data }, { on := 3, ground := .data }, { on := 9, ground := .chain }, { on := 0, ground := .phase }, { on := 1, ground := .phase }, { on := 2, ground := .phase }, { on := 3, ground := .phase }, { on := 4, ground := .textOnly Go.Departure.lateStores }, { on := 5, ground := .textOnly Go.Departure.lateStoresUnsure }, { on := 6, ground := .phase }, { on := 7, ground := .phase }, { on := 8, ground := .phase }, { on := 9, ground := .phase }], guard := none } : Oper) = some o from ho) with ho; subst ho
      have h7 : d 7 = true := hall ⟨7, .data⟩ (by simp) rfl
      obtain ⟨b, rfl, hbb, hr⟩ := hI.a7 h7
      obtain rfl := hI.v3 (hall ⟨3, .data⟩ (by simp) rfl)
      rw [if_pos (by rfl)]
      refine wp_store_row 152 (.tmp 5) (.tmp 10) rfl b #[.int .u32 (w32 (H 2)), .int .u32 (w32 (H 3))] rfl rfl 152 _ hr (by kernel_rfl) (by split <;> rfl) (pair_one _ _) ?_
      exact hK'.out _ _ ⟨x4, _, x6, x7, x8, x9, _, x11, x12, rfl, below_setRow hI.below hbb _, by rw [size_setRow]; exact hI.size, (setRow_other _ _ _ _ (by omega)).trans hI.row, fun h => hI.v0 h, fun h => hI.v2 h, fun h => hI.v4 h, fun h => hI.v1 h, fun h => hI.v3 h, fun h => hI.v5 h, fun h => (hI.a6 h).other (fun e => hI.n67 h h7 e), fun _ => ⟨b, rfl, hbb, hr.put⟩, fun h => (hI.a8 h).other (fun e => hI.n78 h7 h e.symm), fun h1 h2 => hI.n67 h1 h2, fun h1 h2 => hI.n68 h1 h2, fun h1 h2 => hI.n78 h1 h2, fun h => hI.s9 h, fun _ => h7, fun h => hI.s11 h⟩
    · injection (show some ({ dst := none, op := .store 152 (.tmp 6) (.tmp 12), type := 0, pos := "header.go:91", after := #[{ on := 8, ground := .data }, { on := 5, ground := .data }, { on := 10, ground := .chain }, { on := 0, ground := .phase }, { on := 1, ground := .phase }, { on := 2, ground := .phase }, { on := 3, ground := .phase }, { on := 4, ground := .phase }, { on := 5, ground := .phase }, { on := 6, ground := .phase }, { on := 7, ground := .phase }, { on := 8, ground := .phase }, { on := 9, ground := .phase }, { on := 10, ground := .phase }], guard := none } : Oper) = some o from ho) with ho; subst ho
      have h8 : d 8 = true := hall ⟨8, .data⟩ (by simp) rfl
      obtain ⟨b, rfl, hbb, hr⟩ := hI.a8 h8
      obtain rfl := hI.v5 (hall ⟨5, .data⟩ (by simp) rfl)
      rw [if_pos (by rfl)]
      refine wp_store_row 152 (.tmp 6) (.tmp 12) rfl b #[.int .u32 (w32 (H 4)), .int .u32 (w32 (H 5))] rfl rfl 152 _ hr (by kernel_rfl) (by split <;> rfl) (pair_one _ _) ?_
      exact hK'.out _ _ ⟨x4, x5, _, x7, x8, x9, x10, x11, _, rfl, below_setRow hI.below hbb _, by rw [size_setRow]; exact hI.size, (setRow_other _ _ _ _ (by omega)).trans hI.row, fun h => hI.v0 h, fun h => hI.v2 h, fun h => hI.v4 h, fun h => hI.v1 h, fun h => hI.v3 h, fun h => hI.v5 h, fun h => (hI.a6 h).other (fun e => hI.n68 h h8 e), fun h => (hI.a7 h).other (fun e => hI.n78 h h8 e), fun _ => ⟨b, rfl, hbb, hr.put⟩, fun h1 h2 => hI.n67 h1 h2, fun h1 h2 => hI.n68 h1 h2, fun h1 h2 => hI.n78 h1 h2, fun h => hI.s9 h, fun h => hI.s10 h, fun _ => h8⟩
end Go.Proofs.Ythpagbfabpfngaa
