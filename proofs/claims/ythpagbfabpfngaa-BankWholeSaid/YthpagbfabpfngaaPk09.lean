/- Several texts in one: HD, HE. -/
import Derived.Test.YthpagbfabpfngaaPk08
/- The contract of head. -/
namespace Go.Proofs.Ythpagbfabpfngaa
open Go.RowKit

/-- A block with its row. -/
def RowAt (w : World) (b : Nat) (t : TypeId) (cs : Array Value) : Prop := w.heap[b]? = some (.cells cs t (0, 0))
theorem RowAt.lt {w : World} {b : Nat} {t : TypeId} {cs : Array Value} (h : RowAt w b t cs) : b < w.heap.size := (Array.getElem?_eq_some_iff.1 h).1
theorem RowAt.new {w w' : World} {b : Nat} {t : TypeId} {cs : Array Value} (h : RowAt w b t cs) (hb : Below w.heap.size w w') : RowAt w' b t cs := (hb.block b h.lt).trans h
theorem RowAt.below_ {w w' : World} {b n : Nat} {t : TypeId} {cs : Array Value} (h : RowAt w b t cs) (hb : Below n w w') (hn : b < n) : RowAt w' b t cs := (hb.block b hn).trans h
theorem RowAt.drew {w : World} {b : Nat} {t : TypeId} {cs : Array Value} (h : RowAt w b t cs) : RowAt w.drew b t cs := h
theorem RowAt.other {w : World} {b g : Nat} {t : TypeId} {cs vs : Array Value} (h : RowAt w b t cs) (hg : b ≠ g) : RowAt (w.setRow g vs) b t cs := (setRow_other _ _ _ _ hg).trans h
theorem RowAt.put {w : World} {b : Nat} {t : TypeId} {cs vs : Array Value} (h : RowAt w b t cs) : RowAt (w.setRow b vs) b t vs := setRow_heap _ _ _ _ t (0, 0) h
theorem RowAt.mk (w : World) (t : TypeId) (cs : Array Value) : RowAt (w.alloc (.cells cs t)) w.heap.size t cs := heap_alloc_new w _
theorem RowAt.cell {w : World} {b : Nat} {t : TypeId} {cs : Array Value} (h : RowAt w b t cs) (j : Nat) : w.cell? ⟨b, j, none⟩ = cs[j]? := cell_of_row w b j _ _ _ h
theorem RowAt.fr {w : World} {b : Nat} {t : TypeId} {cs : Array Value} (h : RowAt w b t cs) (j : Nat) : w.frozen? ⟨b, j, none⟩ = false := frozen_of_row w b j _ _ h
/-- A variable's block: where it lies, and what is in it. -/
def VarAt (w : World) (base : Nat) (x : Value) (t : TypeId) (cs : Array Value) : Prop := ∃ b, x = .pointer (some ⟨b, 0, none⟩) ∧ base ≤ b ∧ RowAt w b t cs
theorem VarAt.new {w w' : World} {base : Nat} {x : Value} {t : TypeId} {cs : Array Value} (h : VarAt w base x t cs) (hb : Below w.heap.size w w') : VarAt w' base x t cs := by
  obtain ⟨b, e, h1, h2⟩ := h
  exact ⟨b, e, h1, h2.new hb⟩
theorem VarAt.ne {w : World} {base : Nat} {x : Value} {t : TypeId} {cs : Array Value} (h : VarAt w base x t cs) : x ≠ .pointer (some ⟨w.heap.size, 0, none⟩) := by
  obtain ⟨b, rfl, h1, h2⟩ := h
  intro e
  injection e with e; injection e with e; injection e with e
  have := h2.lt
  omega
theorem VarAt.other {w : World} {base g : Nat} {x : Value} {t : TypeId} {cs vs : Array Value} (h : VarAt w base x t cs) (hg : x ≠ .pointer (some ⟨g, 0, none⟩)) : VarAt (w.setRow g vs) base x t cs := by
  obtain ⟨b, rfl, h1, h2⟩ := h
  exact ⟨b, rfl, h1, h2.other (fun e => hg (by rw [e]))⟩

theorem pair_one (x y : Int) : (#[Value.int .u32 x, Value.int .u32 y] : Array Value).all (·.oneCell') = true := all_oneCell_toArray (cs := [.int .u32 x, .int .u32 y]) (fun v hv => by simp at hv; rcases hv with rfl | rfl <;> rfl)
/-- What is known while the three pairs are read, whichever came up. -/
structure HdI (w3 : World) (r : Nat) (H : Nat → BitVec 32) (d : Nat → Bool) (w : World) (x4 x5 x6 x7 x8 x9 x10 x11 x12 : Value) : Prop where
  below : Below (r + 2) w3 w
  size : r + 2 ≤ w.heap.size
  row : HAt w r H
  v0 : d 0 = true → x7 = .agg (hs H).toArray
  v2 : d 2 = true → x9 = .agg (hs H).toArray
  v4 : d 4 = true → x11 = .agg (hs H).toArray
  v1 : d 1 = true → x8 = .agg #[.int .u32 (w32 (H 0)), .int .u32 (w32 (H 1))]
  v3 : d 3 = true → x10 = .agg #[.int .u32 (w32 (H 2)), .int .u32 (w32 (H 3))]
  v5 : d 5 = true → x12 = .agg #[.int .u32 (w32 (H 4)), .int .u32 (w32 (H 5))]
  a6 : d 6 = true → VarAt w (r + 2) x4 152 (if d 9 = true then #[.int .u32 (w32 (H 0)), .int .u32 (w32 (H 1))] else #[.int .u32 0, .int .u32 0])
  a7 : d 7 = true → VarAt w (r + 2) x5 152 (if d 10 = true then #[.int .u32 (w32 (H 2)), .int .u32 (w32 (H 3))] else #[.int .u32 0, .int .u32 0])
  a8 : d 8 = true → VarAt w (r + 2) x6 152 (if d 11 = true then #[.int .u32 (w32 (H 4)), .int .u32 (w32 (H 5))] else #[.int .u32 0, .int .u32 0])
  n67 : d 6 = true → d 7 = true → x4 ≠ x5
  n68 : d 6 = true → d 8 = true → x4 ≠ x6
  n78 : d 7 = true → d 8 = true → x5 ≠ x6
  s9 : d 9 = true → d 6 = true
  s10 : d 10 = true → d 7 = true
  s11 : d 11 = true → d 8 = true

set_option maxHeartbeats 2000000 in
set_option maxRecDepth 100000 in
theorem headR {Q : Exit → Act → World → Prop} (w3 : World) (r : Nat) (H : Nat → BitVec 32) (hs3 : w3.heap.size = r + 2) (hr3 : HAt w3 r H)
    (hK : ∀ (x4 x5 x6 x7 x8 x9 x10 x11 x12 : Value) (w : World), HdI w3 r H (fun _ => true) w x4 x5 x6 x7 x8 x9 x10 x11 x12 → Q .normal { tmps := #[.agg (hs H).toArray, .pointer (some ⟨r, 0, none⟩), .pointer (some ⟨r + 1, 0, none⟩), .bool false, x4, x5, x6, x7, x8, x9, x10, x11, x12, undef, undef, undef, undef, undef, undef, undef, undef, undef, undef, undef, undef, undef, undef, undef, undef, undef, undef, undef, undef, undef, undef, undef, undef, undef, undef, undef], defers := [] } w) :
    (Code.region 1 #[{ dst := some 7, op := .load 147 (.tmp 1), type := 147, pos := "header.go:91", after := #[], guard := none }, { dst := some 8, op := .call { callee := .value (.func 88), args := #[.tmp 7, .const (.int .i64 0)], argTypes := #[147, 3] }, type := 152, pos := "header.go:91", after := #[{ on := 0, ground := .data }], guard := none }, { dst := some 9, op := .load 147 (.tmp 1), type := 147, pos := "header.go:91", after := #[], guard := none }, { dst := some 10, op := .call { callee := .value (.func 88), args := #[.tmp 9, .const (.int .i64 2)], argTypes := #[147, 3] }, type := 152, pos := "header.go:91", after := #[{ on := 2, ground := .data }, { on := 1, ground := .chain }], guard := none }, { dst := some 11, op := .load 147 (.tmp 1), type := 147, pos := "header.go:91", after := #[], guard := none }, { dst := some 12, op := .call { callee := .value (.func 88), args := #[.tmp 11, .const (.int .i64 4)], argTypes := #[147, 3] }, type := 152, pos := "header.go:91", after := #[{ on := 4, ground := .data }, { on := 3, ground := .chain }], guard := none }, { dst := some 4, op := .alloc 152, type := 0, pos := "header.go:91", after := #[], guard := none }, { dst := some 5, op := .alloc 152, type := 0, pos := "header.go:91", after := #[], guard := none }, { dst := some 6, op := .alloc 152, type := 0, pos := "header.go:91", after := #[], guard := none }, { dst := none, op := .store 152 (.tmp 4) (.tmp 8), type := 0, pos := "header.go:91", after := #[{ on := 6, ground := .data }, { on := 1, ground := .data }, { on := 5, ground := .chain }, { on := 0, ground := .phase }, { on := 1, ground := .phase }, { on := 2, ground := .textOnly Go.Departure.lateStores }, { on := 3, ground := .textOnly Go.Departure.lateStoresUnsure }, { on := 4, ground := .textOnly Go.Departure.lateStores }, { on := 5, ground := .textOnly Go.Departure.lateStoresUnsure }, { on := 6, ground := .phase }, { on := 7, ground := .phase }, { on := 8, ground := .phase }], guard := none }, { dst := none, op := .store 152 (.tmp 5) (.tmp 10), type := 0, pos := "header.go:91", after := #[{ on := 7, ground := .data }, { on := 3, ground := .data }, { on := 9, ground := .chain }, { on := 0, ground := .phase }, { on := 1, ground := .phase }, { on := 2, ground := .phase }, { on := 3, ground := .phase }, { on := 4, ground := .textOnly Go.Departure.lateStores }, { on := 5, ground := .textOnly Go.Departure.lateStoresUnsure }, { on := 6, ground := .phase }, { on := 7, ground := .phase }, { on := 8, ground := .phase }, { on := 9, ground := .phase }], guard := none }, { dst := none, op := .store 152 (.tmp 6) (.tmp 12), type := 0, pos := "header.go:91", after := #[{ on := 8, ground := .data }, { on := 5, ground := .data }, { on := 10, ground := .chain }, { on := 0, ground := .phase }, { on := 1, ground := .phase }, { on := 2, ground := .phase }, { on := 3, ground := .phase }, { on := 4, ground := .phase }, { on := 5, ground := .phase }, { on := 6, ground := .phase }, { on := 7, ground := .phase }, { on := 8, ground := .phase }, { on := 9, ground := .phase }, { on := 10, ground := .phase }], guard := none }] true).wp Try.prog Q { tmps := #[.agg (hs H).toArray, .pointer (some ⟨r, 0, none⟩), .pointer (some ⟨r + 1, 0, none⟩), .bool false, undef, undef, undef, undef, undef, undef, undef, undef, undef, undef, undef, undef, undef, undef, undef, undef, undef, undef, undef, undef, undef, undef, undef, undef, undef, undef, undef, undef, undef, undef, undef, undef, undef, undef, undef, undef], defers := [] } w3 := by
  refine wp_region_inv (fun d a w => ∃ x4 x5 x6 x7 x8 x9 x10 x11 x12 : Value, a = { tmps := #[.agg (hs H).toArray, .pointer (some ⟨r, 0, none⟩), .pointer (some ⟨r + 1, 0, none⟩), .bool false, x4, x5, x6, x7, x8, x9, x10, x11, x12, undef, undef, undef, undef, undef, undef, undef, undef, undef, undef, undef, undef, undef, undef, undef, undef, undef, undef, undef, undef, undef, undef, undef, undef, undef, undef, undef], defers := [] } ∧ HdI w3 r H d w x4 x5 x6 x7 x8 x9 x10 x11 x12) (by kernel_rfl) (by kernel_rfl) ?_ ?_ ?_
  · exact ⟨_, _, _, _, _, _, _, _, _, rfl, ⟨(Below.refl _ _).drew, by show r + 2 ≤ w3.heap.size; omega, hr3, nofun, nofun, nofun, nofun, nofun, nofun, nofun, nofun, nofun, nofun, nofun, nofun, nofun, nofun, nofun⟩⟩
  · rintro d a w hd ⟨x4, x5, x6, x7, x8, x9, x10, x11, x12, rfl, hI⟩
    refine hK x4 x5 x6 x7 x8 x9 x10 x11 x12 w ⟨hI.below, hI.size, hI.row, fun _ => hI.v0 (hd 0 (by decide)), fun _ => hI.v2 (hd 2 (by decide)), fun _ => hI.v4 (hd 4 (by decide)), fun _ => hI.v1 (hd 1 (by decide)), fun _ => hI.v3 (hd 3 (by decide)), fun _ => hI.v5 (hd 5 (by decide)),
      fun _ => ?_, fun _ => ?_, fun _ => ?_, fun _ _ => hI.n67 (hd 6 (by decide)) (hd 7 (by decide)), fun _ _ => hI.n68 (hd 6 (by decide)) (hd 8 (by decide)), fun _ _ => hI.n78 (hd 7 (by decide)) (hd 8 (by decide)), fun _ => rfl, fun _ => rfl, fun _ => rfl⟩
    · have := hI.a6 (hd 6 (by decide)); rw [hd 9 (by decide)] at this; exact this
    · have := hI.a7 (hd 7 (by decide)); rw [hd 10 (by decide)] at this; exact this
    · have := hI.a8 (hd 8 (by decide)); rw [hd 11 (by decide)] at this; exact this
  · rintro i o d a w ho ⟨x4, x5, x6, x7, x8, x9, x10, x11, x12, rfl, hI⟩ hd0 hall K' hK'
    have hi : i < 12 := (Array.getElem?_eq_some_iff.1 ho).1
    obtain rfl | rfl | rfl | rfl | rfl | rfl | rfl | rfl | rfl | rfl | rfl | rfl : i = 0 ∨ i = 1 ∨ i = 2 ∨ i = 3 ∨ i = 4 ∨ i = 5 ∨ i = 6 ∨ i = 7 ∨ i = 8 ∨ i = 9 ∨ i = 10 ∨ i = 11 := by omega
    · injection (show some ({ dst := some 7, op := .load 147 (.tmp 1), type := 147, pos := "header.go:91", after := #[], guard := none } : Oper) = some o from ho) with ho; subst ho
      rw [if_pos (by rfl)]
      refine wp_load_row 147 (.tmp 1) rfl r rfl 147 (hs H).toArray (0, 0) _ hI.row Try.underlying147 rfl (by rw [info73]; simp [hs_len]) ?_
      exact hK'.out _ _ ⟨x4, x5, x6, _, x8, x9, x10, x11, x12, rfl, hI.below, hI.size, hI.row, fun _ => rfl, fun h => hI.v2 h, fun h => hI.v4 h, fun h => hI.v1 h, fun h => hI.v3 h, fun h => hI.v5 h, fun h => hI.a6 h, fun h => hI.a7 h, fun h => hI.a8 h, fun h1 h2 => hI.n67 h1 h2, fun h1 h2 => hI.n68 h1 h2, fun h1 h2 => hI.n78 h1 h2, fun h => hI.s9 h, fun h => hI.s10 h, fun h => hI.s11 h⟩
    · injection (show some ({ dst := some 8, op := .call { callee := .value (.func 88), args := #[.tmp 7, .const (.int .i64 0)], argTypes := #[147, 3] }, type := 152, pos := "header.go:91", after := #[{ on := 0, ground := .data }], guard := none } : Oper) = some o from ho) with ho; subst ho
      obtain rfl := hI.v0 (hall ⟨0, .data⟩ (by simp) rfl)
      go_simp
      refine (pairAt0 H _).mono ?_
      rintro e w5 ⟨rfl, hb⟩
      try dsimp only
      exact hK'.out _ _ ⟨x4, x5, x6, _, _, x9, x10, x11, x12, rfl, hI.below.trans (hb.mono hI.size), Nat.le_trans hI.size hb.size, hI.row.below hb hI.row.lt, fun h => hI.v0 h, fun h => hI.v2 h, fun h => hI.v4 h, fun _ => rfl, fun h => hI.v3 h, fun h => hI.v5 h, fun h => (hI.a6 h).new hb, fun h => (hI.a7 h).new hb, fun h => (hI.a8 h).new hb, fun h1 h2 => hI.n67 h1 h2, fun h1 h2 => hI.n68 h1 h2, fun h1 h2 => hI.n78 h1 h2, fun h => hI.s9 h, fun h => hI.s10 h, fun h => hI.s11 h⟩
    · injection (show some ({ dst := some 9, op := .load 147 (.tmp 1), type := 147, pos := "header.go:91", after := #[], guard := none } : Oper) = some o from ho) with ho; subst ho
      rw [if_pos (by rfl)]
      refine wp_load_row 147 (.tmp 1) rfl r rfl 147 (hs H).toArray (0, 0) _ hI.row Try.underlying147 rfl (by rw [info73]; simp [hs_len]) ?_
      exact hK'.out _ _ ⟨x4, x5, x6, x7, x8, _, x10, x11, x12, rfl, hI.below, hI.size, hI.row, fun h => hI.v0 h, fun _ => rfl, fun h => hI.v4 h, fun h => hI.v1 h, fun h => hI.v3 h, fun h => hI.v5 h, fun h => hI.a6 h, fun h => hI.a7 h, fun h => hI.a8 h, fun h1 h2 => hI.n67 h1 h2, fun h1 h2 => hI.n68 h1 h2, fun h1 h2 => hI.n78 h1 h2, fun h => hI.s9 h, fun h => hI.s10 h, fun h => hI.s11 h⟩
    · injection (show some ({ dst := some 10, op := .call { callee := .value (.func 88), args := #[.tmp 9, .const (.int .i64 2)], argTypes := #[147, 3] }, type := 152, pos := "header.go:91", after := #[{ on := 2, ground := .data }, { on := 1, ground := .chain }], guard := none } : Oper) = some o from ho) with ho; subst ho
      obtain rfl := hI.v2 (hall ⟨2, .data⟩ (by simp) rfl)
      go_simp
      refine (pairAt2 H _).mono ?_
      rintro e w5 ⟨rfl, hb⟩
      try dsimp only
      exact hK'.out _ _ ⟨x4, x5, x6, x7, x8, _, _, x11, x12, rfl, hI.below.trans (hb.mono hI.size), Nat.le_trans hI.size hb.size, hI.row.below hb hI.row.lt, fun h => hI.v0 h, fun h => hI.v2 h, fun h => hI.v4 h, fun h => hI.v1 h, fun _ => rfl, fun h => hI.v5 h, fun h => (hI.a6 h).new hb, fun h => (hI.a7 h).new hb, fun h => (hI.a8 h).new hb, fun h1 h2 => hI.n67 h1 h2, fun h1 h2 => hI.n68 h1 h2, fun h1 h2 => hI.n78 h1 h2, fun h => hI.s9 h, fun h => hI.s10 h, fun h => hI.s11 h⟩
    · injection (show some ({ dst := some 11, op := .load 147 (.tmp 1), type := 147, pos := "header.go:91", after := #[], guard := none } : Oper) = some o from ho) with ho; subst ho
      rw [if_pos (by rfl)]
      refine wp_load_row 147 (.tmp 1) rfl r rfl 147 (hs H).toArray (0, 0) _ hI.row Try.underlying147 rfl (by rw [info73]; simp [hs_len]) ?_
      exact hK'.out _ _ ⟨x4, x5, x6, x7, x8, x9, x10, _, x12, rfl, hI.below, hI.size, hI.row, fun h => hI.v0 h, fun h => hI.v2 h, fun _ => rfl, fun h => hI.v1 h, fun h => hI.v3 h, fun h => hI.v5 h, fun h => hI.a6 h, fun h => hI.a7 h, fun h => hI.a8 h, fun h1 h2 => hI.n67 h1 h2, fun h1 h2 => hI.n68 h1 h2, fun h1 h2 => hI.n78 h1 h2, fun h => hI.s9 h, fun h => hI.s10 h, fun h => hI.s11 h⟩
    · injection (show some ({ dst := some 12, op := .call { callee := .value (.func 88), args := #[.tmp 11, .const (.int .i64 4)], argTypes := #[147, 3] }, type := 152, pos := "header.go:91", after := #[{ on := 4, ground := .data }, { on := 3, ground := .chain }], guard := none } : Oper) = some o from ho) with ho; subst ho
      obtain rfl := hI.v4 (hall ⟨4, .data⟩ (by simp) rfl)
      go_simp
      refine (pairAt4 H _).mono ?_
      rintro e w5 ⟨rfl, hb⟩
      try dsimp only
      exact hK'.out _ _ ⟨x4, x5, x6, x7, x8, x9, x10, _, _, rfl, hI.below.trans (hb.mono hI.size), Nat.le_trans hI.size hb.size, hI.row.below hb hI.row.lt, fun h => hI.v0 h, fun h => hI.v2 h, fun h => hI.v4 h, fun h => hI.v1 h, fun h => hI.v3 h, fun _ => rfl, fun h => (hI.a6 h).new hb, fun h => (hI.a7 h).new hb, fun h => (hI.a8 h).new hb, fun h1 h2 => hI.n67 h1 h2, fun h1 h2 => hI.n68 h1 h2, fun h1 h2 => hI.n78 h1 h2, fun h => hI.s9 h, fun h => hI.s10 h, fun h => hI.s11 h⟩
    · injection (show some ({ dst := some 4, op := .alloc 152, type := 0, pos := "header.go:91", after := #[], guard := none } : Oper) = some o from ho) with ho; subst ho
      have hN : ¬ d 9 = true := fun h => by have := hI.s9 h; rw [hd0] at this; cases this
      go_simp
      exact hK'.out _ _ ⟨_, x5, x6, x7, x8, x9, x10, x11, x12, rfl, hI.below.alloc hI.size _, by rw [World.size_alloc]; exact Nat.le_succ_of_le hI.size, hI.row.below ((Below.refl _ _).alloc (Nat.le_refl _) _) hI.row.lt, fun h => hI.v0 h, fun h => hI.v2 h, fun h => hI.v4 h, fun h => hI.v1 h, fun h => hI.v3 h, fun h => hI.v5 h, fun _ => ⟨w.heap.size, rfl, hI.size, by rw [if_neg (by show ¬ d 9 = true; exact hN)]; exact RowAt.mk w 152 _⟩, fun h => (hI.a7 h).new ((Below.refl _ _).alloc (Nat.le_refl _) _), fun h => (hI.a8 h).new ((Below.refl _ _).alloc (Nat.le_refl _) _), fun _ h e => (hI.a7 h).ne e.symm, fun _ h e => (hI.a8 h).ne e.symm, fun h1 h2 => hI.n78 h1 h2, fun _ => rfl, fun h => hI.s10 h, fun h => hI.s11 h⟩
    · injection (show some ({ dst := some 5, op := .alloc 152, type := 0, pos := "header.go:91", after := #[], guard := none } : Oper) = some o from ho) with ho; subst ho
      have hN : ¬ d 10 = true := fun h => by have := hI.s10 h; rw [hd0] at this; cases this
      go_simp
      exact hK'.out _ _ ⟨x4, _, x6, x7, x8, x9, x10, x11, x12, rfl, hI.below.alloc hI.size _, by rw [World.size_alloc]; exact Nat.le_succ_of_le hI.size, hI.row.below ((Below.refl _ _).alloc (Nat.le_refl _) _) hI.row.lt, fun h => hI.v0 h, fun h => hI.v2 h, fun h => hI.v4 h, fun h => hI.v1 h, fun h => hI.v3 h, fun h => hI.v5 h, fun h => (hI.a6 h).new ((Below.refl _ _).alloc (Nat.le_refl _) _), fun _ => ⟨w.heap.size, rfl, hI.size, by rw [if_neg (by show ¬ d 10 = true; exact hN)]; exact RowAt.mk w 152 _⟩, fun h => (hI.a8 h).new ((Below.refl _ _).alloc (Nat.le_refl _) _), fun h _ e => (hI.a6 h).ne e, fun h1 h2 => hI.n68 h1 h2, fun _ h e => (hI.a8 h).ne e.symm, fun h => hI.s9 h, fun _ => rfl, fun h => hI.s11 h⟩
    · injection (show some ({ dst := some 6, op := .alloc 152, type := 0, pos := "header.go:91", after := #[], guard := none } : Oper) = some o from ho) with ho; subst ho
      have hN : ¬ d 11 = true := fun h => by have := hI.s11 h; rw [hd0] at this; cases this
      go_simp
      exact hK'.out _ _ ⟨x4, x5, _, x7, x8, x9, x10, x11, x12, rfl, hI.below.alloc hI.size _, by rw [World.size_alloc]; exact Nat.le_succ_of_le hI.size, hI.row.below ((Below.refl _ _).alloc (Nat.le_refl _) _) hI.row.lt, fun h => hI.v0 h, fun h => hI.v2 h, fun h => hI.v4 h, fun h => hI.v1 h, fun h => hI.v3 h, fun h => hI.v5 h, fun h => (hI.a6 h).new ((Below.refl _ _).alloc (Nat.le_refl _) _), fun h => (hI.a7 h).new ((Below.refl _ _).alloc (Nat.le_refl _) _), fun _ => ⟨w.heap.size, rfl, hI.size, by rw [if_neg (by show ¬ d 11 = true; exact hN)]; exact RowAt.mk w 152 _⟩, fun h1 h2 => hI.n67 h1 h2, fun h _ e => (hI.a6 h).ne e, fun h _ e => (hI.a7 h).ne e, fun h => hI.s9 h, fun h => hI.s10 h, fun _ => rfl⟩
    · injection (show some ({ dst := none, op := .store 152 (.tmp 4) (.tmp 8), type := 0, pos := "header.go:91", after := #[{ on := 6, ground := .data }, { on := 1, ground := .data }, { on := 5, ground := .chain }, { on := 0, ground := .phase }, { on := 1, ground := .phase }, { on := 2, ground := .textOnly Go.Departure.lateStores }, { on := 3, ground := .textOnly Go.Departure.lateStoresUnsure }, { on := 4, ground := .textOnly Go.Departure.lateStores }, { on := 5, ground := .textOnly Go.Departure.lateStoresUnsure }, { on := 6, ground := .phase }, { on := 7, ground := .phase }, { on := 8, ground := .phase }], guard := none } : Oper) = some o from ho) with ho; subst ho
      have h6 : d 6 = true := hall ⟨6, .data⟩ (by simp) rfl
      obtain ⟨b, rfl, hbb, hr⟩ := hI.a6 h6
      obtain rfl := hI.v1 (hall ⟨1, .data⟩ (by simp) rfl)
      rw [if_pos (by rfl)]
      refine wp_store_row 152 (.tmp 4) (.tmp 8) rfl b #[.int .u32 (w32 (H 0)), .int .u32 (w32 (H 1))] rfl rfl 152 _ hr (by kernel_rfl) (by split <;> rfl) (pair_one _ _) ?_
      exact hK'.out _ _ ⟨_, x5, x6, x7, _, x9, x10, x11, x12, rfl, below_setRow hI.below hbb _, by rw [size_setRow]; exact hI.size, (setRow_other _ _ _ _ (by omega)).trans hI.row, fun h => hI.v0 h, fun h => hI.v2 h, fun h => hI.v4 h, fun h => hI.v1 h, fun h => hI.v3 h, fun h => hI.v5 h, fun _ => ⟨b, rfl, hbb, hr.put⟩, fun h => (hI.a7 h).other (fun e => hI.n67 h6 h e.symm), fun h => (hI.a8 h).other (fun e => hI.n68 h6 h e.symm), fun h1 h2 => hI.n67 h1 h2, fun h1 h2 => hI.n68 h1 h2, fun h1 h2 => hI.n78 h1 h2, fun _ => h6, fun h => hI.s10 h, fun h => hI.s11 h⟩
    · injection (show some ({ dst := none, op := .store 152 (.tmp 5) (.tmp 10), type := 0, pos := "header.go:91", after := #[{ on := 7, ground := .data }, { on := 3, ground := .data }, { on := 9, ground := .chain }, { on := 0, ground := .phase }, { on := 1, ground := .phase }, { on := 2, ground := .phase }, { on := 3, ground := .phase }, { on := 4, ground := .textOnly Go.Departure.lateStores }, { on := 5, ground := .textOnly Go.Departure.lateStoresUnsure }, { on := 6, ground := .phase }, { on := 7, ground := .phase }, { on := 8, ground := .phase }, { on := 9, ground := .phase }], guard := none } : Oper) = some o from ho) with ho; subst ho
      have h7 : d 7 = true := hall ⟨7, .data⟩ (by simp) rfl
      obtain ⟨b, rfl, hbb, hr⟩ := hI.a7 h7
      obtain rfl := hI.v3 (hall ⟨3, .data⟩ (by simp) rfl)
      rw [if_pos (by rfl)]
      refine wp_store_row 152 (.tmp 5) (.tmp 10) rfl b #[.int .u32 (w32 (H 2)), .int .u32 (w32 (H 3))] rfl rfl 152 _ hr (by kernel_rfl) (by split <;> rfl) (pair_one _ _) ?_
      exact hK'.out _ _ ⟨x4, _, x6, x7, x8, x9, _, x11, x12, rfl, below_setRow hI.below hbb _, by rw [size_setRow]; exact hI.size, (setRow_other _ _ _ _ (by omega)).trans hI.row, fun h => hI.v0 h, fun h => hI.v2 h, fun h => hI.v4 h, fun h => hI.v1 h, fun h => hI.v3 h, fun h => hI.v5 h, fun h => (hI.a6 h).other (fun e => hI.n67 h h7 e), fun _ => ⟨b, rfl, hbb, hr.put⟩, fun h => (hI.a8 h).other (fun e => hI.n78 h7 h e.symm), fun h1 h2 => hI.n67 h1 h2, fun h1 h2 => hI.n68 h1 h2, fun h1 h2 => hI.n78 h1 h2, fun h => hI.s9 h, fun _ => h7, fun h => hI.s11 h⟩
    · injection (show some ({ dst := none, op := .store 152 (.tmp 6) (.tmp 12), type := 0, pos := "header.go:91", after := #[{ on := 8, ground := .data }, { on := 5, ground := .data }, { on := 10, ground := .chain }, { on := 0, ground := .phase }, { on := 1, ground := .phase }, { on := 2, ground := .phase }, { on := 3, ground := .phase }, { on := 4, ground := .phase }, { on := 5, ground := .phase }, { on := 6, ground := .phase }, { on := 7, ground := .phase }, { on := 8, ground := .phase }, { on := 9, ground := .phase }, { on := 10, ground := .phase }], guard := none } : Oper) = some o from ho) with ho; subst ho
      have h8 : d 8 = true := hall ⟨8, .data⟩ (by simp) rfl
      obtain ⟨b, rfl, hbb, hr⟩ := hI.a8 h8
      obtain rfl := hI.v5 (hall ⟨5, .data⟩ (by simp) rfl)
      rw [if_pos (by rfl)]
      refine wp_store_row 152 (.tmp 6) (.tmp 12) rfl b #[.int .u32 (w32 (H 4)), .int .u32 (w32 (H 5))] rfl rfl 152 _ hr (by kernel_rfl) (by split <;> rfl) (pair_one _ _) ?_
      exact hK'.out _ _ ⟨x4, x5, _, x7, x8, x9, x10, x11, _, rfl, below_setRow hI.below hbb _, by rw [size_setRow]; exact hI.size, (setRow_other _ _ _ _ (by omega)).trans hI.row, fun h => hI.v0 h, fun h => hI.v2 h, fun h => hI.v4 h, fun h => hI.v1 h, fun h => hI.v3 h, fun h => hI.v5 h, fun h => (hI.a6 h).other (fun e => hI.n68 h h8 e), fun h => (hI.a7 h).other (fun e => hI.n78 h h8 e), fun _ => ⟨b, rfl, hbb, hr.put⟩, fun h1 h2 => hI.n67 h1 h2, fun h1 h2 => hI.n68 h1 h2, fun h1 h2 => hI.n78 h1 h2, fun h => hI.s9 h, fun h => hI.s10 h, fun _ => h8⟩
end Go.Proofs.Ythpagbfabpfngaa
/- The contract of head. -/
namespace Go.Proofs.Ythpagbfabpfngaa
open Go.RowKit

theorem results_row {P : Program} {fn : Func} {p u : Tmp} {ty : TypeId} (h : fn.results = #[.cell p ty, .tmp u]) (tmps : Array Value) (w : World) (g : Nat) (t : TypeId) (cs : Array Value) (d : TypeDesc) (hp : tmps.getD p undef = .pointer (some ⟨g, 0, none⟩))
    (hg : w.heap[g]? = some (.cells cs t (0, 0))) (hu : P.underlying ty = some d) (hd : (match d with | .struct _ | .array _ _ => true | _ => false) = true) (hi : (P.info? ty).map (·.size) = some cs.size) :
    (results fn tmps).run P w = .ok (.tuple #[.agg cs, tmps.getD u undef]) w := by
  rw [results_cell_tmp h, hp]
  simp [asAddr, Result.andThen, run_loadVar_row w g t ty cs (0, 0) d hg hu hd hi]
theorem three_one (x y z : Int) : (#[Value.int .u32 x, Value.int .u32 y, Value.int .u32 z] : Array Value).all (·.oneCell') = true := all_oneCell_toArray (cs := [.int .u32 x, .int .u32 y, .int .u32 z]) (fun v hv => by simp at hv; rcases hv with rfl | rfl | rfl <;> rfl)
theorem wpList_load_want {P : Program} {ops : Array Oper} {rest : List Oper} {o : Oper} {a : Act} {w : World} {Q : Exit → Act → World → Prop} (hw : Region.wanted o (yielded ops a.tmps) = true) (ty : TypeId) (x : Operand) (ho : o.op = .load ty x)
    (g : Nat) (hx : a.eval x = .pointer (some ⟨g, 0, none⟩)) (t : TypeId) (cs : Array Value) (fr : Nat × Nat) (d : TypeDesc) (hg : w.heap[g]? = some (.cells cs t fr))
    (hu : P.underlying ty = some d) (hd : (match d with | .struct _ | .array _ _ => true | _ => false) = true) (hi : (P.info? ty).map (·.size) = some cs.size)
    (h : wpList P ops Q rest (a.put o.dst (.agg cs)) w) : wpList P ops Q (o :: rest) a w :=
  wpList_step fun _ hK => by rw [if_pos hw]; exact wp_load_row ty x ho g hx t cs fr d hg hu hd hi (hK _ _ h)
def comW : BitVec 32 := 0x636f6d6d#32
def conW : BitVec 32 := 0x636f6e66#32
theorem comW_int : (1668246893 : Int) = w32 comW := by decide
theorem conW_int : (1668247142 : Int) = w32 conW := by decide
/-- Is a header valid, and which head has it? -/
def validH (H : Nat → BitVec 32) : Bool := (H 1 == ~~~H 0) && ((H 3 == ~~~H 2) && ((H 5 == ~~~H 4) && (H 6 == comW && H 7 == ~~~comW)))
def headH (H : Nat → BitVec 32) (k : Nat) : BitVec 32 := if validH H then H k else 0#32
theorem valid0 {H : Nat → BitVec 32} (h : (H 1 == ~~~H 0) = false) : validH H = false := by unfold validH; rw [h]; rfl
theorem valid2 {H : Nat → BitVec 32} (h : (H 3 == ~~~H 2) = false) : validH H = false := by unfold validH; rw [h]; simp
theorem valid4 {H : Nat → BitVec 32} (h : (H 5 == ~~~H 4) = false) : validH H = false := by unfold validH; rw [h]; simp
theorem valid6 {H : Nat → BitVec 32} (h : (H 6 == comW && H 7 == ~~~comW) = false) : validH H = false := by unfold validH; rw [h]; simp
theorem validY {H : Nat → BitVec 32} (h0 : (H 1 == ~~~H 0) = true) (h2 : (H 3 == ~~~H 2) = true) (h4 : (H 5 == ~~~H 4) = true) (h6 : (H 6 == comW && H 7 == ~~~comW) = true) : validH H = true := by unfold validH; rw [h0, h2, h4, h6]; rfl

set_option maxHeartbeats 4000000 in
set_option maxRecDepth 100000 in
theorem head_any (H : Nat → BitVec 32) (w : World) : Calls Try.prog 87 #[.agg (hs H).toArray] w fun e w' =>
    e = .returned (.tuple #[.agg #[.int .u32 (w32 (headH H 0)), .int .u32 (w32 (headH H 2)), .int .u32 (w32 (headH H 4))], .bool (validH H)]) ∧ Below w.heap.size w w' := by
  obtain ⟨r, hr⟩ : ∃ r, r = w.heap.size := ⟨_, rfl⟩
  obtain ⟨w1, hw1⟩ : ∃ w1, w1 = w.alloc (.cells (hs H).toArray 147) := ⟨_, rfl⟩
  obtain ⟨w2, hw2⟩ : ∃ w2, w2 = w1.alloc (.cells #[.int .u32 0, .int .u32 0, .int .u32 0] 45) := ⟨_, rfl⟩
  have s1 : w1.heap.size = r + 1 := by rw [hw1, hr]; simp
  have s2 : w2.heap.size = r + 2 := by rw [hw2, World.size_alloc, s1]
  have z1 : HAt w1 r H := by unfold HAt; rw [hw1, hr]; exact heap_alloc_new w _
  have z2 : HAt w2 r H := by rw [hw2]; exact z1.below ((Below.refl w1.heap.size w1).alloc (Nat.le_refl _) _) (by omega)
  have x2 : RowAt w2 (r + 1) 45 #[.int .u32 0, .int .u32 0, .int .u32 0] := by rw [hw2, ← s1]; exact RowAt.mk w1 _ _
  have b2 : Below r w w2 := by rw [hw2, hw1, hr]; exact ((Below.refl _ _).alloc (Nat.le_refl _) _).alloc (by simp) _
  have HB := Lib.hid (And.intro b2 (And.intro hr x2))
  have HS := Lib.hid (And.intro s2 z2)
  rw [← hr]
  clear z1 z2 x2 b2 s2
  go_enter Try.func87, Try.ntmps87
  go_upto_region 1 with fail
  rw [← hw1, ← hw2, ← hr]
  clear hw1 hw2 hr s1
  refine headR w2 r H HS.out.1 HS.out.2 ?_
  rintro x4 x5 x6 x7 x8 x9 x10 x11 x12 w4 hI
  obtain ⟨b4, rfl, g4, r4⟩ := hI.a6 rfl
  obtain ⟨b5, rfl, g5, r5⟩ := hI.a7 rfl
  obtain ⟨b6, rfl, g6, r6⟩ := hI.a8 rfl
  have HI := Lib.hid (show Below r w w4 ∧ r + 2 ≤ w4.heap.size from ⟨HB.out.1.trans (hI.below.mono (by omega)), hI.size⟩)
  have HF := Lib.hid (show ∀ wz, Below w4.heap.size w4 wz → (wz.cell? ⟨b4, 0, none⟩ = some (.int .u32 (w32 (H 0))) ∧ wz.cell? ⟨b4, 1, none⟩ = some (.int .u32 (w32 (H 1)))) ∧ (wz.cell? ⟨b5, 0, none⟩ = some (.int .u32 (w32 (H 2))) ∧ wz.cell? ⟨b5, 1, none⟩ = some (.int .u32 (w32 (H 3)))) ∧ (wz.cell? ⟨b6, 0, none⟩ = some (.int .u32 (w32 (H 4))) ∧ wz.cell? ⟨b6, 1, none⟩ = some (.int .u32 (w32 (H 5)))) from
    fun wz hz => ⟨⟨(r4.new hz).cell 0, (r4.new hz).cell 1⟩, ⟨(r5.new hz).cell 0, (r5.new hz).cell 1⟩, ⟨(r6.new hz).cell 0, (r6.new hz).cell 1⟩⟩)
  have HH := Lib.hid (show ∀ wz, Below w4.heap.size w4 wz → HAt wz r H ∧ RowAt wz (r + 1) 45 #[.int .u32 0, .int .u32 0, .int .u32 0] from
    fun wz hz => ⟨hI.row.below hz hI.row.lt, (HB.out.2.2.below_ hI.below (by omega)).new hz⟩)
  have B0 := Lib.hid (Below.refl w4.heap.size w4)
  obtain ⟨⟨p0, p1⟩, ⟨p2, p3⟩, ⟨p4, p5⟩⟩ := HF.out _ B0.out
  clear hI r4 r5 r6 g4 g5 g6
  have ec := comW_int
  cases h0 : (H 1 == ~~~H 0) with
  | false =>
    have HV := Lib.hid (valid0 h0)
    go_wp2_with (first
      | (go_at_call 110; refine (pright_any _ _ _).mono ?_; rintro e w5 ⟨rfl, hb⟩; have B0 := Lib.hid (B0.out.trans (hb.mono B0.out.size)); obtain ⟨⟨p0, p1⟩, ⟨p2, p3⟩, ⟨p4, p5⟩⟩ := HF.out _ B0.out; clear hb)
      | (go_at_call 88; refine (pairAt6 H _).mono ?_; rintro e w5 ⟨rfl, hb⟩; have B0 := Lib.hid (B0.out.trans (hb.mono B0.out.size)); obtain ⟨⟨p0, p1⟩, ⟨p2, p3⟩, ⟨p4, p5⟩⟩ := HF.out _ B0.out; clear hb)
      | (go_at_call 89; refine (pis_any (H 6) (H 7) comW _).mono ?_; rintro e w5 ⟨rfl, hb⟩; have B0 := Lib.hid (B0.out.trans (hb.mono B0.out.size)); obtain ⟨⟨p0, p1⟩, ⟨p2, p3⟩, ⟨p4, p5⟩⟩ := HF.out _ B0.out; clear hb)
      | (refine wpList_load_want (by rfl) 147 (.tmp 1) rfl r rfl 147 (hs H).toArray (0, 0) _ (HH.out _ B0.out).1 Try.underlying147 rfl (by rw [info73]; simp [hs_len]) ?_)
      | (refine wpList_store_row rfl 45 (.tmp 2) (.tmp 32) rfl (r + 1) #[.int .u32 0, .int .u32 0, .int .u32 0] rfl rfl 45 _ (HH.out _ B0.out).2 (by kernel_rfl) rfl (three_one _ _ _) ?_)
      | fail)
    refine bodyPost_ret (results_row rfl _ _ (r + 1) 45 #[.int .u32 0, .int .u32 0, .int .u32 0] _ rfl (setRow_heap _ _ _ _ 45 (0, 0) (HH.out _ B0.out).2) Try.underlying45 rfl (by kernel_rfl)) rfl ?_
    refine ⟨?_, below_setRow (HI.out.1.trans (B0.out.mono (by have := HI.out.2; omega))) (Nat.le_succ r) _⟩
    rw [show headH H 0 = _ from if_neg (by rw [HV.out]; decide), show headH H 2 = _ from if_neg (by rw [HV.out]; decide), show headH H 4 = _ from if_neg (by rw [HV.out]; decide), HV.out]
    rfl
  | true =>
  cases h2 : (H 3 == ~~~H 2) with
  | false =>
    have HV := Lib.hid (valid2 h2)
    go_wp2_with (first
      | (go_at_call 110; refine (pright_any _ _ _).mono ?_; rintro e w5 ⟨rfl, hb⟩; have B0 := Lib.hid (B0.out.trans (hb.mono B0.out.size)); obtain ⟨⟨p0, p1⟩, ⟨p2, p3⟩, ⟨p4, p5⟩⟩ := HF.out _ B0.out; clear hb)
      | (go_at_call 88; refine (pairAt6 H _).mono ?_; rintro e w5 ⟨rfl, hb⟩; have B0 := Lib.hid (B0.out.trans (hb.mono B0.out.size)); obtain ⟨⟨p0, p1⟩, ⟨p2, p3⟩, ⟨p4, p5⟩⟩ := HF.out _ B0.out; clear hb)
      | (go_at_call 89; refine (pis_any (H 6) (H 7) comW _).mono ?_; rintro e w5 ⟨rfl, hb⟩; have B0 := Lib.hid (B0.out.trans (hb.mono B0.out.size)); obtain ⟨⟨p0, p1⟩, ⟨p2, p3⟩, ⟨p4, p5⟩⟩ := HF.out _ B0.out; clear hb)
      | (refine wpList_load_want (by rfl) 147 (.tmp 1) rfl r rfl 147 (hs H).toArray (0, 0) _ (HH.out _ B0.out).1 Try.underlying147 rfl (by rw [info73]; simp [hs_len]) ?_)
      | (refine wpList_store_row rfl 45 (.tmp 2) (.tmp 32) rfl (r + 1) #[.int .u32 0, .int .u32 0, .int .u32 0] rfl rfl 45 _ (HH.out _ B0.out).2 (by kernel_rfl) rfl (three_one _ _ _) ?_)
      | fail)
    refine bodyPost_ret (results_row rfl _ _ (r + 1) 45 #[.int .u32 0, .int .u32 0, .int .u32 0] _ rfl (setRow_heap _ _ _ _ 45 (0, 0) (HH.out _ B0.out).2) Try.underlying45 rfl (by kernel_rfl)) rfl ?_
    refine ⟨?_, below_setRow (HI.out.1.trans (B0.out.mono (by have := HI.out.2; omega))) (Nat.le_succ r) _⟩
    rw [show headH H 0 = _ from if_neg (by rw [HV.out]; decide), show headH H 2 = _ from if_neg (by rw [HV.out]; decide), show headH H 4 = _ from if_neg (by rw [HV.out]; decide), HV.out]
    rfl
  | true =>
  cases h4 : (H 5 == ~~~H 4) with
  | false =>
    have HV := Lib.hid (valid4 h4)
    go_wp2_with (first
      | (go_at_call 110; refine (pright_any _ _ _).mono ?_; rintro e w5 ⟨rfl, hb⟩; have B0 := Lib.hid (B0.out.trans (hb.mono B0.out.size)); obtain ⟨⟨p0, p1⟩, ⟨p2, p3⟩, ⟨p4, p5⟩⟩ := HF.out _ B0.out; clear hb)
      | (go_at_call 88; refine (pairAt6 H _).mono ?_; rintro e w5 ⟨rfl, hb⟩; have B0 := Lib.hid (B0.out.trans (hb.mono B0.out.size)); obtain ⟨⟨p0, p1⟩, ⟨p2, p3⟩, ⟨p4, p5⟩⟩ := HF.out _ B0.out; clear hb)
      | (go_at_call 89; refine (pis_any (H 6) (H 7) comW _).mono ?_; rintro e w5 ⟨rfl, hb⟩; have B0 := Lib.hid (B0.out.trans (hb.mono B0.out.size)); obtain ⟨⟨p0, p1⟩, ⟨p2, p3⟩, ⟨p4, p5⟩⟩ := HF.out _ B0.out; clear hb)
      | (refine wpList_load_want (by rfl) 147 (.tmp 1) rfl r rfl 147 (hs H).toArray (0, 0) _ (HH.out _ B0.out).1 Try.underlying147 rfl (by rw [info73]; simp [hs_len]) ?_)
      | (refine wpList_store_row rfl 45 (.tmp 2) (.tmp 32) rfl (r + 1) #[.int .u32 0, .int .u32 0, .int .u32 0] rfl rfl 45 _ (HH.out _ B0.out).2 (by kernel_rfl) rfl (three_one _ _ _) ?_)
      | fail)
    refine bodyPost_ret (results_row rfl _ _ (r + 1) 45 #[.int .u32 0, .int .u32 0, .int .u32 0] _ rfl (setRow_heap _ _ _ _ 45 (0, 0) (HH.out _ B0.out).2) Try.underlying45 rfl (by kernel_rfl)) rfl ?_
    refine ⟨?_, below_setRow (HI.out.1.trans (B0.out.mono (by have := HI.out.2; omega))) (Nat.le_succ r) _⟩
    rw [show headH H 0 = _ from if_neg (by rw [HV.out]; decide), show headH H 2 = _ from if_neg (by rw [HV.out]; decide), show headH H 4 = _ from if_neg (by rw [HV.out]; decide), HV.out]
    rfl
  | true =>
  cases h6 : (H 6 == comW && H 7 == ~~~comW) with
  | false =>
    have HV := Lib.hid (valid6 h6)
    go_wp2_with (first
      | (go_at_call 110; refine (pright_any _ _ _).mono ?_; rintro e w5 ⟨rfl, hb⟩; have B0 := Lib.hid (B0.out.trans (hb.mono B0.out.size)); obtain ⟨⟨p0, p1⟩, ⟨p2, p3⟩, ⟨p4, p5⟩⟩ := HF.out _ B0.out; clear hb)
      | (go_at_call 88; refine (pairAt6 H _).mono ?_; rintro e w5 ⟨rfl, hb⟩; have B0 := Lib.hid (B0.out.trans (hb.mono B0.out.size)); obtain ⟨⟨p0, p1⟩, ⟨p2, p3⟩, ⟨p4, p5⟩⟩ := HF.out _ B0.out; clear hb)
      | (go_at_call 89; refine (pis_any (H 6) (H 7) comW _).mono ?_; rintro e w5 ⟨rfl, hb⟩; have B0 := Lib.hid (B0.out.trans (hb.mono B0.out.size)); obtain ⟨⟨p0, p1⟩, ⟨p2, p3⟩, ⟨p4, p5⟩⟩ := HF.out _ B0.out; clear hb)
      | (refine wpList_load_want (by rfl) 147 (.tmp 1) rfl r rfl 147 (hs H).toArray (0, 0) _ (HH.out _ B0.out).1 Try.underlying147 rfl (by rw [info73]; simp [hs_len]) ?_)
      | (refine wpList_store_row rfl 45 (.tmp 2) (.tmp 32) rfl (r + 1) #[.int .u32 0, .int .u32 0, .int .u32 0] rfl rfl 45 _ (HH.out _ B0.out).2 (by kernel_rfl) rfl (three_one _ _ _) ?_)
      | fail)
    refine bodyPost_ret (results_row rfl _ _ (r + 1) 45 #[.int .u32 0, .int .u32 0, .int .u32 0] _ rfl (setRow_heap _ _ _ _ 45 (0, 0) (HH.out _ B0.out).2) Try.underlying45 rfl (by kernel_rfl)) rfl ?_
    refine ⟨?_, below_setRow (HI.out.1.trans (B0.out.mono (by have := HI.out.2; omega))) (Nat.le_succ r) _⟩
    rw [show headH H 0 = _ from if_neg (by rw [HV.out]; decide), show headH H 2 = _ from if_neg (by rw [HV.out]; decide), show headH H 4 = _ from if_neg (by rw [HV.out]; decide), HV.out]
    rfl
  | true =>
    have HV := Lib.hid (validY h0 h2 h4 h6)
    go_wp2_with (first
      | (go_at_call 110; refine (pright_any _ _ _).mono ?_; rintro e w5 ⟨rfl, hb⟩; have B0 := Lib.hid (B0.out.trans (hb.mono B0.out.size)); obtain ⟨⟨p0, p1⟩, ⟨p2, p3⟩, ⟨p4, p5⟩⟩ := HF.out _ B0.out; clear hb)
      | (go_at_call 88; refine (pairAt6 H _).mono ?_; rintro e w5 ⟨rfl, hb⟩; have B0 := Lib.hid (B0.out.trans (hb.mono B0.out.size)); obtain ⟨⟨p0, p1⟩, ⟨p2, p3⟩, ⟨p4, p5⟩⟩ := HF.out _ B0.out; clear hb)
      | (go_at_call 89; refine (pis_any (H 6) (H 7) comW _).mono ?_; rintro e w5 ⟨rfl, hb⟩; have B0 := Lib.hid (B0.out.trans (hb.mono B0.out.size)); obtain ⟨⟨p0, p1⟩, ⟨p2, p3⟩, ⟨p4, p5⟩⟩ := HF.out _ B0.out; clear hb)
      | (refine wpList_load_want (by rfl) 147 (.tmp 1) rfl r rfl 147 (hs H).toArray (0, 0) _ (HH.out _ B0.out).1 Try.underlying147 rfl (by rw [info73]; simp [hs_len]) ?_)
      | (refine wpList_store_row rfl 45 (.tmp 2) (.tmp 39) rfl (r + 1) #[.int .u32 (w32 (H 0)), .int .u32 (w32 (H 2)), .int .u32 (w32 (H 4))] rfl rfl 45 _ (HH.out _ B0.out).2 (by kernel_rfl) rfl (three_one _ _ _) ?_)
      | fail)
    refine bodyPost_ret (results_row rfl _ _ (r + 1) 45 #[.int .u32 (w32 (H 0)), .int .u32 (w32 (H 2)), .int .u32 (w32 (H 4))] _ rfl (setRow_heap _ _ _ _ 45 (0, 0) (HH.out _ B0.out).2) Try.underlying45 rfl (by kernel_rfl)) rfl ?_
    refine ⟨?_, below_setRow (HI.out.1.trans (B0.out.mono (by have := HI.out.2; omega))) (Nat.le_succ r) _⟩
    rw [show headH H 0 = _ from if_pos HV.out, show headH H 2 = _ from if_pos HV.out, show headH H 4 = _ from if_pos HV.out, HV.out]
    rfl
end Go.Proofs.Ythpagbfabpfngaa
