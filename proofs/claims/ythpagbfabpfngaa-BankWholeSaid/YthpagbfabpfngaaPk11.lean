/- Several texts in one: HK, HM, Coll, Vary. -/
import Derived.Test.YthpagbfabpfngaaPk10
import Derived.RecoverIn
import Derived.TacticsInMore
import Derived.RegionIn
import Derived.LoopNIn
import Derived.LoopIn
import Derived.Shelf.Abstract
import Derived.Shelf.RegionOpen
import Derived.Sort.LoopGhostIn
import Derived.Test.YthpagbfabpfngaaPk02
import Derived.Maps.AppendAt
import Derived.Deep.RegionLaw
/- The contracts of pairs and of what it hands back; of Writes, Commits and Confirms. -/
namespace Go.Proofs.Ythpagbfabpfngaa
open Go.RowKit

/-- What is known while a pair is laid, whichever came up. -/
structure PrI (w3 : World) (i : Nat) (at_ : Int) (x : BitVec 32) (d : Nat → Bool) (w : World) (x6 x7 x15 x16 x17 x18 x19 x20 : Value) : Prop where
  below : Below w3.heap.size w3 w
  v0 : d 0 = true → x15 = .int .u32 (w32 x)
  v1 : d 1 = true → x16 = .agg #[.int .u32 (w32 x), .int .u32 (w32 (~~~x))]
  v2 : d 2 = true → x17 = .int .i64 at_
  v3 : d 3 = true → x18 = .int .i64 (i : Nat)
  v4 : d 4 = true → x19 = .int .i64 (2 * (i : Int))
  v5 : d 5 = true → x20 = .int .i64 (at_ + 2 * (i : Int))
  v8 : d 8 = true → x7 = .int .i64 (at_ + 2 * (i : Int))
  a6 : d 6 = true → VarAt w w3.heap.size x6 152 (if d 7 = true then #[.int .u32 (w32 x), .int .u32 (w32 (~~~x))] else #[.int .u32 0, .int .u32 0])
  s7 : d 7 = true → d 6 = true
set_option maxHeartbeats 2000000 in
set_option maxRecDepth 100000 in
theorem pairsR {Q : Exit → Act → World → Prop} (w3 : World) (BA i : Nat) (at_ : Int) (x : BitVec 32) (hA : w3.cell? ⟨BA, 0, none⟩ = some (.int .i64 at_)) (h1 : 0 ≤ at_ ∧ at_ ≤ 1000) (h2 : i ≤ 1000) {y0 y1 y3 y6 y7 y8 y9 y10 y11 y12 y13 y14 y15 y16 y17 y18 y19 y20 y21 y22 y23 y24 y25 y26 y27 y28 y29 y30 y31 y32 y33 y34 y35 y36 y37 y38 : Value}
    (hK : ∀ (x6 x7 x15 x16 x17 x18 x19 x20 : Value) (w : World), PrI w3 i at_ x (fun _ => true) w x6 x7 x15 x16 x17 x18 x19 x20 → Q .normal { tmps := #[y0, y1, .pointer (some ⟨BA, 0, none⟩), y3, .int .i64 (i : Nat), .int .u32 (w32 x), x6, x7, y8, y9, y10, y11, y12, y13, y14, x15, x16, x17, x18, x19, x20, y21, y22, y23, y24, y25, y26, y27, y28, y29, y30, y31, y32, y33, y34, y35, y36, y37, y38], defers := [] } w) :
    (Code.region 3 #[{ dst := some 15, op := .move (.tmp 5), type := 26, pos := "header.go:48", after := #[], guard := none }, { dst := some 16, op := .call { callee := .value (.func 111), args := #[.tmp 15], argTypes := #[26] }, type := 152, pos := "header.go:48", after := #[{ on := 0, ground := .data }], guard := none }, { dst := some 17, op := .load 3 (.tmp 2), type := 3, pos := "header.go:48", after := #[{ on := 7, ground := .gcOnly Go.Departure.lateStores }], guard := none }, { dst := some 18, op := .move (.tmp 4), type := 3, pos := "header.go:48", after := #[{ on := 7, ground := .gcOnly Go.Departure.lateStores }], guard := none }, { dst := some 19, op := .binOp .mul 3 (.const (.int .i64 2)) (.tmp 18) 3, type := 3, pos := "header.go:48", after := #[{ on := 3, ground := .data }, { on := 7, ground := .gcOnly Go.Departure.lateStores }], guard := none }, { dst := some 20, op := .binOp .add 3 (.tmp 17) (.tmp 19) 3, type := 3, pos := "header.go:48", after := #[{ on := 2, ground := .data }, { on := 4, ground := .data }, { on := 7, ground := .gcOnly Go.Departure.lateStores }], guard := none }, { dst := some 6, op := .alloc 152, type := 0, pos := "header.go:48", after := #[], guard := none }, { dst := none, op := .store 152 (.tmp 6) (.tmp 16), type := 0, pos := "header.go:48", after := #[{ on := 6, ground := .data }, { on := 1, ground := .data }, { on := 1, ground := .chain }, { on := 0, ground := .phase }, { on := 1, ground := .phase }, { on := 2, ground := .textOnly Go.Departure.lateStores }, { on := 3, ground := .textOnly Go.Departure.lateStores }, { on := 4, ground := .textOnly Go.Departure.lateStores }, { on := 5, ground := .textOnly Go.Departure.lateStores }, { on := 6, ground := .phase }], guard := none }, { dst := some 7, op := .assign (.tmp 20), type := 3, pos := "header.go:48", after := #[{ on := 5, ground := .data }, { on := 7, ground := .chain }, { on := 0, ground := .phase }, { on := 1, ground := .phase }, { on := 2, ground := .phase }, { on := 3, ground := .phase }, { on := 4, ground := .phase }, { on := 5, ground := .phase }, { on := 6, ground := .phase }, { on := 7, ground := .phase }], guard := none }] true).wp Try.prog Q { tmps := #[y0, y1, .pointer (some ⟨BA, 0, none⟩), y3, .int .i64 (i : Nat), .int .u32 (w32 x), y6, y7, y8, y9, y10, y11, y12, y13, y14, y15, y16, y17, y18, y19, y20, y21, y22, y23, y24, y25, y26, y27, y28, y29, y30, y31, y32, y33, y34, y35, y36, y37, y38], defers := [] } w3 := by
  have hBA : BA < w3.heap.size := by have := World.block_lt_of_cell? w3 _ hA; simpa using this
  have k1 : IntKind.i64.wrap (2 * (i : Int)) = 2 * (i : Int) := by rw [IntKind.wrap_i64]; omega
  have k2 : IntKind.i64.wrap (at_ + 2 * (i : Int)) = at_ + 2 * (i : Int) := by rw [IntKind.wrap_i64]; omega
  refine wp_region_inv (fun d a w => ∃ x6 x7 x15 x16 x17 x18 x19 x20 : Value, a = { tmps := #[y0, y1, .pointer (some ⟨BA, 0, none⟩), y3, .int .i64 (i : Nat), .int .u32 (w32 x), x6, x7, y8, y9, y10, y11, y12, y13, y14, x15, x16, x17, x18, x19, x20, y21, y22, y23, y24, y25, y26, y27, y28, y29, y30, y31, y32, y33, y34, y35, y36, y37, y38], defers := [] } ∧ PrI w3 i at_ x d w x6 x7 x15 x16 x17 x18 x19 x20) (by kernel_rfl) (by kernel_rfl) ?_ ?_ ?_
  · exact ⟨_, _, _, _, _, _, _, _, rfl, ⟨(Below.refl _ _).drew, nofun, nofun, nofun, nofun, nofun, nofun, nofun, nofun, nofun⟩⟩
  · rintro d a w hd ⟨x6, x7, x15, x16, x17, x18, x19, x20, rfl, hI⟩
    refine hK x6 x7 x15 x16 x17 x18 x19 x20 w ⟨hI.below, fun _ => hI.v0 (hd 0 (by decide)), fun _ => hI.v1 (hd 1 (by decide)), fun _ => hI.v2 (hd 2 (by decide)), fun _ => hI.v3 (hd 3 (by decide)), fun _ => hI.v4 (hd 4 (by decide)), fun _ => hI.v5 (hd 5 (by decide)), fun _ => hI.v8 (hd 8 (by decide)), fun _ => ?_, fun _ => rfl⟩
    have := hI.a6 (hd 6 (by decide)); rw [hd 7 (by decide)] at this; exact this
  · rintro i' o d a w ho ⟨x6, x7, x15, x16, x17, x18, x19, x20, rfl, hI⟩ hd0 hall K' hK'
    have hi : i' < 9 := (Array.getElem?_eq_some_iff.1 ho).1
    obtain rfl | rfl | rfl | rfl | rfl | rfl | rfl | rfl | rfl : i' = 0 ∨ i' = 1 ∨ i' = 2 ∨ i' = 3 ∨ i' = 4 ∨ i' = 5 ∨ i' = 6 ∨ i' = 7 ∨ i' = 8 := by omega
    · injection (show some ({ dst := some 15, op := .move (.tmp 5), type := 26, pos := "header.go:48", after := #[], guard := none } : Oper) = some o from ho) with ho; subst ho
      go_simp
      exact hK'.out _ _ ⟨x6, x7, _, x16, x17, x18, x19, x20, rfl, hI.below, fun _ => rfl, fun h => hI.v1 h, fun h => hI.v2 h, fun h => hI.v3 h, fun h => hI.v4 h, fun h => hI.v5 h, fun h => hI.v8 h, fun h => hI.a6 h, fun h => hI.s7 h⟩
    · injection (show some ({ dst := some 16, op := .call { callee := .value (.func 111), args := #[.tmp 15], argTypes := #[26] }, type := 152, pos := "header.go:48", after := #[{ on := 0, ground := .data }], guard := none } : Oper) = some o from ho) with ho; subst ho
      obtain rfl := hI.v0 (hall ⟨0, .data⟩ (by simp) rfl)
      go_simp
      refine (pof_any x _).mono ?_
      rintro e w5 ⟨rfl, hw5⟩
      have hb : Below w.heap.size w w5 := by rw [hw5]; exact (Below.refl _ _).alloc (Nat.le_refl _) _
      clear hw5
      try dsimp only
      exact hK'.out _ _ ⟨x6, x7, _, _, x17, x18, x19, x20, rfl, hI.below.trans (hb.mono hI.below.size), fun h => hI.v0 h, fun _ => rfl, fun h => hI.v2 h, fun h => hI.v3 h, fun h => hI.v4 h, fun h => hI.v5 h, fun h => hI.v8 h, fun h => (hI.a6 h).new hb, fun h => hI.s7 h⟩
    · injection (show some ({ dst := some 17, op := .load 3 (.tmp 2), type := 3, pos := "header.go:48", after := #[{ on := 7, ground := .gcOnly Go.Departure.lateStores }], guard := none } : Oper) = some o from ho) with ho; subst ho
      have hc : w.cell? ⟨BA, 0, none⟩ = some (.int .i64 at_) := (hI.below.cell (p := ⟨BA, 0, none⟩) hBA).trans hA
      go_simp
      exact hK'.out _ _ ⟨x6, x7, x15, x16, _, x18, x19, x20, rfl, hI.below, fun h => hI.v0 h, fun h => hI.v1 h, fun _ => rfl, fun h => hI.v3 h, fun h => hI.v4 h, fun h => hI.v5 h, fun h => hI.v8 h, fun h => hI.a6 h, fun h => hI.s7 h⟩
    · injection (show some ({ dst := some 18, op := .move (.tmp 4), type := 3, pos := "header.go:48", after := #[{ on := 7, ground := .gcOnly Go.Departure.lateStores }], guard := none } : Oper) = some o from ho) with ho; subst ho
      go_simp
      exact hK'.out _ _ ⟨x6, x7, x15, x16, x17, _, x19, x20, rfl, hI.below, fun h => hI.v0 h, fun h => hI.v1 h, fun h => hI.v2 h, fun _ => rfl, fun h => hI.v4 h, fun h => hI.v5 h, fun h => hI.v8 h, fun h => hI.a6 h, fun h => hI.s7 h⟩
    · injection (show some ({ dst := some 19, op := .binOp .mul 3 (.const (.int .i64 2)) (.tmp 18) 3, type := 3, pos := "header.go:48", after := #[{ on := 3, ground := .data }, { on := 7, ground := .gcOnly Go.Departure.lateStores }], guard := none } : Oper) = some o from ho) with ho; subst ho
      obtain rfl := hI.v3 (hall ⟨3, .data⟩ (by simp) rfl)
      go_simp
      exact hK'.out _ _ ⟨x6, x7, x15, x16, x17, _, _, x20, rfl, hI.below, fun h => hI.v0 h, fun h => hI.v1 h, fun h => hI.v2 h, fun h => hI.v3 h, fun _ => rfl, fun h => hI.v5 h, fun h => hI.v8 h, fun h => hI.a6 h, fun h => hI.s7 h⟩
    · injection (show some ({ dst := some 20, op := .binOp .add 3 (.tmp 17) (.tmp 19) 3, type := 3, pos := "header.go:48", after := #[{ on := 2, ground := .data }, { on := 4, ground := .data }, { on := 7, ground := .gcOnly Go.Departure.lateStores }], guard := none } : Oper) = some o from ho) with ho; subst ho
      obtain rfl := hI.v2 (hall ⟨2, .data⟩ (by simp) rfl)
      obtain rfl := hI.v4 (hall ⟨4, .data⟩ (by simp) rfl)
      go_simp
      exact hK'.out _ _ ⟨x6, x7, x15, x16, _, x18, _, _, rfl, hI.below, fun h => hI.v0 h, fun h => hI.v1 h, fun h => hI.v2 h, fun h => hI.v3 h, fun h => hI.v4 h, fun _ => rfl, fun h => hI.v8 h, fun h => hI.a6 h, fun h => hI.s7 h⟩
    · injection (show some ({ dst := some 6, op := .alloc 152, type := 0, pos := "header.go:48", after := #[], guard := none } : Oper) = some o from ho) with ho; subst ho
      have hN : ¬ d 7 = true := fun h => by have := hI.s7 h; rw [hd0] at this; cases this
      go_simp
      exact hK'.out _ _ ⟨_, x7, x15, x16, x17, x18, x19, x20, rfl, hI.below.alloc hI.below.size _, fun h => hI.v0 h, fun h => hI.v1 h, fun h => hI.v2 h, fun h => hI.v3 h, fun h => hI.v4 h, fun h => hI.v5 h, fun h => hI.v8 h, fun _ => ⟨w.heap.size, rfl, hI.below.size, by rw [if_neg (by show ¬ d 7 = true; exact hN)]; exact RowAt.mk w 152 _⟩, fun _ => rfl⟩
    · injection (show some ({ dst := none, op := .store 152 (.tmp 6) (.tmp 16), type := 0, pos := "header.go:48", after := #[{ on := 6, ground := .data }, { on := 1, ground := .data }, { on := 1, ground := .chain }, { on := 0, ground := .phase }, { on := 1, ground := .phase }, { on := 2, ground := .textOnly Go.Departure.lateStores }, { on := 3, ground := .textOnly Go.Departure.lateStores }, { on := 4, ground := .textOnly Go.Departure.lateStores }, { on := 5, ground := .textOnly Go.Departure.lateStores }, { on := 6, ground := .phase }], guard := none } : Oper) = some o from ho) with ho; subst ho
      have h6 : d 6 = true := hall ⟨6, .data⟩ (by simp) rfl
      obtain ⟨b, rfl, hbb, hr⟩ := hI.a6 h6
      obtain rfl := hI.v1 (hall ⟨1, .data⟩ (by simp) rfl)
      rw [if_pos (by rfl)]
      refine wp_store_row 152 (.tmp 6) (.tmp 16) rfl b #[.int .u32 (w32 x), .int .u32 (w32 (~~~x))] rfl rfl 152 _ hr (by kernel_rfl) (by split <;> rfl) (pair_one _ _) ?_
      exact hK'.out _ _ ⟨_, x7, x15, _, x17, x18, x19, x20, rfl, below_setRow hI.below hbb _, fun h => hI.v0 h, fun h => hI.v1 h, fun h => hI.v2 h, fun h => hI.v3 h, fun h => hI.v4 h, fun h => hI.v5 h, fun h => hI.v8 h, fun _ => ⟨b, rfl, hbb, hr.put⟩, fun _ => h6⟩
    · injection (show some ({ dst := some 7, op := .assign (.tmp 20), type := 3, pos := "header.go:48", after := #[{ on := 5, ground := .data }, { on := 7, ground := .chain }, { on := 0, ground := .phase }, { on := 1, ground := .phase }, { on := 2, ground := .phase }, { on := 3, ground := .phase }, { on := 4, ground := .phase }, { on := 5, ground := .phase }, { on := 6, ground := .phase }, { on := 7, ground := .phase }], guard := none } : Oper) = some o from ho) with ho; subst ho
      obtain rfl := hI.v5 (hall ⟨5, .data⟩ (by simp) rfl)
      go_simp
      exact hK'.out _ _ ⟨x6, _, x15, x16, x17, x18, x19, _, rfl, hI.below, fun h => hI.v0 h, fun h => hI.v1 h, fun h => hI.v2 h, fun h => hI.v3 h, fun h => hI.v4 h, fun h => hI.v5 h, fun _ => rfl, fun h => hI.a6 h, fun h => hI.s7 h⟩

theorem pairs_any (v : Value) (at_ : Int) (hv : ∃ sp n c, v = .slice sp n c) (w : World) : Calls Try.prog 109 #[.int .i64 at_, v] w fun e w' =>
    e = .returned (.func (.func 124) #[] #[.pointer (some ⟨w.heap.size + 1, 0, none⟩), .pointer (some ⟨w.heap.size, 0, none⟩)]) ∧ w' = (w.alloc (.cells #[.int .i64 at_] 3)).alloc (.cells #[v] 24) := by
  have hmf : ∀ (fn : Fn) (first cap : Array Value) (w : World), (Instr.makeFunc fn first cap).run Try.prog w = .ok (.func fn first cap) w := fun _ _ _ _ => rfl
  obtain ⟨sp, n, c, rfl⟩ := hv
  go_enter Try.func109, Try.ntmps109
  go_wp2
  go_ret
  exact ⟨rfl, rfl⟩

theorem Foot.keepBelow {F : World → Nat → Prop} {I : World → Prop} (f : Foot F I) {W W' : World} (h : I W) (hb : Below W.heap.size W W') : I W' ∧ ∀ j, F W' j → F W j := f.keep W _ h (Off.new hb)
/-- The words that pairs go through. -/
def wrW (l : Nat → BitVec 32) (k : Nat) : BitVec 32 := if k % 2 = 0 then l (k / 2) else ~~~l (k / 2)
def wrA (at_ : Int) (l : Nat → BitVec 32) (k : Nat) : Array Value := #[.agg #[.int .i64 (at_ + (k : Int)), .int .u32 (w32 (wrW l k))]]
theorem wrA0 (at_ : Int) (l : Nat → BitVec 32) (i : Nat) : wrA at_ l (2 * i) = #[.agg #[.int .i64 (at_ + 2 * (i : Int)), .int .u32 (w32 (l i))]] := by
  unfold wrA wrW
  rw [if_pos (by omega), show 2 * i / 2 = i by omega, show at_ + ((2 * i : Nat) : Int) = at_ + 2 * (i : Int) by omega]
theorem wrA1 (at_ : Int) (l : Nat → BitVec 32) (i : Nat) : wrA at_ l (2 * i + 1) = #[.agg #[.int .i64 (at_ + 2 * (i : Int) + 1), .int .u32 (w32 (~~~l i))]] := by
  unfold wrA wrW
  rw [if_neg (by omega), show (2 * i + 1) / 2 = i by omega, show at_ + ((2 * i + 1 : Nat) : Int) = at_ + 2 * (i : Int) + 1 by omega]
attribute [local go_sem] Oper.semAt_some
set_option maxHeartbeats 2000000 in
set_option maxRecDepth 100000 in
theorem pairs_in (l0 BS BA n b off cap : Nat) (at_ : Int) (sp : Option Addr) (l : Nat → BitVec 32) (F : World → Nat → Prop) (J Jx : Nat → World → Prop) (W : World) (h1 : 0 ≤ at_ ∧ at_ ≤ 1000) (hn : n ≤ 1000)
    (hC : ∀ k W', J k W' → W'.cell? ⟨BS, 0, none⟩ = some (.slice sp n cap) ∧ W'.cell? ⟨BA, 0, none⟩ = some (.int .i64 at_) ∧ Ws W' sp b off n l)
    (hR : RoundsF Try.prog l0 (2 * n) (wrA at_ l) F J Jx) (fJ : ∀ k, Foot F (J k)) (h0 : J 0 W) :
    Iter Try.prog 124 #[.pointer (some ⟨BS, 0, none⟩), .pointer (some ⟨BA, 0, none⟩)] l0 (2 * n) J Jx W := by
  refine callsIn_of_wp Try.func124 rfl trivial ?_ rfl
  simp only [Try.ntmps124, List.size_toArray, List.length_cons, List.length_nil, Nat.reduceAdd, Nat.reduceSub, Array.replicate_succ, Array.replicate_zero, List.push_toArray, List.append_toArray, List.nil_append, List.cons_append]
  have HJ := Lib.hid (And.intro fJ (And.intro h0 (And.intro hR hC)))
  have c0 := (hC 0 W h0).1
  clear fJ h0 hR hC
  gi_wp2
  gi_loopg [10] n (fun m v wr => ∃ i : Nat, i + m = n ∧ v = .int .i64 (i : Nat) ∧ Aside (J (2 * i) wr))
  case atStart => exact ⟨0, by omega, rfl, HJ.out.2.1⟩
  case round =>
    obtain ⟨i, him, rfl, HA⟩ := hrel
    cases gk with
    | zero =>
      obtain rfl : i = n := by omega
      gi_wp2
      go_end0
      exact ⟨⟨_, rfl⟩, .inl HA.out⟩
    | succ m1 =>
      have hlt : i < n := by omega
      obtain ⟨-, cA, hW⟩ := HJ.out.2.2.2 _ _ HA.out
      obtain ⟨rfl, -⟩ := hW.sp (by omega)
      have hc := hW.cell i hlt
      have HCA := Lib.hid cA
      have k3 : IntKind.i64.wrap (at_ + 2 * (i : Int) + 1) = at_ + 2 * (i : Int) + 1 := by rw [IntKind.wrap_i64]; omega
      clear c0 cA hW
      gi_wp2
      refine wpIn_wide.2 (pairsR wr BA i at_ (l i) HCA.out h1 (by omega) ?_)
      rintro x6 x7 x15 x16 x17 x18 x19 x20 w5 hI
      obtain rfl := hI.v0 rfl
      obtain rfl := hI.v1 rfl
      obtain rfl := hI.v2 rfl
      obtain rfl := hI.v3 rfl
      obtain rfl := hI.v4 rfl
      obtain rfl := hI.v5 rfl
      obtain rfl := hI.v8 rfl
      obtain ⟨b6, rfl, hb6, r6⟩ := hI.a6 rfl
      have hk5 := Foot.keepBelow (HJ.out.1 (2 * i)) HA.out hI.below
      have hnF : ¬ F w5 b6 := fun hf => by
        have := (HJ.out.1 (2 * i)).lt wr HA.out b6 (hk5.2 b6 hf)
        omega
      have p0 : w5.cell? ⟨b6, 0, none⟩ = some (.int .u32 (w32 (l i))) := r6.cell 0
      have p1 : w5.cell? ⟨b6, 1, none⟩ = some (.int .u32 (w32 (~~~l i))) := r6.cell 1
      have HP := Lib.hid (And.intro p1 hnF)
      obtain ⟨fn, tmps, assign, body, hyd, hRo⟩ := HJ.out.2.2.1 (2 * i) w5 hk5.1 (by omega)
      rw [wrA0] at hyd
      clear hI r6 hb6 hk5 hnF p1 hc
      gi_wp2
      refine ⟨rfl, hRo.mono ?_⟩
      rintro e W3 (⟨rfl, hJ3, hs3⟩ | ⟨rfl, hJx3, -⟩)
      · have p1 := hs3.1.cell (p := ⟨b6, 1, none⟩) HP.out.1 HP.out.2
        have H3 := Lib.hid hJ3
        clear hJ3 hs3 hyd hRo p0
        obtain ⟨fn2, tmps2, assign2, body2, hyd2, hRo2⟩ := HJ.out.2.2.1 (2 * i + 1) W3 H3.out (by omega)
        rw [wrA1] at hyd2
        gi_wp2
        refine ⟨rfl, hRo2.mono ?_⟩
        rintro e W4 (⟨rfl, hJ4, -⟩ | ⟨rfl, hJx4, -⟩)
        · have H4 := Lib.hid hJ4
          clear hJ4 hyd2 hRo2 p1
          gi_wp2
          go_roundg m1
          case measure => omega
          case rel => exact ⟨i + 1, by omega, by go_num, by rw [show 2 * (i + 1) = 2 * i + 1 + 1 by omega]; exact H4.out⟩
        · have H4 := Lib.hid hJx4
          clear hJx4 hyd2 hRo2 p1
          gi_wp2
          refine bodyPost_ret (results_none rfl _ _ _) rfl ?_
          exact ⟨⟨_, rfl⟩, .inr ⟨2 * i + 1 + 1, by omega, H4.out⟩⟩
      · have H3 := Lib.hid hJx3
        clear hJx3 hyd hRo p0
        gi_wp2
        refine ⟨fun _ h => (nomatch h), ?_⟩
        gi_wp2
        refine bodyPost_ret (results_none rfl _ _ _) rfl ?_
        exact ⟨⟨_, rfl⟩, .inr ⟨2 * i + 1, by omega, H3.out⟩⟩
end Go.Proofs.Ythpagbfabpfngaa
/- The contracts of Writes, Commits and Confirms; what the law's lists of them are. -/
namespace Go.Proofs.Ythpagbfabpfngaa
open Go.RowKit

/-- What pairs handed back: it goes through the pairs of so many words, from a place on. -/
def Gives (lo : Nat) (w : World) (v : Value) (n : Nat) (at_ : Int) (l : Nat → BitVec 32) : Prop := ∃ BS BA b off cap sp, v = .func (.func 124) #[] #[.pointer (some ⟨BS, 0, none⟩), .pointer (some ⟨BA, 0, none⟩)] ∧ (lo ≤ BS ∧ lo ≤ BA ∧ lo ≤ b) ∧
  w.cell? ⟨BS, 0, none⟩ = some (.slice sp n cap) ∧ w.cell? ⟨BA, 0, none⟩ = some (.int .i64 at_) ∧ Ws w sp b off n l
theorem pairs_give {sp : Option Addr} {b off n cap : Nat} {l : Nat → BitVec 32} (at_ : Int) (w : World) (lo : Nat) (hlo : lo ≤ w.heap.size ∧ lo ≤ b) (hW : Ws w sp b off n l) : Calls Try.prog 109 #[.int .i64 at_, .slice sp n cap] w fun e w' => ∃ v, e = .returned v ∧ Gives lo w' v n at_ l ∧ Below w.heap.size w w' := by
  refine (pairs_any _ at_ ⟨_, _, _, rfl⟩ w).mono ?_
  rintro e w' ⟨rfl, rfl⟩
  have hb := ((Below.refl w.heap.size w).alloc (Nat.le_refl _) (.cells #[.int .i64 at_] 3)).alloc (by simp) (.cells #[.slice sp n cap] 24)
  refine ⟨_, rfl, ⟨w.heap.size + 1, w.heap.size, b, off, cap, sp, rfl, ⟨by omega, by omega, hlo.2⟩, ?_, ?_, hW.new hb⟩, hb⟩
  · have := BoxAt.mk_new (w.alloc (.cells #[.int .i64 at_] 3)) #[.slice sp n cap] 24
    rw [World.size_alloc] at this
    exact this.cell 0 _ rfl
  · exact ((BoxAt.mk_new w #[.int .i64 at_] 3).alloc _).cell 0 _ rfl
def hdW (s l c : BitVec 32) : Nat → BitVec 32
  | 0 => s | 1 => l | _ => c
set_option maxHeartbeats 1000000 in
theorem writes_any (s l c : BitVec 32) (w : World) : Calls Try.prog 81 #[.agg #[.int .u32 (w32 s), .int .u32 (w32 l), .int .u32 (w32 c)]] w fun e w' => ∃ v, e = .returned v ∧ Gives w.heap.size w' v 3 0 (hdW s l c) ∧ Below w.heap.size w w' := by
  obtain ⟨w1, hw1⟩ : ∃ w1, w1 = w.alloc (.cells #[.int .u32 (w32 s), .int .u32 (w32 l), .int .u32 (w32 c)] 45) := ⟨_, rfl⟩
  obtain ⟨w2, hw2⟩ : ∃ w2, w2 = w1.alloc (.cells #[.int .u32 (w32 s), .int .u32 (w32 l), .int .u32 (w32 c)] 26) := ⟨_, rfl⟩
  have s1 : w1.heap.size = w.heap.size + 1 := by rw [hw1]; simp
  have x2 : RowAt w2 (w.heap.size + 1) 26 #[.int .u32 (w32 s), .int .u32 (w32 l), .int .u32 (w32 c)] := by rw [hw2, ← s1]; exact RowAt.mk w1 _ _
  have hW : Ws w2 (some ⟨w.heap.size + 1, 0, none⟩) (w.heap.size + 1) 0 3 (hdW s l c) := ⟨fun _ => ⟨rfl, x2.lt⟩, fun k hk => by
    rw [Nat.zero_add, x2.cell k]
    obtain rfl | rfl | rfl : k = 0 ∨ k = 1 ∨ k = 2 := by omega
    all_goals rfl⟩
  have b2 : Below w.heap.size w w2 := by rw [hw2, hw1]; exact ((Below.refl _ _).alloc (Nat.le_refl _) _).alloc (by simp) _
  have HP := Lib.hid (pairs_give (cap := 3) 0 w2 w.heap.size ⟨b2.size, by omega⟩ hW)
  have HB := Lib.hid b2
  clear x2 hW b2 s1
  go_enter Try.func81, Try.ntmps81
  go_wp2_with fail
  rw [← hw1, ← hw2]
  clear hw1 hw2
  refine HP.out.mono ?_
  rintro e w3 ⟨v, rfl, hg, hb⟩
  have HG := Lib.hid (And.intro hg (HB.out.trans (hb.mono HB.out.size)))
  obtain ⟨BS, BA, _, _, _, _, rfl, _⟩ := hg
  clear hb
  go_wp2
  go_ret
  exact ⟨_, rfl, HG.out⟩
theorem commits_any (w : World) : Calls Try.prog 82 #[] w fun e w' => ∃ v, e = .returned v ∧ Gives w.heap.size w' v 1 6 (fun _ => comW) ∧ Below w.heap.size w w' := by
  obtain ⟨w2, hw2⟩ : ∃ w2, w2 = w.alloc (.cells #[.int .u32 1668246893] 26) := ⟨_, rfl⟩
  have x2 : RowAt w2 w.heap.size 26 #[.int .u32 (w32 comW)] := by rw [hw2, comW_int]; exact RowAt.mk w _ _
  have hW : Ws w2 (some ⟨w.heap.size, 0, none⟩) w.heap.size 0 1 (fun _ => comW) := ⟨fun _ => ⟨rfl, x2.lt⟩, fun k hk => by
    rw [Nat.zero_add, x2.cell k]
    obtain rfl : k = 0 := by omega
    rfl⟩
  have b2 : Below w.heap.size w w2 := by rw [hw2]; exact (Below.refl _ _).alloc (Nat.le_refl _) _
  have HP := Lib.hid (pairs_give (cap := 1) 6 w2 w.heap.size ⟨b2.size, by omega⟩ hW)
  have HB := Lib.hid b2
  clear x2 hW b2
  go_enter Try.func82, Try.ntmps82
  go_wp2_with fail
  rw [← hw2]
  clear hw2
  refine HP.out.mono ?_
  rintro e w3 ⟨v, rfl, hg, hb⟩
  have HG := Lib.hid (And.intro hg (HB.out.trans (hb.mono HB.out.size)))
  obtain ⟨BS, BA, _, _, _, _, rfl, _⟩ := hg
  clear hb
  go_wp2
  go_ret
  exact ⟨_, rfl, HG.out⟩
theorem confirms_any (w : World) : Calls Try.prog 100 #[] w fun e w' => ∃ v, e = .returned v ∧ Gives w.heap.size w' v 1 8 (fun _ => conW) ∧ Below w.heap.size w w' := by
  obtain ⟨w2, hw2⟩ : ∃ w2, w2 = w.alloc (.cells #[.int .u32 1668247142] 26) := ⟨_, rfl⟩
  have x2 : RowAt w2 w.heap.size 26 #[.int .u32 (w32 conW)] := by rw [hw2, conW_int]; exact RowAt.mk w _ _
  have hW : Ws w2 (some ⟨w.heap.size, 0, none⟩) w.heap.size 0 1 (fun _ => conW) := ⟨fun _ => ⟨rfl, x2.lt⟩, fun k hk => by
    rw [Nat.zero_add, x2.cell k]
    obtain rfl : k = 0 := by omega
    rfl⟩
  have b2 : Below w.heap.size w w2 := by rw [hw2]; exact (Below.refl _ _).alloc (Nat.le_refl _) _
  have HP := Lib.hid (pairs_give (cap := 1) 8 w2 w.heap.size ⟨b2.size, by omega⟩ hW)
  have HB := Lib.hid b2
  clear x2 hW b2
  go_enter Try.func100, Try.ntmps100
  go_wp2_with fail
  rw [← hw2]
  clear hw2
  refine HP.out.mono ?_
  rintro e w3 ⟨v, rfl, hg, hb⟩
  have HG := Lib.hid (And.intro hg (HB.out.trans (hb.mono HB.out.size)))
  obtain ⟨BS, BA, _, _, _, _, rfl, _⟩ := hg
  clear hb
  go_wp2
  go_ret
  exact ⟨_, rfl, HG.out⟩
end Go.Proofs.Ythpagbfabpfngaa
/- Plain lemmas of this prover's own: a loop over a function that collects what it goes through into a row that a variable names: what it owns, what it keeps. No statement about the program. -/
namespace Go.Proofs.Ythpagbfabpfngaa
open Go.RowKit

/-- What the collecting loop owns: all that was there before it, its variable, and the row that the variable names. -/
def FC (Oc : Nat) (W : World) (j : Nat) : Prop := j < Oc ∨ j = Oc ∨ ∃ v, W.cell? ⟨Oc, 0, none⟩ = some v ∧ v.ownBlock = some j
/-- k elements (of size cells each, of type e) are collected: they are rf k; m is how many elements that makes. -/
def IC (e : TypeId) (size : Nat) (rf : Nat → List Value) (w0 : World) (Oc : Nat) (k : Nat) (W : World) : Prop :=
  Below Oc w0 W ∧ ∃ v, W.cell? ⟨Oc, 0, none⟩ = some v ∧ W.frozen? ⟨Oc, 0, none⟩ = false ∧ W.ownsRow (Oc + 1) e size v k (rf k)
section
variable {e : TypeId} {size : Nat} {rf : Nat → List Value}
theorem IC.foot {w0 : World} {Oc : Nat} (hs : Oc ≤ w0.heap.size) (k : Nat) : Foot (FC Oc) (IC e size rf w0 Oc k) where
  lt := fun W ⟨h2, v, h3, _, h5⟩ j hj => by
    rcases hj with hj | rfl | ⟨v', hv, hj⟩
    · have := h2.size; omega
    · exact World.block_lt_of_cell? W _ h3
    · rw [h3] at hv; injection hv with hv; subst hv
      exact (h5.lt j hj).2
  keep := fun W W' ⟨h2, v, h3, h4, h5⟩ hc => by
    have nO : ¬ ¬ FC Oc W Oc := fun hn => hn (.inr (.inl rfl))
    have e3 : W'.cell? ⟨Oc, 0, none⟩ = some v := hc.cell h3 nO
    refine ⟨⟨h2.trans (Ch.below hc (fun j hj hn => hn (.inl hj)) (by have := h2.size; omega)), v, e3, (hc.frozenCell h3 nO).trans h4,
      own_same h5 fun g hg => hc.block g (h5.lt g hg).2 fun hn => hn (.inr (.inr ⟨v, h3, hg⟩))⟩, fun j hj => ?_⟩
    rcases hj with hj | hj | ⟨v', hv, hj⟩
    · exact .inl hj
    · exact .inr (.inl hj)
    · rw [e3] at hv; injection hv with hv; subst hv
      exact .inr (.inr ⟨v, h3, hj⟩)
theorem grow_cell {A w1 : World} {Oc : Nat} {v : Value} {n : Nat} {xs : List Value} {ob : Obj} (h3 : A.cell? ⟨Oc, 0, none⟩ = some v) (h4 : A.frozen? ⟨Oc, 0, none⟩ = false)
    (h5 : A.ownsRow (Oc + 1) e size v n xs) (hg : (A.alloc ob).grownBy w1 v.ownBlock) : w1.cell? ⟨Oc, 0, none⟩ = some v ∧ w1.frozen? ⟨Oc, 0, none⟩ = false := by
  have hcr : Ch (fun j => v.ownBlock = some j) A w1 := (((Ch.refl (fun _ => False) A).alloc ob).mono (fun _ _ h => h.elim)).trans (ch_grown hg)
  exact ⟨hcr.cell h3 fun hj => by have := own_ge h5 _ hj; simp only at this; omega, (hcr.frozenCell h3 fun hj => by have := own_ge h5 _ hj; simp only at this; omega).trans h4⟩
/-- A round's append: the row has grown, the variable names it. -/
theorem IC.grow {w0 A w1 : World} {Oc : Nat} {k : Nat} {v v' : Value} {ob : Obj} (h2 : Below Oc w0 A) (hs0 : Oc ≤ w0.heap.size) (h3 : A.cell? ⟨Oc, 0, none⟩ = some v) (h4 : A.frozen? ⟨Oc, 0, none⟩ = false)
    (h5 : A.ownsRow (Oc + 1) e size v k (rf k))
    (ho : w1.ownsRow (Oc + 1) e size v' (k + 1) (rf (k + 1))) (hg : (A.alloc ob).grownBy w1 v.ownBlock) (hat : v'.ownBlock = v.ownBlock ∨ v'.ownBlock = some (A.alloc ob).heap.size) :
    Step (FC Oc) A (w1.setCell ⟨Oc, 0, none⟩ v') ∧ IC e size rf w0 Oc (k + 1) (w1.setCell ⟨Oc, 0, none⟩ v') := by
  have hz := h2.size
  have hge : ∀ j, v.ownBlock = some j → Oc + 1 ≤ j := fun j hj => own_ge h5 j hj
  have hcr : Ch (fun j => v.ownBlock = some j) A w1 := (((Ch.refl (fun _ => False) A).alloc ob).mono (fun _ _ h => h.elim)).trans (ch_grown hg)
  have e3 : w1.cell? ⟨Oc, 0, none⟩ = some v := hcr.cell h3 fun hj => by have := hge _ hj; simp only at this; omega
  have e4 : w1.frozen? ⟨Oc, 0, none⟩ = false := (hcr.frozenCell h3 fun hj => by have := hge _ hj; simp only at this; omega).trans h4
  have e5 : (w1.setCell ⟨Oc, 0, none⟩ v').cell? ⟨Oc, 0, none⟩ = some v' := World.cell?_setCell_same _ _ _ e3
  have hcW : Ch (fun j => j = Oc ∨ v.ownBlock = some j) A (w1.setCell ⟨Oc, 0, none⟩ v') := (hcr.mono fun _ _ h => .inr h).setCell _ _ (.inl (.inl rfl))
  refine ⟨⟨hcW.mono fun j _ hj => ?_, fun j hj => ?_⟩, h2.trans (hcW.below (fun j hj hn => ?_) (by omega)), v', e5, ?_, ?_⟩
  · rcases hj with hj | hj
    · exact .inr (.inl hj)
    · exact .inr (.inr ⟨v, h3, hj⟩)
  · rcases hj with hj | hj | ⟨v'', hv, hj⟩
    · exact .inl (.inl hj)
    · exact .inl (.inr (.inl hj))
    · rw [e5] at hv; injection hv with hv; subst hv
      rcases hat with ha | ha
      · rw [ha] at hj; exact .inl (.inr (.inr ⟨v, h3, hj⟩))
      · rw [ha] at hj; injection hj with hj; subst hj
        right; simp
  · rcases hn with hn | hn
    · omega
    · have := hge _ hn; omega
  · rw [World.frozen?_setCell]; exact e4
  · exact own_same ho fun g hg' => Below.heap_setCell w1 ⟨Oc, 0, none⟩ v' g (by have := own_ge ho g hg'; show g ≠ Oc; omega)
end
end Go.Proofs.Ythpagbfabpfngaa
/- Plain laws of this prover's own: append onto a row that the call owns, of whatever many elements of whatever slice (nil and none included): in a plain region's list, at one operation, inside a fence. No statement about the program. -/
namespace Go.Proofs.Ythpagbfabpfngaa
open Go.RowKit

theorem run_append_none {P : Program} (w : World) (t ty e : TypeId) (i : TypeInfo) (ht : P.underlying t = some (.slice e)) (hi : P.info? e = some i) (ad : Option Addr) (k c cx : Nat) (hk : k ≤ c) :
    (Builtin.append_ #[t, t] ty #[.slice ad k c, .slice none 0 cx]).run P w = .ok (.slice ad k c) w := by
  cases ad <;> simp [Builtin.append_, run_underlying ht, sizeOf, typeInfo, hi, Builtin.lenOf, Builtin.firstCells, loadCells, storeCells, hk]
/-- The run's equation, whatever the source. -/
theorem run_append_vary {P : Program} (w : World) (base : Nat) (t ty e : TypeId) (i : TypeInfo) (z : Value) (size bytes : Nat) (ht : P.underlying t = some (.slice e)) (hi : P.info? e = some i) (hz : i.zero = some z)
    (hsize : i.size = size) (hby : i.bytes = bytes) (hzs : z.cells.size = size) (hsz : 0 < size)
    (v : Value) (n : Nat) (xs : List Value) (hown : w.ownsRow base e size v n xs)
    (sp : Option Addr) (m c : Nat) (news : List Value) (hl : news.length = m * size) (hno : sp = none → m = 0) (hnews : ∀ ad, sp = some ad → ∀ j u, news[j]? = some u → w.cell? (ad.add j) = some u) (h1 : ∀ u ∈ news, u.oneCell' = true)
    (h63 : n + m ≤ maxLen) (hbytes : (n + m) * bytes ≤ 140737488355328) (hbase : base ≤ w.heap.size) :
    ∃ v' w', (Builtin.append_ #[t, t] ty #[v, .slice sp m c]).run P w = .ok v' w' ∧ w'.ownsRow base e size v' (n + m) (xs ++ news) ∧ w.grownBy w' v.ownBlock ∧ (v'.ownBlock = v.ownBlock ∨ v'.ownBlock = some w.heap.size) := by
  cases sp with
  | some ad =>
    obtain ⟨v', w', hr, h2, h3, _, h5⟩ := run_append_own_at (P := P) w base t ty e i z size bytes ht hi hz hsize hby hzs hsz v n xs hown ad m c news hl (hnews ad rfl) h1 h63 hbytes hbase
    exact ⟨v', w', hr, h2, h3, h5⟩
  | none =>
    obtain rfl := hno rfl
    obtain rfl : news = [] := by cases news with
      | nil => rfl
      | cons a l => simp at hl
    refine ⟨v, w, ?_, by simpa using hown, ⟨rfl, rfl, rfl, Nat.le_refl _, fun _ _ _ => rfl⟩, .inl rfl⟩
    rcases hown.2 with ⟨rfl, _⟩ | ⟨g, cap, cur, rfl, _, _, hc, _⟩
    · exact run_append_none w t ty e i ht hi none 0 0 c (Nat.le_refl _)
    · exact run_append_none w t ty e i ht hi _ n cap c hc
theorem wp_append_vary {P : Program} {o : Oper} {a : Act} {w : World} {K : Act → World → Prop} {Q : Exit → Act → World → Prop} (s x : Operand) (t : TypeId)
    (ho : o.op = .call { callee := .builtin .append, args := #[s, x], argTypes := #[t, t] })
    (base : Nat) (e : TypeId) (i : TypeInfo) (z : Value) (size bytes : Nat) (ht : P.underlying t = some (.slice e)) (hi : P.info? e = some i) (hz : i.zero = some z)
    (hsize : i.size = size) (hby : i.bytes = bytes) (hzs : z.cells.size = size) (hsz : 0 < size)
    (v : Value) (n : Nat) (xs : List Value) (hs : a.eval s = v) (hown : w.ownsRow base e size v n xs)
    (sp : Option Addr) (m c : Nat) (news : List Value) (hx : a.eval x = .slice sp m c) (hl : news.length = m * size) (hno : sp = none → m = 0) (hnews : ∀ ad, sp = some ad → ∀ j u, news[j]? = some u → w.cell? (ad.add j) = some u) (h1 : ∀ u ∈ news, u.oneCell' = true)
    (h63 : n + m ≤ maxLen) (hbytes : (n + m) * bytes ≤ 140737488355328) (hbase : base ≤ w.heap.size)
    (h : ∀ v' w', w'.ownsRow base e size v' (n + m) (xs ++ news) → w.grownBy w' v.ownBlock → (v'.ownBlock = v.ownBlock ∨ v'.ownBlock = some w.heap.size) → K (a.put o.dst v') w') :
    Oper.wp P o a w K Q := by
  obtain ⟨v', w', hr, h2, h3, h5⟩ := run_append_vary (P := P) w base t o.type e i z size bytes ht hi hz hsize hby hzs hsz v n xs hown sp m c news hl hno hnews h1 h63 hbytes hbase
  unfold Oper.wp execOp
  simp only [ho, resolve, invoke, builtin, Sem.run_bind, Sem.run_pure, Result.andThen_ok, List.map_toArray, List.map_cons, List.map_nil, hs, hx, hr]
  exact h v' w' h2 h3 h5
theorem wpList_append_vary {P : Program} {ops : Array Oper} {rest : List Oper} {o : Oper} {a : Act} {w : World} {Q : Exit → Act → World → Prop} (hgd : o.guard = none) (s x : Operand) (t : TypeId)
    (ho : o.op = .call { callee := .builtin .append, args := #[s, x], argTypes := #[t, t] })
    (base : Nat) (e : TypeId) (i : TypeInfo) (z : Value) (size bytes : Nat) (ht : P.underlying t = some (.slice e)) (hi : P.info? e = some i) (hz : i.zero = some z)
    (hsize : i.size = size) (hby : i.bytes = bytes) (hzs : z.cells.size = size) (hsz : 0 < size)
    (v : Value) (n : Nat) (xs : List Value) (hs : a.eval s = v) (hown : w.ownsRow base e size v n xs)
    (sp : Option Addr) (m c : Nat) (news : List Value) (hx : a.eval x = .slice sp m c) (hl : news.length = m * size) (hno : sp = none → m = 0) (hnews : ∀ ad, sp = some ad → ∀ j u, news[j]? = some u → w.cell? (ad.add j) = some u) (h1 : ∀ u ∈ news, u.oneCell' = true)
    (h63 : n + m ≤ maxLen) (hbytes : (n + m) * bytes ≤ 140737488355328) (hbase : base ≤ w.heap.size)
    (h : ∀ v' w', w'.ownsRow base e size v' (n + m) (xs ++ news) → w.grownBy w' v.ownBlock → (v'.ownBlock = v.ownBlock ∨ v'.ownBlock = some w.heap.size) → wpList P ops Q rest (a.put o.dst v') w') :
    wpList P ops Q (o :: rest) a w :=
  wpList_plain hgd fun _ hK => wp_append_vary s x t ho base e i z size bytes ht hi hz hsize hby hzs hsz v n xs hs hown sp m c news hx hl hno hnews h1 h63 hbytes hbase fun v' w' a1 a2 a3 => hK _ _ (h v' w' a1 a2 a3)
/-- A row that was just made, of no cells. -/
theorem own_fresh (w : World) (base : Nat) (e : TypeId) (size : Nat) (h : base ≤ w.heap.size) : (w.alloc (.cells #[] e)).ownsRow base e size (.slice (some ⟨w.heap.size, 0, none⟩) 0 0) 0 [] :=
  ⟨by simp, .inr ⟨w.heap.size, 0, #[], rfl, h, World.alloc_heap_new _ _, Nat.le_refl _, Nat.zero_le _, by simp, by simp⟩⟩
theorem rowI_one (l : List Int) : ∀ u ∈ rowI l, u.oneCell' = true := by
  intro u hu
  obtain ⟨x, _, rfl⟩ := List.mem_map.1 hu
  rfl
theorem rowI_at (l : List Int) (j : Nat) (u : Value) (h : (rowI l)[j]? = some u) : j < l.length ∧ u = .int .i64 (nth l j) := by
  have hj : j < l.length := by have := (List.getElem?_eq_some_iff.1 h).1; rwa [rowI_len] at this
  refine ⟨hj, ?_⟩
  unfold rowI at h
  rw [List.getElem?_map, nth_at l j hj] at h
  exact (Option.some.inj h).symm
end Go.Proofs.Ythpagbfabpfngaa
