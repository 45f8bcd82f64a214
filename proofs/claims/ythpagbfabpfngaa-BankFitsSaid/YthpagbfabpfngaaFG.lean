/- The contracts of slices.Clone and flash's Sector. -/
import Derived.Test.YthpagbfabpfngaaFF
namespace Go.Proofs.Ythpagbfabpfngaa
open Go.RowKit

theorem fresh27 (w : World) (base : Nat) (h : base ≤ w.heap.size) : (w.alloc (.cells #[] 26)).ownsRow base 26 1 (.slice (some ⟨w.heap.size, 0, none⟩) 0 0) 0 [] :=
  ⟨rfl, .inr ⟨w.heap.size, 0, #[], rfl, h, World.alloc_heap_new _ _, Nat.le_refl _, Nat.zero_le _, rfl, rfl⟩⟩
theorem rowB_one (l : List (BitVec 32)) : ∀ u ∈ rowB l, u.oneCell' = true := by
  intro u hu
  obtain ⟨x, _, rfl⟩ := List.mem_map.1 hu
  rfl
theorem own_valB {A : World} {base : Nat} {e : TypeId} {size : Nat} {v : Value} {n : Nat} {xs : List Value} (h : A.ownsRow base e size v n xs) : ∃ sp cap, v = .slice sp n cap := by
  rcases h.2 with ⟨h0, h1⟩ | ⟨g, cap, cur, hv, _⟩
  · exact ⟨none, 0, by rw [h0, h1]⟩
  · exact ⟨_, _, hv⟩
theorem eqlIn_nil (d : Nat) (a : Addr) (l c : Nat) (w : World) : (Op.equalIn (d + 1) 24 (.slice (some a) l c) (.slice none 0 0)).run Try.prog w = .ok false w := by
  simp [Op.equalIn, run_underlying Try.underlying24]
theorem eql_nil (a : Addr) (l c : Nat) (w : World) : (Go.binOp .eql 24 (.slice (some a) l c) (.slice none 0 0)).run Try.prog w = .ok (.bool false) w := by
  have h : (Op.equal 24 (.slice (some a) l c) (.slice none 0 0)).run Try.prog w = .ok false w := eqlIn_nil 9999 a l c w
  simp [Go.binOp, h]

set_option maxRecDepth 100000 in
theorem clone_any (l : List (BitVec 32)) (b off c : Nat) (w : World) (hl : ∀ j u, (rowB l)[j]? = some u → w.cell? ((⟨b, off, none⟩ : Addr).add j) = some u) (hb : b < w.heap.size) (hn : l.length ≤ 100000) :
    Calls Try.prog 67 #[.slice (some ⟨b, off, none⟩) l.length c] w fun e w' => ∃ v, e = .returned v ∧ w'.ownsRow w.heap.size 26 1 v l.length (rowB l) ∧ Below w.heap.size w w' := by
  obtain ⟨i0, hi, hz0, hz1, hz2⟩ := info_parts infoB
  have HL := Lib.hid (show ∀ j u, (rowB l)[j]? = some u → (w.alloc (.cells #[] 26)).cell? ((⟨b, off, none⟩ : Addr).add j) = some u from fun j u hu => by
    have h1 := hl j u hu
    rw [show (⟨b, off, none⟩ : Addr).add j = ⟨b, off + j, none⟩ from Addr.add_lit ..] at h1 ⊢
    exact ((Below.refl w.heap.size w).alloc (Nat.le_refl _) (.cells #[] 26)).cell (p := ⟨b, off + j, none⟩) hb |>.trans h1)
  have HR := Lib.hid (show (rowB l).length = l.length * 1 by unfold rowB; rw [List.length_map]; omega)
  have HB := Lib.hid (show 0 + l.length ≤ maxLen ∧ (0 + l.length) * 4 ≤ 140737488355328 ∧ w.heap.size ≤ (w.alloc (.cells #[] 26)).heap.size by rw [World.size_alloc]; unfold maxLen; omega)
  have hnil := eql_nil
  clear hl hb hn
  go_enter Try.func67, Try.ntmps67
  go_wp2_with (first
    | (at_builtin; refine wpList_append_own _ rfl (.tmp 5) (.tmp 6) 24 rfl w.heap.size 26 i0 (.int .u32 0) 1 4 Try.underlying24 hi hz0 hz1 hz2 rfl (by decide) _ 0 [] rfl (fresh27 w _ (Nat.le_refl _)) ⟨b, off, none⟩ l.length c (rowB l) rfl HR.out HL.out (rowB_one _) HB.out.1 HB.out.2.1 HB.out.2.2 ?_; intro v1 w1 hown1 hg1 _; rw [Nat.zero_add, List.nil_append] at hown1; obtain ⟨spx, cpx, rfl⟩ := own_valB hown1; have HG := Lib.hid (And.intro hown1 (Below.grown ((Below.refl w.heap.size w).alloc (Nat.le_refl _) _) hg1 HB.out.2.2 (fun j e => ((fresh27 w _ (Nat.le_refl _)).lt j e).1))); clear hown1 hg1)
    | fail)
  go_ret
  exact ⟨_, rfl, HG.out⟩
/-- The words of a sector. -/
def Dev.ws (d : Dev) (i : Nat) : List (BitVec 32) := (List.range d.nw).map (d.word i)
theorem ws_len (d : Dev) (i : Nat) : (d.ws i).length = d.nw := by simp [Dev.ws]
variable {w w' : World} {q S : Nat} {g : Nat → Nat} {d : Dev}
theorem ws_cells (h : DevAt w q S g d) (i : Nat) (hi : i < d.ns) : ∀ j u, (rowB (d.ws i))[j]? = some u → w.cell? ((⟨g i, 0, none⟩ : Addr).add j) = some u := by
  intro j u hu
  rw [show (⟨g i, 0, none⟩ : Addr).add j = ⟨g i, 0 + j, none⟩ from Addr.add_lit .., Nat.zero_add]
  unfold rowB Dev.ws at hu
  rw [List.map_map, List.getElem?_map] at hu
  by_cases hj : j < d.nw
  · rw [List.getElem?_range hj] at hu
    rw [← hu]
    exact h.cg i j hi hj
  · rw [List.getElem?_eq_none (by simp; omega)] at hu
    cases hu
theorem sector_any (h : DevAt w q S g d) (s : Int) : Calls Try.prog 23 #[.pointer (some ⟨q, 0, none⟩), .int .i64 s] w fun e w' =>
    ∃ v, e = .returned v ∧ (if d.has s then w'.ownsRow w.heap.size 26 1 v d.nw (rowB (d.ws s.toNat)) else v = .slice none 0 0) ∧ Below w.heap.size w w' := by
  have hh := hasD_any h s
  cases hs : d.has s with
  | true =>
    rw [hs] at hh
    have HH := Lib.hid hh
    unfold Dev.has at hs
    simp at hs
    obtain ⟨i, rfl⟩ : ∃ i : Nat, s = i := ⟨s.toNat, by omega⟩
    have c0 := h.c0
    have c1 := h.cs i (by omega)
    have i0 : (0 : Int) ≤ (i : Int) := by omega
    have i1 : (i : Int) < (d.ns : Int) := hs.2
    have hc := clone_any (d.ws i) (g i) 0 d.nw w (ws_cells h i (by omega)) (h.own_lt _ (.inr (.inr ⟨i, by omega, rfl⟩))) (by rw [ws_len]; have := h.zn; omega)
    rw [ws_len] at hc
    have HC := Lib.hid hc
    simp only [Int.toNat_natCast, if_true]
    clear h hh hs hc
    go_enter Try.func23, Try.ntmps23
    go_wp2_with (first
      | (go_at_call 66; refine HH.out.mono ?_; rintro e w' ⟨rfl, rfl⟩)
      | (go_at_call 67; refine HC.out.mono ?_; rintro e w2 ⟨v2, rfl, ho2, hb2⟩; have HO2 := Lib.hid (And.intro ho2 hb2); clear ho2 hb2)
      | fail)
    go_ret
    exact ⟨_, rfl, HO2.out⟩
  | false =>
    rw [hs] at hh
    have HH := Lib.hid hh
    simp only [Bool.false_eq_true, if_false]
    clear h hh hs
    go_enter Try.func23, Try.ntmps23
    go_wp2_with (go_at_call 66; refine HH.out.mono ?_; rintro e w' ⟨rfl, rfl⟩)
    go_ret
    exact ⟨_, rfl, rfl, Below.refl _ _⟩
end Go.Proofs.Ythpagbfabpfngaa
