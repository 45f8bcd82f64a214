/- The contract of flash's New. -/
import Derived.Test.YthpagbfabpfngaaFI
namespace Go.Proofs.Ythpagbfabpfngaa
open Go.RowKit

/-- May a device be so? -/
def okSize (sec wds lim : Int) : Prop := 1 ≤ sec ∧ sec ≤ 64 ∧ 1 ≤ wds ∧ wds ≤ 1024 ∧ 0 ≤ lim ∧ lim ≤ 1048576
def Dev.fresh (ns nw : Nat) (lim : Int) : Dev := ⟨ns, nw, lim, true, 0, false, 0, 0#32, fun _ _ => 4294967295#32, fun _ => 0⟩

theorem new_bad (sec wds lim : Int) (w : World) (h : ¬ okSize sec wds lim) : Calls Try.prog 9 #[.int .i64 sec, .int .i64 wds, .int .i64 lim] w fun e w' => e = .returned (.tuple #[.pointer none, .int .i64 64]) ∧ w = w' := by
  unfold okSize at h
  by_cases h1 : sec < 1
  · clear h
    go_enter Try.func9, Try.ntmps9
    go_wp2
    go_ret2
    exact ⟨rfl, rfl⟩
  by_cases h2 : 64 < sec
  · clear h
    go_enter Try.func9, Try.ntmps9
    go_wp2
    go_ret2
    exact ⟨rfl, rfl⟩
  by_cases h3 : wds < 1
  · clear h
    go_enter Try.func9, Try.ntmps9
    go_wp2
    go_ret2
    exact ⟨rfl, rfl⟩
  by_cases h4 : 1024 < wds
  · clear h
    go_enter Try.func9, Try.ntmps9
    go_wp2
    go_ret2
    exact ⟨rfl, rfl⟩
  by_cases h5 : lim < 0
  · clear h
    go_enter Try.func9, Try.ntmps9
    go_wp2
    go_ret2
    exact ⟨rfl, rfl⟩
  have h6 : 1048576 < lim := by omega
  clear h
  go_enter Try.func9, Try.ntmps9
  go_wp2
  go_ret2
  exact ⟨rfl, rfl⟩
theorem info93 : (Try.prog.info? 95).map (fun i => (i.zero, i.size, i.bytes)) = some (some (.agg #[.slice none 0 0, .int .i64 0]), 2, 32) := by kernel_rfl
theorem made_two (a b : Value) (n i : Nat) (hi : i < n) : (madeCells #[a, b] (n * 2)).toList[i * 2]? = some a ∧ (madeCells #[a, b] (n * 2)).toList[i * 2 + 1]? = some b := by
  unfold madeCells
  constructor
  · rw [Array.toList_map, List.getElem?_map, Array.toList_range, List.getElem?_range (by omega)]
    simp [Nat.mul_mod_left]
  · rw [Array.toList_map, List.getElem?_map, Array.toList_range, List.getElem?_range (by omega)]
    simp [Nat.add_mod]

/-- A device whose first k sectors have their words. -/
structure NewAt (w0 w : World) (q S : Nat) (g : Nat → Nat) (ns nw : Nat) (lim : Int) (k : Nat) : Prop where
  row : ∀ j u, (rowQ (Dev.fresh ns nw lim) S)[j]? = some u → w.cell? ⟨q, j, none⟩ = some u
  fq : ∀ j, w.frozen? ⟨q, j, none⟩ = false
  cs : ∀ i, i < k → w.cell? ⟨S, i * 2, none⟩ = some (.slice (some ⟨g i, 0, none⟩) nw nw)
  cr : ∀ i, k ≤ i → i < ns → w.cell? ⟨S, i * 2, none⟩ = some (.slice none 0 0)
  cw : ∀ i, i < ns → w.cell? ⟨S, i * 2 + 1, none⟩ = some (.int .i64 0)
  fs : ∀ j, w.frozen? ⟨S, j, none⟩ = false
  cg : ∀ i m, i < k → m < nw → w.cell? ⟨g i, m, none⟩ = some (.int .u32 4294967295)
  fg : ∀ i m, i < k → m < nw → w.frozen? ⟨g i, m, none⟩ = false
  qs : q ≠ S
  gq : ∀ i, i < k → g i ≠ q ∧ g i ≠ S
  gi : ∀ i j, i < k → j < k → g i = g j → i = j
  lo : w0.heap.size ≤ q ∧ w0.heap.size ≤ S ∧ ∀ i, i < k → w0.heap.size ≤ g i
  hi : q < w.heap.size ∧ S < w.heap.size ∧ ∀ i, i < k → g i < w.heap.size
  below : Below w0.heap.size w0 w
theorem NewAt.dev {w0 w : World} {q S : Nat} {g : Nat → Nat} {ns nw : Nat} {lim : Int} (h : NewAt w0 w q S g ns nw lim ns) (hz : ns ≤ 64 ∧ nw ≤ 1024 ∧ 0 < ns ∧ 0 < nw) : DevAt w q S g (Dev.fresh ns nw lim) :=
  ⟨h.row 0 _ rfl, h.row 1 _ rfl, h.row 2 _ rfl, h.row 3 _ rfl, h.row 4 _ rfl, h.row 5 _ rfl, h.row 6 _ rfl, h.row 7 _ rfl, h.fq, h.cs, h.cw, h.fs, h.cg, h.fg, h.qs, h.gq, h.gi, hz⟩
theorem NewAt.keep {w0 w w' : World} {q S : Nat} {g : Nat → Nat} {ns nw : Nat} {lim : Int} {k : Nat} (h : NewAt w0 w q S g ns nw lim k) (hb : Below w.heap.size w w') : NewAt w0 w' q S g ns nw lim k := by
  have c : ∀ b j, b < w.heap.size → w'.cell? ⟨b, j, none⟩ = w.cell? ⟨b, j, none⟩ := fun b j h => hb.cell (p := ⟨b, j, none⟩) h
  have f : ∀ b j, b < w.heap.size → w'.frozen? ⟨b, j, none⟩ = w.frozen? ⟨b, j, none⟩ := fun b j h => (Ch.new (T := fun _ => False) hb).frozen (p := ⟨b, j, none⟩) h (fun h => h)
  exact ⟨fun j u hu => (c _ _ h.hi.1).trans (h.row j u hu), fun j => (f _ _ h.hi.1).trans (h.fq j), fun i hi => (c _ _ h.hi.2.1).trans (h.cs i hi), fun i h1 h2 => (c _ _ h.hi.2.1).trans (h.cr i h1 h2), fun i hi => (c _ _ h.hi.2.1).trans (h.cw i hi), fun j => (f _ _ h.hi.2.1).trans (h.fs j),
    fun i m hi hm => (c _ _ (h.hi.2.2 i hi)).trans (h.cg i m hi hm), fun i m hi hm => (f _ _ (h.hi.2.2 i hi)).trans (h.fg i m hi hm), h.qs, h.gq, h.gi, h.lo, ⟨Nat.lt_of_lt_of_le h.hi.1 hb.size, Nat.lt_of_lt_of_le h.hi.2.1 hb.size, fun i hi => Nat.lt_of_lt_of_le (h.hi.2.2 i hi) hb.size⟩,
    h.below.trans (hb.mono h.below.size)⟩
/-- A sector more has its words. -/
theorem NewAt.more {w0 w : World} {q S : Nat} {g : Nat → Nat} {ns nw : Nat} {lim : Int} {k N : Nat} (h : NewAt w0 w q S g ns nw lim k) (hk : k < ns) (hN : N < w.heap.size) (h0 : w0.heap.size ≤ N) (hq : N ≠ q) (hS : N ≠ S) (hg : ∀ i, i < k → g i ≠ N)
    (hc : ∀ m, m < nw → w.cell? ⟨N, m, none⟩ = some (.int .u32 4294967295)) (hf : ∀ m, m < nw → w.frozen? ⟨N, m, none⟩ = false) :
    NewAt w0 (w.setCell ⟨S, k * 2, none⟩ (.slice (some ⟨N, 0, none⟩) nw nw)) q S (fun i => if i = k then N else g i) ns nw lim (k + 1) := by
  have far : ∀ b j, b ≠ S → (w.setCell ⟨S, k * 2, none⟩ (.slice (some ⟨N, 0, none⟩) nw nw)).cell? ⟨b, j, none⟩ = w.cell? ⟨b, j, none⟩ := fun b j hb =>
    World.cell?_setCell_other _ _ _ _ (fun e' => hb (by injection e' with e' _; exact e'.symm))
  have far2 : ∀ j, j ≠ k * 2 → (w.setCell ⟨S, k * 2, none⟩ (.slice (some ⟨N, 0, none⟩) nw nw)).cell? ⟨S, j, none⟩ = w.cell? ⟨S, j, none⟩ := fun j hb =>
    World.cell?_setCell_other _ _ _ _ (fun e' => hb (by injection e' with _ e'; exact e'.symm))
  refine ⟨fun j u hu => (far _ _ h.qs).trans (h.row j u hu), fun j => by rw [World.frozen?_setCell]; exact h.fq j, fun i hi => ?_, fun i h1 h2 => (far2 _ (by omega)).trans (h.cr i (by omega) h2), fun i hi => (far2 _ (by omega)).trans (h.cw i hi), fun j => by rw [World.frozen?_setCell]; exact h.fs j,
    fun i m hi hm => ?_, fun i m hi hm => ?_, h.qs, fun i hi => ?_, fun i j hi hj => ?_, ⟨h.lo.1, h.lo.2.1, fun i hi => ?_⟩, ⟨by rw [World.size_setCell]; exact h.hi.1, by rw [World.size_setCell]; exact h.hi.2.1, fun i hi => ?_⟩, h.below.setCell h.lo.2.1 _⟩
  · show _ = some (Value.slice (some ⟨if i = k then N else g i, 0, none⟩) nw nw)
    by_cases e : i = k
    · subst e; rw [if_pos rfl]; exact World.cell?_setCell_same _ _ _ (h.cr i (Nat.le_refl _) hk)
    · rw [if_neg e, far2 _ (by omega)]; exact h.cs i (by omega)
  · show (w.setCell _ _).cell? ⟨if i = k then N else g i, m, none⟩ = _
    by_cases e : i = k
    · rw [if_pos e, far _ _ hS]; exact hc m hm
    · rw [if_neg e, far _ _ (h.gq i (by omega)).2]; exact h.cg i m (by omega) hm
  · show (w.setCell _ _).frozen? ⟨if i = k then N else g i, m, none⟩ = _
    rw [World.frozen?_setCell]
    by_cases e : i = k
    · rw [if_pos e]; exact hf m hm
    · rw [if_neg e]; exact h.fg i m (by omega) hm
  · show (if i = k then N else g i) ≠ q ∧ (if i = k then N else g i) ≠ S
    by_cases e : i = k
    · rw [if_pos e]; exact ⟨hq, hS⟩
    · rw [if_neg e]; exact h.gq i (by omega)
  · show (if i = k then N else g i) = (if j = k then N else g j) → i = j
    by_cases e : i = k
    · by_cases e2 : j = k
      · intro _; omega
      · rw [if_pos e, if_neg e2]; intro e3; exact absurd e3.symm (hg j (by omega))
    · by_cases e2 : j = k
      · rw [if_neg e, if_pos e2]; intro e3; exact absurd e3 (hg i (by omega))
      · rw [if_neg e, if_neg e2]; exact h.gi i j (by omega) (by omega)
  · show w0.heap.size ≤ (if i = k then N else g i)
    by_cases e : i = k
    · rw [if_pos e]; exact h0
    · rw [if_neg e]; exact h.lo.2.2 i (by omega)
  · show (if i = k then N else g i) < _
    rw [World.size_setCell]
    by_cases e : i = k
    · rw [if_pos e]; exact hN
    · rw [if_neg e]; exact h.hi.2.2 i (by omega)
end Go.Proofs.Ythpagbfabpfngaa
